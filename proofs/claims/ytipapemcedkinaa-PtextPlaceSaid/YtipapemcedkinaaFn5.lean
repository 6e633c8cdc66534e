/- Contracts of the specification's Check and Parts, of Light, measures, Size, Deep, of layer 7 (ptext). -/
import Derived.Test.YtipapemcedkinaaFn4
namespace Go.Proofs.Ytipapemcedkinaa
open Go.RowKit

mutual
def Ex.dp : Ex → Nat | .mk _ _ ks => dpL ks + 1
def dpL : List Ex → Nat
  | [] => 0
  | t :: r => max t.dp (dpL r)
end
theorem dp_eq (t : Ex) : t.dp = dpL t.ks + 1 := by cases t; rfl
mutual
theorem dp_le : ∀ t : Ex, t.dp ≤ t.sz
  | .mk _ _ ks => by
    have := dpL_le ks
    show dpL ks + 1 ≤ 1 + szL ks
    omega
theorem dpL_le : ∀ l : List Ex, dpL l ≤ szL l
  | [] => Nat.le_refl _
  | t :: r => by
    have := dp_le t
    have := dpL_le r
    show max t.dp (dpL r) ≤ t.sz + szL r
    omega
end
theorem szL_snoc : ∀ (l : List Ex) (t : Ex), szL (l ++ [t]) = szL l + t.sz
  | [], t => by show t.sz + 0 = 0 + t.sz; omega
  | a :: r, t => by
    have := szL_snoc r t
    show a.sz + szL (r ++ [t]) = a.sz + szL r + t.sz
    omega
theorem dpL_snoc : ∀ (l : List Ex) (t : Ex), dpL (l ++ [t]) = max (dpL l) t.dp
  | [], t => by show max t.dp 0 = max 0 t.dp; omega
  | a :: r, t => by
    have := dpL_snoc r t
    show max a.dp (dpL (r ++ [t])) = max (max a.dp (dpL r)) t.dp
    omega
theorem kd_take {l : List Ex} {i : Nat} (h : i < l.length) : l.take (i + 1) = l.take i ++ [kd l i] := by
  rw [List.take_succ_eq_append_getElem h]; unfold kd; simp [List.getD, List.getElem?_eq_getElem h]
theorem szL_take (l : List Ex) (i : Nat) : szL (l.take i) ≤ szL l := by
  induction l generalizing i with
  | nil => simp
  | cons a r ih =>
    cases i with
    | zero => simp [szL]
    | succ i => show a.sz + szL (r.take i) ≤ a.sz + szL r; have := ih i; omega
set_option maxHeartbeats 1000000 in
theorem rf_Check (t : Ex) (A : Option Addr) (c : Nat) (w : World) (hs : t.sz ≤ 100000000) (hR : Rep w.heap.size w A t) : Calls Try.prog 18 #[exV t A c] w fun e w' => e = .returned (.int .i64 (chkE t)) ∧ Below w.heap.size w w' := by
  have HB : Hid (∀ ob, Below w.heap.size w (w.alloc ob)) := Lib.hid (fun ob => (Below.refl _ _).alloc (Nat.le_refl _) ob)
  have HC : Hid (∀ ob, Calls Try.prog 33 #[exV t A c, .int .i64 1, .int .i64 0] (w.alloc ob) (Two (chk t 1 0) (w.alloc ob))) := Lib.hid (fun ob => rf_check t.sz t (Nat.le_refl _) A c 1 0 _ (hR.step (HB.out ob)) (by omega) (by omega))
  clear hR
  go_enter Try.func18, Try.ntmps18
  go_wp2_with (go_at_call 33; (with_reducible refine (HC.out _).mono ?_); rintro e w1 ⟨rfl, hb1⟩; have HB1 := Lib.hid hb1; clear hb1)
  go_ret
  exact ⟨rfl, bt (HB.out _) HB1.out⟩
end Go.Proofs.Ytipapemcedkinaa
