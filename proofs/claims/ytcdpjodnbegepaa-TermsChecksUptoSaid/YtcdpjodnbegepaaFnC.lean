/- Depth; contracts of the specification's Parts and of Light, of layer 30 (terms). -/
import Derived.Test.YtcdpjodnbegepaaFn4
namespace Go.Proofs.Ytcdpjodnbegepaa
open Go.RowKit

mutual
def Ex.dp : Ex → Nat | .mk _ _ _ ks => dpL ks + 1
def dpL : List Ex → Nat
  | [] => 0
  | t :: r => max t.dp (dpL r)
end
theorem dp_eq (t : Ex) : t.dp = dpL t.ks + 1 := by cases t; rfl
mutual
theorem dp_le : ∀ t : Ex, t.dp ≤ t.sz
  | .mk _ _ _ ks => by
    have := dpL_le ks
    show dpL ks + 1 ≤ 1 + szL ks
    omega
theorem dpL_le : ∀ l : List Ex, dpL l ≤ szL l
  | [] => Nat.le_refl _
  | t :: r => by
    have := dp_le t
    have := dpL_le r
    show max t.dp (dpL r) ≤ t.sz + szL r
    omega
end
theorem szL_snoc : ∀ (l : List Ex) (t : Ex), szL (l ++ [t]) = szL l + t.sz
  | [], t => by show t.sz + 0 = 0 + t.sz; omega
  | a :: r, t => by
    have := szL_snoc r t
    show a.sz + szL (r ++ [t]) = a.sz + szL r + t.sz
    omega
theorem dpL_snoc : ∀ (l : List Ex) (t : Ex), dpL (l ++ [t]) = max (dpL l) t.dp
  | [], t => by show max t.dp 0 = max 0 t.dp; omega
  | a :: r, t => by
    have := dpL_snoc r t
    show max a.dp (dpL (r ++ [t])) = max (max a.dp (dpL r)) t.dp
    omega
theorem kd_take {l : List Ex} {i : Nat} (h : i < l.length) : l.take (i + 1) = l.take i ++ [kd l i] := by
  rw [List.take_succ_eq_append_getElem h]; unfold kd; simp [List.getD, List.getElem?_eq_getElem h]
theorem szL_take (l : List Ex) (i : Nat) : szL (l.take i) ≤ szL l := by
  induction l generalizing i with
  | nil => simp
  | cons a r ih =>
    cases i with
    | zero => simp [szL]
    | succ i => show a.sz + szL (r.take i) ≤ a.sz + szL r; have := ih i; omega
set_option maxHeartbeats 4000000 in
theorem rf_Parts : ∀ (n : Nat) t, t.sz ≤ n → n ≤ 100000000 → ∀ A c w, Rep w.heap.size w A t →
    Calls Try.prog 13 #[exV t A c] w fun e w' => e = .returned (.tuple #[.int .i64 (t.sz : Nat), .int .i64 (t.dp : Nat)]) ∧ Below w.heap.size w w' := by
  intro n
  induction n with
  | zero => intro t h; have := sz_eq t; omega
  | succ n ih =>
    intro t ht hn A c w hR
    have HIH := Lib.hid (fun t h => ih t h (by omega))
    have HR := Lib.hid hR
    have hlen := szL_len t.ks
    have hszt := sz_eq t
    have hdpt := dp_eq t
    have hkb : t.ks.length ≤ 100000000 := by omega
    have hsb : szL t.ks ≤ 100000000 := by omega
    have HSZ := Lib.hid hszt
    have HDP := Lib.hid hdpt
    clear ih hR hszt hdpt
    have HB : Hid (∀ ob, Below w.heap.size w (w.alloc ob)) := Lib.hid (fun ob => (Below.refl _ _).alloc (Nat.le_refl _) ob)
    have HX : Hid (∀ wr, Below (w.alloc (.cells (exC t A c) 24)).heap.size (w.alloc (.cells (exC t A c) 24)) wr → (wr.cell? ⟨w.heap.size, 0, none⟩ = some (.int .i64 t.op) ∧ wr.cell? ⟨w.heap.size, 1, none⟩ = some (.int .i64 t.vr) ∧ wr.cell? ⟨w.heap.size, 2, none⟩ = some (.string t.nm) ∧ wr.cell? ⟨w.heap.size, 3, none⟩ = some (.slice A t.ks.length c)) ∧ Below w.heap.size w wr ∧ w.heap.size < wr.heap.size) := Lib.hid (fun wr h => by
        have hk := (Blk.new w 24 (exC t A c))
        have hsz : (w.alloc (.cells (exC t A c) 24)).heap.size = w.heap.size + 1 := by simp
        have hk2 : Blk wr w.heap.size 24 (exC t A c) := (h.block _ (by rw [hsz]; omega)).trans hk
        refine ⟨⟨hk2.cell 0, hk2.cell 1, hk2.cell 2, hk2.cell 3⟩, (HB.out _).trans (h.mono (HB.out _).size), ?_⟩
        have := h.size
        rw [hsz] at this
        omega)
    go_enter Try.func13, Try.ntmps13
    go_wp2_with fail
    go_loopw [4, 5, 6] (fun a b i wr => ∃ (j : Nat), j ≤ t.ks.length ∧ i = .int .i64 (j : Int) ∧ Hid (a = .int .i64 ((1 + szL (t.ks.take j) : Nat) : Int) ∧ b = .int .i64 ((dpL (t.ks.take j) : Nat) : Int)) ∧ Below (w.alloc (.cells (exC t A c) 24)).heap.size (w.alloc (.cells (exC t A c) 24)) wr) (fun _ _ i _ => t.ks.length - (intOf i).toNat)
    case atStart => exact ⟨0, Nat.zero_le _, rfl, Lib.hid ⟨rfl, rfl⟩, Below.refl _ _⟩
    case round =>
      obtain ⟨j, hj, rfl, HAB, hb⟩ := hrel
      obtain ⟨⟨q0, q1, q2, q3⟩, hbw, hszr⟩ := HX.out _ hb
      obtain ⟨rfl, rfl⟩ := HAB.out
      by_cases hlt : j < t.ks.length
      · have l1 : (j : Int) < (t.ks.length : Int) := by omega
        obtain ⟨b, f0, rfl, hbl, hc⟩ := HR.out.out (by omega)
        obtain ⟨ka, kc, c0, c1, c2, c3, hRk⟩ := hc j hlt
        have d0 := (hbw.cell (p := ⟨b, f0 + j * 4, none⟩) hbl).trans c0
        have d1 := (hbw.cell (p := ⟨b, f0 + j * 4 + 1, none⟩) hbl).trans c1
        have d2 := (hbw.cell (p := ⟨b, f0 + j * 4 + 2, none⟩) hbl).trans c2
        have d3 := (hbw.cell (p := ⟨b, f0 + j * 4 + 3, none⟩) hbl).trans c3
        have HRk := Lib.hid (hRk.step hbw)
        have hu := kd_sz hlt
        have e1 := szL_snoc (t.ks.take j) (kd t.ks j)
        have e2 := dpL_snoc (t.ks.take j) (kd t.ks j)
        rw [← kd_take hlt] at e1 e2
        have hm := szL_take t.ks (j + 1)
        have hm2 := dpL_le (t.ks.take (j + 1))
        clear hc c0 c1 c2 c3 hRk
        have HC := Lib.hid (HIH.out (kd t.ks j) (by omega) ka kc wr HRk.out)
        generalize kd t.ks j = u at *
        obtain ⟨s1, hs1⟩ : ∃ s1, szL (t.ks.take j) = s1 := ⟨_, rfl⟩
        obtain ⟨s2, hs2⟩ : ∃ s2, dpL (t.ks.take j) = s2 := ⟨_, rfl⟩
        rw [hs1] at e1 ⊢
        rw [hs2] at e2 ⊢
        have b1 : s1 + u.sz ≤ 100000000 := by omega
        have b2 : s2 ≤ 100000000 := by omega
        have b3 : u.dp ≤ 100000000 := by omega
        have E1 := Lib.hid e1
        have E2 := Lib.hid e2
        clear e1 e2 hs1 hs2 hu hm hm2 HAB
        go_wp2_with (go_at_call 13; (with_reducible refine HC.out.mono ?_); rintro e w3 ⟨rfl, hb3⟩; have HB3 := Lib.hid (hb.trans (hb3.mono hb.size)); clear hb3)
        go_roundw
        case rel => exact ⟨j + 1, by omega, by go_num, Lib.hid ⟨by rw [E1.out]; go_num, by rw [E2.out]; go_num⟩, HB3.out⟩
        case measure => simp [intOf]; try omega
      · have l1 : ¬ (j : Int) < (t.ks.length : Int) := by omega
        obtain rfl : j = t.ks.length := by omega
        rw [List.take_length]
        have hd := dpL_le t.ks
        clear HAB
        go_wp2
        go_ret2
        exact ⟨by rw [HSZ.out, HDP.out]; go_num, hbw⟩
def lightS (t : Ex) : Bool := decide (t.sz ≤ 300) && decide (t.dp ≤ 80)
set_option maxHeartbeats 1000000 in
theorem lw_Light (t : Ex) (A : Option Addr) (c : Nat) (w : World) (hs : t.sz ≤ 100000000) (hR : Rep w.heap.size w A t) : Calls Try.prog 9 #[exV t A c] w fun e w' => e = .returned (.bool (lightS t)) ∧ Below w.heap.size w w' := by
  have HB : Hid (∀ ob, Below w.heap.size w (w.alloc ob)) := Lib.hid (fun ob => (Below.refl _ _).alloc (Nat.le_refl _) ob)
  have HC : Hid (∀ ob, Calls Try.prog 13 #[exV t A c] (w.alloc ob) fun e w' => e = .returned (.tuple #[.int .i64 (t.sz : Nat), .int .i64 (t.dp : Nat)]) ∧ Below (w.alloc ob).heap.size (w.alloc ob) w') := Lib.hid (fun ob => rf_Parts t.sz t (Nat.le_refl _) hs A c _ (hR.step (HB.out ob)))
  obtain ⟨R, hRs⟩ : ∃ R, lightS t = R := ⟨_, rfl⟩
  rw [hRs]
  unfold lightS at hRs
  have hd := dp_le t
  clear hR
  by_cases g : t.sz ≤ 300 <;> by_cases g2 : t.dp ≤ 80
  all_goals
    have X : Hid (R = (decide (t.sz ≤ 300) && decide (t.dp ≤ 80))) := Lib.hid hRs.symm
    clear hRs
    have k1 : decide ((t.sz : Int) ≤ 300) = decide (t.sz ≤ 300) := by rw [decide_eq_decide]; omega
    have k2 : decide ((t.dp : Int) ≤ 80) = decide (t.dp ≤ 80) := by rw [decide_eq_decide]; omega
    simp only [g, g2, decide_true, decide_false, Bool.and_true, Bool.and_false] at X k1 k2
    rw [X.out]
    go_enter Try.func9, Try.ntmps9
    go_wp2_with (go_at_call 13; (with_reducible refine (HC.out _).mono ?_); rintro e w1 ⟨rfl, hb1⟩; have HB1 := Lib.hid hb1; clear hb1)
    all_goals
      go_ret
      exact ⟨by first | rfl | simp_all, bt (HB.out _) HB1.out⟩
end Go.Proofs.Ytcdpjodnbegepaa
