/- Contracts of Light, measures, Size, Deep, of layer 6 (prop). -/
import Derived.Test.YtakhdlidikbnjaaFn5
namespace Go.Proofs.Ytakhdlidikbnjaa
open Go.RowKit

def lightB (t : Ex) : Bool := decide (t.sz ≤ 400) && decide (t.dp ≤ 80)
set_option maxHeartbeats 1000000 in
theorem law_Light (t : Ex) (A : Option Addr) (c : Nat) (w : World) (hs : t.sz ≤ 100000000) (hR : Rep w.heap.size w A t) : Calls Try.prog 7 #[exV t A c] w fun e w' => e = .returned (.bool (lightB t)) ∧ Below w.heap.size w w' := by
  have HB : Hid (∀ ob, Below w.heap.size w (w.alloc ob)) := Lib.hid (fun ob => (Below.refl _ _).alloc (Nat.le_refl _) ob)
  have HC := Lib.hid (fun ob => rf_Parts t.sz t (Nat.le_refl _) hs A c (w.alloc ob) (hR.step (HB.out ob)))
  obtain ⟨R, hRR⟩ : ∃ R, lightB t = R := ⟨_, rfl⟩
  rw [hRR]
  unfold lightB at hRR
  have HL := Lib.hid hRR
  clear hR hRR hs
  generalize t.sz = a at *
  generalize t.dp = b at *
  by_cases h1 : a ≤ 400 <;> by_cases h2 : b ≤ 80
  all_goals
    first | (have g1 : (a : Int) ≤ 400 := by omega) | (have g1 : ¬ (a : Int) ≤ 400 := by omega)
    first | (have g2 : (b : Int) ≤ 80 := by omega) | (have g2 : ¬ (b : Int) ≤ 80 := by omega)
    have X : Hid (R = (decide (a ≤ 400) && decide (b ≤ 80))) := Lib.hid HL.out.symm
    go_enter Try.func7, Try.ntmps7
    go_wp2_with (go_at_call 10; (with_reducible refine (HC.out _).mono ?_); rintro e w1 ⟨rfl, hb1⟩; have HB1 := Lib.hid hb1; clear hb1)
    go_ret
    exact ⟨by rw [X.out]; simp [h1, h2] <;> omega, bt (HB.out _) HB1.out⟩
def stM (s : Int × Int) (_t : Ex) (d : Int) : (Int × Int) × Bool := ((wrap64 (s.1 + 1), max s.2 d), true)
def InM (bn bf : Nat) (S : Nat → Prop) (s : Int × Int) (w : World) : Prop := S bn ∧ S bf ∧ bn ≠ bf ∧ Blk w bn 3 #[.int .i64 s.1] ∧ Blk w bf 3 #[.int .i64 s.2]
theorem InM.kept (bn bf : Nat) : KeptI (InM bn bf) where
  step := fun S s w w' h hb => ⟨h.1, h.2.1, h.2.2.1, h.2.2.2.1.below hb h.2.2.2.1.lt, h.2.2.2.2.below hb h.2.2.2.2.lt⟩
  narrow := fun S s w h hi hh => ⟨⟨hi.1, fun e => by have := hi.2.2.2.1.lt; omega⟩, ⟨hi.2.1, fun e => by have := hi.2.2.2.2.lt; omega⟩, hi.2.2⟩
  widen := fun S S' s w h hs => ⟨hs _ h.1, hs _ h.2.1, h.2.2⟩
set_option maxHeartbeats 2000000 in
theorem pr_measures1 (bn bf : Nat) (S : Nat → Prop) (s : Int × Int) (w : World) (t : Ex) (A : Option Addr) (c : Nat) (d : Int) (hI : InM bn bf S s w) :
    Calls Try.prog 47 #[exV t A c, .int .i64 d, .pointer (some ⟨bn, 0, none⟩), .pointer (some ⟨bf, 0, none⟩)] w (VisP (InM bn bf) S w (stM s t d)) := by
  obtain ⟨h1, h2, h3, h4, h5⟩ := hI
  obtain ⟨s1, s2⟩ := s
  have e0 : w.cell? ⟨bn, 0, none⟩ = some (.int .i64 s1) := h4.cell 0
  have e1 : w.cell? ⟨bf, 0, none⟩ = some (.int .i64 s2) := h5.cell 0
  have f0 := h4.frozen 0
  have f1 := h5.frozen 0
  have hl4 := h4.lt
  have hl5 := h5.lt
  have H4 := Lib.hid h4
  have H5 := Lib.hid h5
  clear h4 h5
  by_cases hm : s2 < d
  all_goals
    first | (have em := Lib.hid (show max s2 d = d by omega)) | (have em := Lib.hid (show max s2 d = s2 by omega))
    go_enter Try.func47, Try.ntmps47
    go_wp2
    go_ret
    refine ⟨rfl, ⟨h1, h2, h3, ?_, ?_⟩, ?_⟩
    · exact ((H4.out.set_ 0 _).set_other (fun e => h3 e.symm) _ _).alloc _
    · have h := ((H5.out.set_other h3 0 (.int .i64 (wrap64 (s1 + 1)))).set_ 0 (.int .i64 (max s2 d))).alloc (.cells (exC t A c) 24)
      rw [em.out] at h
      have e2 : (stM (s1, s2) t d).1.2 = max s2 d := rfl
      rw [e2, em.out]
      exact h
    · exact (((Frm.refl S w).set h1 _ _).set h2 _ _).alloc _
mutual
theorem vis_m : ∀ (t : Ex) (d n m : Int), 0 ≤ n → n + t.sz ≤ 1000000000 → vis stM t d (n, m) = ((n + (t.sz : Int), max m (d - 1 + (t.dp : Int))), true)
  | .mk o v ks, d, n, m, h0, h1 => by
    have hz : (Ex.mk o v ks).sz = 1 + szL ks := rfl
    have hd : (Ex.mk o v ks).dp = dpL ks + 1 := rfl
    rw [hz] at h1 ⊢
    rw [hd]
    show visL stM ks (d + 1) (wrap64 (n + 1), max m d) = _
    have e : wrap64 (n + 1) = n + 1 := by unfold wrap64; omega
    rw [e, visL_m ks (d + 1) (n + 1) (max m d) (by omega) (by omega)]
    have a1 : n + 1 + (szL ks : Int) = n + ((1 + szL ks : Nat) : Int) := by omega
    rw [a1]
    by_cases hr : ks = []
    · subst hr
      have a2 : max m d = max m (d - 1 + ((dpL [] + 1 : Nat) : Int)) := by show max m d = max m (d - 1 + ((0 + 1 : Nat) : Int)); omega
      rw [if_pos rfl, ← a2]
    · have a2 : max (max m d) (d + 1 - 1 + (dpL ks : Int)) = max m (d - 1 + ((dpL ks + 1 : Nat) : Int)) := by omega
      rw [if_neg hr, a2]
theorem visL_m : ∀ (l : List Ex) (d n m : Int), 0 ≤ n → n + szL l ≤ 1000000000 → visL stM l d (n, m) = ((n + (szL l : Int), if l = [] then m else max m (d - 1 + (dpL l : Int))), true)
  | [], d, n, m, _, _ => by
    show ((n, m), true) = _
    simp [szL]
  | t :: r, d, n, m, h0, h1 => by
    have hz : szL (t :: r) = t.sz + szL r := rfl
    have hd : dpL (t :: r) = max t.dp (dpL r) := rfl
    rw [hz] at h1 ⊢
    rw [hd]
    show (if (vis stM t d (n, m)).2 then visL stM r d (vis stM t d (n, m)).1 else ((vis stM t d (n, m)).1, false)) = _
    rw [vis_m t d n m h0 (by omega)]
    show visL stM r d (n + (t.sz : Int), max m (d - 1 + (t.dp : Int))) = _
    rw [visL_m r d _ _ (by omega) (by omega)]
    have a1 : n + (t.sz : Int) + (szL r : Int) = n + ((t.sz + szL r : Nat) : Int) := by omega
    rw [a1, if_neg (show ¬ (t :: r = []) from fun h => by cases h)]
    by_cases hr : r = []
    · subst hr
      have a2 : max m (d - 1 + (t.dp : Int)) = max m (d - 1 + ((max t.dp (dpL []) : Nat) : Int)) := by show _ = max m (d - 1 + ((max t.dp 0 : Nat) : Int)); omega
      rw [if_pos rfl, ← a2]
    · have a2 : max (max m (d - 1 + (t.dp : Int))) (d - 1 + (dpL r : Int)) = max m (d - 1 + ((max t.dp (dpL r) : Nat) : Int)) := by omega
      rw [if_neg hr, a2]
end
end Go.Proofs.Ytakhdlidikbnjaa
