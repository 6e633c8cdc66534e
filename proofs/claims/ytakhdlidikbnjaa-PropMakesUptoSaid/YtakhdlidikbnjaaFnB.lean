/- The contract of the specification's Vars, of layer 6 (prop). -/
import Derived.Test.YtakhdlidikbnjaaFnA
namespace Go.Proofs.Ytakhdlidikbnjaa
open Go.RowKit

set_option maxHeartbeats 2000000 in
theorem rf_Vars (t : Ex) (A : Option Addr) (c : Nat) (w : World) (hs : t.sz ≤ 1000000) (hR : Rep w.heap.size w A t) : Calls Try.prog 14 #[exV t A c] w (Gives w (varS t)) := by
  have HR := Lib.hid hR
  have HB : Hid (∀ o1, Below w.heap.size w (w.alloc o1)) := Lib.hid (fun o1 => (Below.refl _ _).alloc (Nat.le_refl _) _)
  have HC := Lib.hid (fun o1 => rf_Check t A c (w.alloc o1) (by omega) (hR.step (HB.out o1)))
  have HV := Lib.hid (fun w1 (h : Below w.heap.size w w1) => rf_vars t.sz t (Nat.le_refl _) (by omega) A c w1 (hR.step h))
  have hvl := vrs_le t
  obtain ⟨R, hRR⟩ : ∃ R, varS t = R := ⟨_, rfl⟩
  rw [hRR]
  unfold varS at hRR
  clear hR
  by_cases hc : chkE t = 0
  · rw [if_pos hc] at hRR
    have X := Lib.hid hRR
    have HCE := Lib.hid hc
    clear hRR hc
    have hll : (vrs t).length ≤ 1000000 := by omega
    generalize vrs t = l at *
    have HX : Hid (∀ w1, Below (w.alloc (.cells (exC t A c) 24)).heap.size (w.alloc (.cells (exC t A c) 24)) w1 → (w1.cell? ⟨w.heap.size, 0, none⟩ = some (.int .i64 t.op) ∧ w1.cell? ⟨w.heap.size, 1, none⟩ = some (.int .i64 t.vr) ∧ w1.cell? ⟨w.heap.size, 2, none⟩ = some (.slice A t.ks.length c)) ∧ Below w.heap.size w w1 ∧ w.heap.size < w1.heap.size) := Lib.hid (fun wr h => by
      have hk := (Blk.new w 24 (exC t A c))
      have hsz : (w.alloc (.cells (exC t A c) 24)).heap.size = w.heap.size + 1 := by simp
      have hk2 : Blk wr w.heap.size 24 (exC t A c) := (h.block _ (by rw [hsz]; omega)).trans hk
      refine ⟨⟨hk2.cell 0, hk2.cell 1, hk2.cell 2⟩, (HB.out _).trans (h.mono (HB.out _).size), ?_⟩
      have := h.size
      rw [hsz] at this
      omega)
    go_enter Try.func14, Try.ntmps14
    go_wp2_with (first
      | (go_at_call 9; (with_reducible refine (HC.out _).mono ?_); rintro e w1 ⟨rfl, hb1⟩; rw [HCE.out]; obtain ⟨⟨q0, q1, q2⟩, hbw, hszr⟩ := HX.out _ hb1; have HBW := Lib.hid hbw; clear hb1 hbw)
      | (go_at_call 35; (with_reducible refine (HV.out w1 HBW.out).mono ?_); rintro e w2 ⟨v, rfl, hO, hb2⟩; obtain ⟨a2, c2, rfl, hr2⟩ := hO.form; have HR2 := Lib.hid hr2; have HB2 := Lib.hid (bt HBW.out hb2); clear hO hr2 hb2)
      | (go_at_call 34; (with_reducible refine (ref_Of _ _ l _ HR2.out hll).mono ?_); rintro e w3 ⟨A3, c3, rfl, hr3, hn3, hb3⟩; have HR3 := Lib.hid hr3; have HN3 := Lib.hid hn3; have HB3 := Lib.hid hb3; clear hr3 hn3 hb3))
    go_ret
    rw [← X.out]
    exact ⟨A3, c3, rfl, HR3.out, HN3.out, bt HB2.out HB3.out⟩
  · rw [if_neg hc] at hRR
    have X := Lib.hid hRR
    have hc1 : (chkE t == 0) = false := by simp [hc]
    have hc2 : (chkE t != 0) = true := by simp [hc]
    clear hRR
    go_enter Try.func14, Try.ntmps14
    go_wp2_with (go_at_call 9; (with_reducible refine (HC.out _).mono ?_); rintro e w1 ⟨rfl, hb1⟩; have HB1 := Lib.hid hb1; clear hb1)
    go_ret
    rw [← X.out]
    exact ⟨none, 0, rfl, RI.nil, fun _ => rfl, bt (HB.out _) HB1.out⟩
end Go.Proofs.Ytakhdlidikbnjaa
