/- The contract of Vars of layer 6 (prop). -/
import Derived.Test.YtakhdlidikbnjaaFn8
namespace Go.Proofs.Ytakhdlidikbnjaa
open Go.RowKit

def varS (t : Ex) : List Int := if chkE t = 0 then setL (vrs t) else []
set_option maxRecDepth 100000 in
set_option maxHeartbeats 4000000 in
theorem pr_Vars (t : Ex) (A : Option Addr) (c : Nat) (w : World) (hs : t.sz ≤ 100000000) (hR : Rep w.heap.size w A t) : Calls Try.prog 13 #[exV t A c] w (Gives w (varS t)) := by
  have HV : Hid (∀ (bl : Nat) W, InV bl (fun b => w.heap.size ≤ b) [] W → w.heap.size ≤ W.heap.size → Rep w.heap.size W A t → Calls Try.prog 28 #[exV t A c, .int .i64 1, .func (.func 31) #[] #[.pointer (some ⟨bl, 0, none⟩)]] W (VisP (InV bl) (fun b => w.heap.size ≤ b) W (vrs t, true))) := Lib.hid (fun bl W hI hW hR => by
    have h := pr_visitM (InV bl) stV w.heap.size (.pointer (some ⟨bl, 0, none⟩)) (fun s => s.length) 100000000 stV_mu (InV.kept bl) (fun S s w t A c d hI _ hF _ _ _ _ hm => pr_Vars1 bl S s w t A c d hI hF (by omega)) t.sz t (Nat.le_refl _) A c 1 _ _ W hI (fun b hb h => by omega) (fun b hb => by omega) hW hR (by omega) (by omega) (by simpa using hs)
    rw [vis_v t 1 []] at h
    exact h)
  have HR := Lib.hid hR
  have HB : Hid (∀ o1, Below w.heap.size w (w.alloc o1)) := Lib.hid (fun o1 => (Below.refl _ _).alloc (Nat.le_refl _) _)
  have HC := Lib.hid (fun o1 => pr_Check t A c (w.alloc o1) hs (hR.step (HB.out o1)))
  have hvl := vrs_le t
  obtain ⟨R, hRR⟩ : ∃ R, varS t = R := ⟨_, rfl⟩
  rw [hRR]
  unfold varS at hRR
  clear hR
  by_cases hc : chkE t = 0
  · rw [if_pos hc] at hRR
    have X := Lib.hid hRR
    have HCE := Lib.hid hc
    clear hRR hc
    have hll : (vrs t).length ≤ 100000000 := by omega
    generalize vrs t = l at *
    have HX : Hid (∀ w1, Below (w.alloc (.cells (exC t A c) 24)).heap.size (w.alloc (.cells (exC t A c) 24)) w1 → (w1.cell? ⟨w.heap.size, 0, none⟩ = some (.int .i64 t.op) ∧ w1.cell? ⟨w.heap.size, 1, none⟩ = some (.int .i64 t.vr) ∧ w1.cell? ⟨w.heap.size, 2, none⟩ = some (.slice A t.ks.length c)) ∧ Below w.heap.size w w1 ∧ w.heap.size < w1.heap.size) := Lib.hid (fun wr h => by
      have hk := (Blk.new w 24 (exC t A c))
      have hsz : (w.alloc (.cells (exC t A c) 24)).heap.size = w.heap.size + 1 := by simp
      have hk2 : Blk wr w.heap.size 24 (exC t A c) := (h.block _ (by rw [hsz]; omega)).trans hk
      refine ⟨⟨hk2.cell 0, hk2.cell 1, hk2.cell 2⟩, (HB.out _).trans (h.mono (HB.out _).size), ?_⟩
      have := h.size
      rw [hsz] at this
      omega)
    have HI : Hid (∀ w1, Below w.heap.size w w1 → InV w1.heap.size (fun b => w.heap.size ≤ b) [] (w1.alloc (.cells #[.slice none 0 0] 33)) ∧ w.heap.size ≤ (w1.alloc (.cells #[.slice none 0 0] 33)).heap.size ∧ Rep w.heap.size (w1.alloc (.cells #[.slice none 0 0] 33)) A t) := Lib.hid (fun w1 hb => by
      have hb2 := al hb (.cells #[.slice none 0 0] 33)
      exact ⟨⟨hb.size, _, Blk.new w1 33 #[.slice none 0 0], ⟨rfl, .inl ⟨rfl, rfl⟩⟩, fun k hk => by cases hk⟩, hb2.size, HR.out.under hb2⟩)
    go_enter Try.func13, Try.ntmps13
    go_upto_region 5 with (first
      | (go_at_call 11; (with_reducible refine (HC.out _).mono ?_); rintro e w1 ⟨rfl, hb1⟩; rw [HCE.out]; obtain ⟨⟨q0, q1, q2⟩, hbw, hszr⟩ := HX.out _ hb1; have HBW := Lib.hid hbw; clear hb1 hbw)
      | (go_at_call 28; (with_reducible refine (HV.out _ _ (HI.out w1 HBW.out).1 (HI.out w1 HBW.out).2.1 (HI.out w1 HBW.out).2.2).mono ?_); rintro e w2 ⟨rfl, hI2, hf2⟩; have HI2 := Lib.hid hI2; have HF2 := Lib.hid hf2; clear hI2 hf2))
    have hbw2 : Below w.heap.size w w2 := (al HBW.out _).trans (HF2.out.below2 (fun k hk h => by omega) (al HBW.out _).size)
    obtain ⟨hS, v, hB2, hO2, hv2⟩ := HI2.out
    have HBW2 := Lib.hid hbw2
    have p0 : w2.cell? ⟨w1.heap.size, 0, none⟩ = some v := hB2.cell 0
    clear HI2 HF2 hbw2
    rcases hO2.pre0 with ⟨rfl, rfl⟩ | ⟨g, cap, rfl, hg, hcap, hcm, hP⟩
    · have X2 : Hid (R = []) := Lib.hid (by rw [← X.out]; exact set_nil)
      clear hB2 hO2 hv2
      go_wp2_with (first | (go_at_call 32; (with_reducible refine (sort_nil _).mono ?_); rintro e w3 ⟨rfl, rfl⟩) | (go_at_call 33; (with_reducible refine (compact_nil _).mono ?_); rintro e w3 ⟨rfl, rfl⟩))
      go_ret
      rw [X2.out]
      exact ⟨none, 0, rfl, RI.nil, fun _ => rfl, HBW2.out⟩
    · have hgw := (hv2 g hg).1
      have hgb := (hv2 g hg).2
      have HP := Lib.hid hP
      have HB2 := Lib.hid hB2
      clear hB2 hO2 hv2 hP hg
      go_wp2_with (first
        | (go_at_call 32; (with_reducible refine (sort_pre _ _ _ _ HP.out (by omega)).mono ?_); rintro e w3 ⟨rfl, hP3, hf3⟩; have k3 := HB2.out.frm hf3 (fun e => hgb e.symm); have p3 : w3.cell? ⟨w1.heap.size, 0, none⟩ = some (.slice (some ⟨g, 0, none⟩) l.length cap) := k3.cell 0; have HP3 := Lib.hid hP3; have HF3 := Lib.hid hf3; clear hP3 hf3 k3)
        | (go_at_call 33; (with_reducible refine (compact_pre _ _ _ _ HP3.out hcap (by omega)).mono ?_); rintro e w4 ⟨rfl, hP4, hf4⟩; have HP4 := Lib.hid hP4; have HF4 := Lib.hid hf4; clear hP4 hf4))
      go_ret
      rw [← X.out]
      refine ⟨some ⟨g, 0, none⟩, cap, rfl, HP4.out.ri, (fun e => by cases e), HBW2.out.trans ((HF3.out.trans HF4.out).below2 (fun k hk h => by omega) HBW2.out.size)⟩
  · rw [if_neg hc] at hRR
    have X := Lib.hid hRR
    have hc1 : (chkE t == 0) = false := by simp [hc]
    have hc2 : (chkE t != 0) = true := by simp [hc]
    clear hRR
    go_enter Try.func13, Try.ntmps13
    go_wp2_with (go_at_call 11; (with_reducible refine (HC.out _).mono ?_); rintro e w1 ⟨rfl, hb1⟩; have HB1 := Lib.hid hb1; clear hb1)
    go_ret
    rw [← X.out]
    exact ⟨none, 0, rfl, RI.nil, fun _ => rfl, bt (HB.out _) HB1.out⟩
end Go.Proofs.Ytakhdlidikbnjaa
