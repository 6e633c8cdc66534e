/- The walk of FormsTells; layer 32 (forms). -/
import Derived.Test.YtnjkphopklbogaaMh
import Derived.Test.YtnjkphopklbogaaMe
namespace Go.Proofs.Ytnjkphopklbogaa
open Go.RowKit

abbrev At6 (wx : World) (g : Nat) (t : Fx) (E : Option Addr) (dd : Nat) (A : Option Addr) (c : Nat) : Prop := wx.cell? ⟨g, 0, none⟩ = some (.int .i64 t.op) ∧ wx.cell? ⟨g, 1, none⟩ = some (.int .i64 t.e.op) ∧ wx.cell? ⟨g, 2, none⟩ = some (.int .i64 t.e.vr) ∧ wx.cell? ⟨g, 3, none⟩ = some (.string t.e.nm) ∧ wx.cell? ⟨g, 4, none⟩ = some (.slice E t.e.ks.length dd) ∧ wx.cell? ⟨g, 5, none⟩ = some (.slice A t.ks.length c)
set_option maxRecDepth 100000 in
set_option maxHeartbeats 16000000 in
theorem formsTells_walk (t : Fx) (E : Option Addr) (dd : Nat) (A : Option Addr) (c : Nat) (w : World) (hR : Fm w.heap.size w t E A) (hs : t.sz ≤ 1048576) : Calls Try.prog 3 #[fV t E dd A c] w fun e w' => e = .returned (.bool true) ∧ Below w.heap.size w w' := by
  obtain ⟨W0, hW0⟩ : ∃ W, w.alloc (.cells (fC t E dd A c) 27) = W := ⟨_, rfl⟩
  have hb0 : Below w.heap.size w W0 := by rw [← hW0]; exact bal _ _
  have hk0 : Blk W0 w.heap.size 27 (fC t E dd A c) := by rw [← hW0]; exact Blk.new _ _ _
  have hR0 := hR.step hb0
  have HS : Hid (∀ wx, Below W0.heap.size W0 wx → At6 wx w.heap.size t E dd A c) := Lib.hid (fun wx hb => by
    have h := hk0.below hb hk0.lt
    exact ⟨h.cell 0, h.cell 1, h.cell 2, h.cell 3, h.cell 4, h.cell 5⟩)
  have HF : Hid (∀ wx, Below W0.heap.size W0 wx → Fm wx.heap.size wx t E A) := Lib.hid (fun wx hb => hR0.step hb)
  have HM : Hid (Calls Try.prog 7 #[fV t E dd A c, .int .i64 300] W0 fun e w' => ∃ b : Bool, ValP W0 b e w') := Lib.hid (rf_Many t E A dd c 300 W0 (by omega) hR0 (by decide) (by decide))
  have hs2 : t.sz ≤ 100000000 := by omega
  have H9 : Hid (∀ wx, Below W0.heap.size W0 wx → Calls Try.prog 9 #[fV t E dd A c] wx fun e w' => e = .returned (.int .i64 (chkF t)) ∧ Below W0.heap.size W0 w') := Lib.hid (fun wx hb => (pr_fCheck t E A dd c wx hs2 (HF.out wx hb)).mono (fun e w' h => ⟨h.1, bt hb h.2⟩))
  have H10 : Hid (∀ wx, Below W0.heap.size W0 wx → Calls Try.prog 10 #[fV t E dd A c] wx fun e w' => e = .returned (.int .i64 (chkF t)) ∧ Below W0.heap.size W0 w') := Lib.hid (fun wx hb => (rf_fCheck t E A dd c wx hs2 (HF.out wx hb)).mono (fun e w' h => ⟨h.1, bt hb h.2⟩))
  have H12 : Hid (∀ wx, Below W0.heap.size W0 wx → Calls Try.prog 12 #[fV t E dd A c] wx fun e w' => ∃ A1 c1, e = .returned (.slice A1 (setK (nmsF t)).length c1) ∧ RT w' w'.heap.size A1 (setK (nmsF t)) ∧ Below wx.heap.size wx w' ∧ Below W0.heap.size W0 w') := Lib.hid (fun wx hb => (pr_fNames t E A dd c wx hs2 (HF.out wx hb)).mono (by rintro e w' ⟨A1, c1, h1, h2, h3⟩; exact ⟨A1, c1, h1, h2, h3, bt hb h3⟩))
  have H13 : Hid (∀ wx, Below W0.heap.size W0 wx → Calls Try.prog 13 #[fV t E dd A c] wx fun e w' => ∃ A1 c1, e = .returned (.slice A1 (setK (nmsF t)).length c1) ∧ RT w' w'.heap.size A1 (setK (nmsF t)) ∧ Below wx.heap.size wx w' ∧ Below W0.heap.size W0 w') := Lib.hid (fun wx hb => (rf_fNames t E A dd c wx hs2 (HF.out wx hb)).mono (by rintro e w' ⟨A1, c1, h1, h2, h3⟩; exact ⟨A1, c1, h1, h2, h3, bt hb h3⟩))
  have hlen : (setK (nmsF t)).length ≤ 1000000000 := Nat.le_trans (setK_le _) (by have := nms_len t; omega)
  have H11 : Hid (∀ wx A1 c1 A2 c2, Below W0.heap.size W0 wx → RT wx wx.heap.size A1 (setK (nmsF t)) → RT wx wx.heap.size A2 (setK (nmsF t)) → Calls Try.prog 11 #[.slice A1 (setK (nmsF t)).length c1, .slice A2 (setK (nmsF t)).length c2] wx fun e w' => e = .returned (.bool true) ∧ Below W0.heap.size W0 w') := Lib.hid (fun wx A1 c1 A2 c2 hb h1 h2 => (rf_Texts _ A1 A2 c1 c2 wx h1 h2 hlen).mono (fun e w' h => ⟨h.1, bt hb h.2⟩))
  have H14 : Hid (∀ wx, Below W0.heap.size W0 wx → Calls Try.prog 14 #[fV t E dd A c] wx fun e w' => e = .returned (.int .i64 (sizF t)) ∧ Below W0.heap.size W0 w') := Lib.hid (fun wx hb => (pr_fSize t E A dd c wx hs2 (HF.out wx hb)).mono (fun e w' h => ⟨by rw [size_agree t hs2]; exact h.1, bt hb h.2⟩))
  have H15 : Hid (∀ wx, Below W0.heap.size W0 wx → Calls Try.prog 15 #[fV t E dd A c] wx fun e w' => e = .returned (.int .i64 (sizF t)) ∧ Below W0.heap.size W0 w') := Lib.hid (fun wx hb => (rf_fSize t E A dd c wx hs2 (HF.out wx hb)).mono (fun e w' h => ⟨h.1, bt hb h.2⟩))
  have H16 : Hid (∀ wx, Below W0.heap.size W0 wx → Calls Try.prog 16 #[fV t E dd A c] wx fun e w' => e = .returned (.int .i64 (deepF t)) ∧ Below W0.heap.size W0 w') := Lib.hid (fun wx hb => (pr_fDeep t E A dd c wx hs2 (HF.out wx hb)).mono (fun e w' h => ⟨by rw [← deep_agree t]; exact h.1, bt hb h.2⟩))
  have H17 : Hid (∀ wx, Below W0.heap.size W0 wx → Calls Try.prog 17 #[fV t E dd A c] wx fun e w' => e = .returned (.int .i64 (deepF t)) ∧ Below W0.heap.size W0 w') := Lib.hid (fun wx hb => (rf_fDeep t E A dd c wx hs2 (HF.out wx hb)).mono (fun e w' h => ⟨h.1, bt hb h.2⟩))
  have H18 : Hid (∀ wx, Below W0.heap.size W0 wx → Calls Try.prog 18 #[fV t E dd A c] wx fun e w' => e = .returned (.bool (plF t)) ∧ Below W0.heap.size W0 w') := Lib.hid (fun wx hb => (pr_fPlain t E A dd c wx hs2 (HF.out wx hb)).mono (fun e w' h => ⟨h.1, bt hb h.2⟩))
  have H19 : Hid (∀ wx, Below W0.heap.size W0 wx → Calls Try.prog 19 #[fV t E dd A c] wx fun e w' => e = .returned (.bool (plF t)) ∧ Below W0.heap.size W0 w') := Lib.hid (fun wx hb => (rf_fPlain t.sz t (Nat.le_refl _) hs2 E dd A c wx (HF.out wx hb)).mono (fun e w' h => ⟨h.1, bt hb h.2⟩))
  have H8 : Hid (∀ wx, Below W0.heap.size W0 wx → Calls Try.prog 8 #[] wx fun e w' => e = .returned (.bool true) ∧ Below W0.heap.size W0 w') := Lib.hid (fun wx hb => (law_lives wx).mono (fun e w' h => ⟨h.1, bt hb h.2⟩))
  have hS0 := HS.out _ (Below.refl _ _)
  have HW0 := Lib.hid hW0
  have HB0 := Lib.hid hb0
  have HDR : Hid (Below W0.heap.size W0 W0.drew) := Lib.hid ((Below.refl _ _).drew)
  obtain ⟨s0, s1, s2, s3, s4, s5⟩ := hS0
  generalize chkF t = z9 at *
  generalize setK (nmsF t) = D at *
  generalize D.length = nD at *
  generalize sizF t = z14 at *
  generalize deepF t = z16 at *
  generalize plF t = z18 at *
  have e9 : (z9 == z9) = true := by simp
  have e14 : (z14 == z14) = true := by simp
  have e16 : (z16 == z16) = true := by simp
  have e18 : (z18 == z18) = true := by simp
  clear hW0 hb0 hk0 hR hR0 hs hs2 hlen
  go_enter Try.func3, Try.ntmps3
  go_upto_region 1 with (fail)
  rw [HW0.out]
  obtain ⟨h0, hh0⟩ : ∃ h, w.heap.size = h := ⟨_, rfl⟩
  rw [hh0] at HS s0 s1 s2 s3 s4 s5 ⊢
  have HH := Lib.hid hh0
  clear hh0
  go_upto_region 2 with (go_at_call 7; (with_reducible refine HM.out.mono ?_); rintro e w1 ⟨b, rfl, hb1⟩; have HB1 := Lib.hid hb1; clear hb1)
  · go_wp2_with (go_at_call 8; (with_reducible refine (H8.out _ HB1.out).mono ?_); rintro e w2 ⟨rfl, hb2⟩; have HB2 := Lib.hid hb2; clear hb2)
    go_ret
    exact ⟨rfl, bt HB0.out HB2.out⟩
  · have hS1 := HS.out _ HB1.out
    have HD1 : Hid (Below W0.heap.size W0 w1.drew) := Lib.hid HB1.out.drew
    clear s0 s1 s2 s3 s4 s5
    go_region_held3 (fun wx => At6 wx h0 t E dd A c) (first
      | with_reducible exact HS.out _ N8.out
      | with_reducible exact HS.out _ N19.out
      | with_reducible exact HS.out _ N18.out
      | with_reducible exact HS.out _ N17.out
      | with_reducible exact HS.out _ N16.out
      | with_reducible exact HS.out _ N15.out
      | with_reducible exact HS.out _ N14.out
      | with_reducible exact HS.out _ N11.out
      | with_reducible exact HS.out _ N13.out
      | with_reducible exact HS.out _ N12.out
      | with_reducible exact HS.out _ N10.out
      | with_reducible exact HS.out _ N9.out
      | with_reducible exact HS.out _ HD1.out
      | with_reducible exact HS.out _ HB1.out
      | exact HS.out _ HD1.out
      | exact HS.out _ HB1.out) ((first
      | (go_at_call 8; have _ := N19; (with_reducible refine (H8.out _ N19.out).mono ?_); rintro e w13 ⟨rfl, hb⟩; have N8 := Lib.hid hb; clear hb)
      | (go_at_call 19; have _ := N18; (with_reducible refine (H19.out _ N18.out).mono ?_); rintro e w12 ⟨rfl, hb⟩; have N19 := Lib.hid hb; clear hb)
      | (go_at_call 18; have _ := N17; (with_reducible refine (H18.out _ N17.out).mono ?_); rintro e w11 ⟨rfl, hb⟩; have N18 := Lib.hid hb; clear hb)
      | (go_at_call 17; have _ := N16; (with_reducible refine (H17.out _ N16.out).mono ?_); rintro e w10 ⟨rfl, hb⟩; have N17 := Lib.hid hb; clear hb)
      | (go_at_call 16; have _ := N15; (with_reducible refine (H16.out _ N15.out).mono ?_); rintro e w9 ⟨rfl, hb⟩; have N16 := Lib.hid hb; clear hb)
      | (go_at_call 15; have _ := N14; (with_reducible refine (H15.out _ N14.out).mono ?_); rintro e w8 ⟨rfl, hb⟩; have N15 := Lib.hid hb; clear hb)
      | (go_at_call 14; have _ := N11; (with_reducible refine (H14.out _ N11.out).mono ?_); rintro e w7 ⟨rfl, hb⟩; have N14 := Lib.hid hb; clear hb)
      | (go_at_call 11; have _ := N13; (with_reducible refine (H11.out _ A4 c4 A5 c5 N13.out HU5.out HT5.out).mono ?_); rintro e w6 ⟨rfl, hb⟩; have N11 := Lib.hid hb; clear hb)
      | (go_at_call 13; have _ := N12; (with_reducible refine (H13.out _ N12.out).mono ?_); rintro e w5 ⟨A5, c5, rfl, hT5, hq5, hb5⟩; have HT5 := Lib.hid hT5; have HU5 := Lib.hid (RT.step HT4.out hq5); have N13 := Lib.hid hb5; clear hT5 hq5 hb5)
      | (go_at_call 12; have _ := N10; (with_reducible refine (H12.out _ N10.out).mono ?_); rintro e w4 ⟨A4, c4, rfl, hT4, _, hb4⟩; have HT4 := Lib.hid hT4; have N12 := Lib.hid hb4; clear hT4 hb4)
      | (go_at_call 10; have _ := N9; (with_reducible refine (H10.out _ N9.out).mono ?_); rintro e w3 ⟨rfl, hb⟩; have N10 := Lib.hid hb; clear hb)
      | (go_at_call 9; have _ := HD1; (with_reducible refine (H9.out _ HD1.out).mono ?_); rintro e w2 ⟨rfl, hb⟩; have N9 := Lib.hid hb; clear hb)))
    go_wp2
    go_ret
    exact ⟨rfl, bt HB0.out N8.out⟩
end Go.Proofs.Ytnjkphopklbogaa
