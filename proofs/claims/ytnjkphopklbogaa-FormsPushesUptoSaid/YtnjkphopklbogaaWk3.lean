/- The walk of FormsPushes; layer 32 (forms). -/
import Derived.Test.YtnjkphopklbogaaWk1
import Derived.Test.YtnjkphopklbogaaQa
import Derived.Test.YtnjkphopklbogaaQd
namespace Go.Proofs.Ytnjkphopklbogaa
open Go.RowKit

set_option maxRecDepth 100000 in
set_option maxHeartbeats 16000000 in
theorem formsPushes_walk (t : Fx) (E : Option Addr) (dd : Nat) (A : Option Addr) (c : Nat) (u : Fx) (F : Option Addr) (ff : Nat) (D : Option Addr) (d : Nat) (nt : Bool) (w : World) (hR : Fm w.heap.size w t E A) (hs : t.sz ≤ 1048576) (hU : Fm w.heap.size w u F D) (hsu : u.sz ≤ 1048576) : Calls Try.prog 5 #[fV t E dd A c, fV u F ff D d, .bool nt] w fun e w' => e = .returned (.bool true) ∧ Below w.heap.size w w' := by
  obtain ⟨W0, hW0⟩ : ∃ W, (w.alloc (.cells (fC t E dd A c) 27)).alloc (.cells (fC u F ff D d) 27) = W := ⟨_, rfl⟩
  have hT := two_new w (fC t E dd A c) (fC u F ff D d) (Below.refl _ _)
  rw [hW0] at hT
  obtain ⟨hb0, hk0, hk1⟩ := hT
  have hR0 := hR.step hb0
  have hU0 := hU.step hb0
  obtain ⟨G, hG⟩ : ∃ G, w.heap.size = G := ⟨_, rfl⟩
  obtain ⟨G2, hG2⟩ : ∃ g, G + 1 = g := ⟨_, rfl⟩
  rw [hG] at hk0 hk1
  rw [hG2] at hk1
  have HG := Lib.hid hG
  have HG2 := Lib.hid hG2
  have HS : Hid (∀ wx, Below W0.heap.size W0 wx → At6 wx G t E dd A c ∧ At6 wx G2 u F ff D d) := Lib.hid (fun wx hb => by
    have h := hk0.below hb hk0.lt
    have h2 := hk1.below hb hk1.lt
    exact ⟨⟨h.cell 0, h.cell 1, h.cell 2, h.cell 3, h.cell 4, h.cell 5⟩, ⟨h2.cell 0, h2.cell 1, h2.cell 2, h2.cell 3, h2.cell 4, h2.cell 5⟩⟩)
  have HF : Hid (∀ wx, Below W0.heap.size W0 wx → Fm wx.heap.size wx t E A) := Lib.hid (fun wx hb => hR0.step hb)
  have HFu : Hid (∀ wx, Below W0.heap.size W0 wx → Fm wx.heap.size wx u F D) := Lib.hid (fun wx hb => hU0.step hb)
  have HM : Hid (Calls Try.prog 7 #[fV t E dd A c, .int .i64 120] W0 fun e w' => ∃ b : Bool, ValP W0 b e w') := Lib.hid (rf_Many t E A dd c 120 W0 (by omega) hR0 (by decide) (by decide))
  have HM2 : Hid (∀ wx, Below W0.heap.size W0 wx → Calls Try.prog 7 #[fV u F ff D d, .int .i64 120] wx fun e w' => ∃ b : Bool, e = .returned (.bool b) ∧ Below W0.heap.size W0 w') := Lib.hid (fun wx hb => (rf_Many u F D ff d 120 wx (by omega) (HFu.out wx hb) (by decide) (by decide)).mono (by rintro e w' ⟨b, h1, h2⟩; exact ⟨b, h1, bt hb h2⟩))
  have H8 : Hid (∀ wx, Below W0.heap.size W0 wx → Calls Try.prog 8 #[] wx fun e w' => e = .returned (.bool true) ∧ Below W0.heap.size W0 w') := Lib.hid (fun wx hb => (law_lives wx).mono (fun e w' h => ⟨h.1, bt hb h.2⟩))
  obtain ⟨y, hy⟩ : ∃ y, pshF t nt = y := ⟨_, rfl⟩
  have hsy : y.sz ≤ 100000000 := by rw [← hy]; have := pshF_sz t nt; omega
  have H21 : Hid (∀ wx, Below W0.heap.size W0 wx → Calls Try.prog 21 #[fV t E dd A c, .bool nt] wx fun e w' => ∃ E1 d1 A1 c1, e = .returned (fV y E1 d1 A1 c1) ∧ Fm w'.heap.size w' y E1 A1 ∧ Below wx.heap.size wx w' ∧ Below W0.heap.size W0 w') := Lib.hid (fun wx hb => (pr_Push t E A dd c nt wx (by omega) (HF.out wx hb)).mono (by rintro e w' ⟨E1, d1, A1, c1, h1, h2, h3⟩; rw [hy] at h1 h2; exact ⟨E1, d1, A1, c1, h1, h2, h3, bt hb h3⟩))
  have H22 : Hid (∀ wx, Below W0.heap.size W0 wx → Calls Try.prog 22 #[fV t E dd A c, .bool nt] wx fun e w' => ∃ E1 d1 A1 c1, e = .returned (fV y E1 d1 A1 c1) ∧ Fm w'.heap.size w' y E1 A1 ∧ Below wx.heap.size wx w' ∧ Below W0.heap.size W0 w') := Lib.hid (fun wx hb => (rf_Push t E A dd c nt wx (by omega) (HF.out wx hb)).mono (by rintro e w' ⟨E1, d1, A1, c1, h1, h2, h3⟩; rw [hy] at h1 h2; exact ⟨E1, d1, A1, c1, h1, h2, h3, bt hb h3⟩))
  have H20 : Hid (∀ wx E1 d1 A1 c1 E2 d2 A2 c2, Below W0.heap.size W0 wx → Fm wx.heap.size wx y E1 A1 → Fm wx.heap.size wx y E2 A2 → Calls Try.prog 20 #[fV y E1 d1 A1 c1, fV y E2 d2 A2 c2] wx fun e w' => e = .returned (.bool true) ∧ Below W0.heap.size W0 w') := Lib.hid (fun wx E1 d1 A1 c1 E2 d2 A2 c2 hb h1 h2 => by
    have h := rf_fSame y.sz y (Nat.le_refl _) hsy y hsy E1 d1 A1 c1 E2 d2 A2 c2 wx h1 h2
    rw [eqF_refl] at h
    exact h.mono (fun e w' h => ⟨h.1, bt hb h.2⟩))
  obtain ⟨L, hL⟩ : ∃ L, dedF (prtF t) = L := ⟨_, rfl⟩
  have hLs : ∀ v, v ∈ L → v.sz ≤ 10000000 := fun v hv => by
    rw [← hL] at hv
    rcases dedF_sub _ _ v hv with q | q
    · cases q
    · unfold prtF at q
      split at q
      · cases q
      · have := preF_sz t v q; omega
  have hLl : L.length ≤ 1000000000 := by
    rw [← hL]
    have h := dedF_len (prtF t) []
    have h3 : ([] : List Fx).length = 0 := rfl
    have h2 : (prtF t).length ≤ t.sz := by
      unfold prtF
      split
      · exact Nat.zero_le _
      · exact preF_len t
    unfold dedF
    omega
  have H24 : Hid (∀ wx, Below W0.heap.size W0 wx → Calls Try.prog 24 #[fV t E dd A c] wx fun e w' => ∃ A1 c1, e = .returned (.slice A1 L.length c1) ∧ RepF w'.heap.size w' A1 (.mk 0 ex0 L) ∧ Below W0.heap.size W0 w') := Lib.hid (fun wx hb => (pr_Parts t E A dd c wx (by omega) (HF.out wx hb)).mono (by rintro e w' ⟨A1, c1, h1, h2, h3⟩; rw [hL] at h1 h2; exact ⟨A1, c1, h1, h2, bt hb h3⟩))
  have H25 : Hid (∀ wx, Below W0.heap.size W0 wx → Calls Try.prog 25 #[fV t E dd A c] wx fun e w' => ∃ A1 c1, e = .returned (.slice A1 L.length c1) ∧ RepF w'.heap.size w' A1 (.mk 0 ex0 L) ∧ Below wx.heap.size wx w' ∧ Below W0.heap.size W0 w') := Lib.hid (fun wx hb => (rf_Parts t E A dd c wx (by omega) (HF.out wx hb)).mono (by rintro e w' ⟨A1, c1, h1, h2, h3⟩; rw [hL] at h1 h2; exact ⟨A1, c1, h1, h2, h3, bt hb h3⟩))
  have H23 : Hid (∀ wx A1 c1 A2 c2, Below W0.heap.size W0 wx → RepF wx.heap.size wx A1 (.mk 0 ex0 L) → RepF wx.heap.size wx A2 (.mk 0 ex0 L) → Calls Try.prog 23 #[.slice A1 L.length c1, .slice A2 L.length c2] wx fun e w' => e = .returned (.bool true) ∧ Below W0.heap.size W0 w') := Lib.hid (fun wx A1 c1 A2 c2 hb h1 h2 => (rf_All L A1 A2 c1 c2 wx h1 h2 hLl hLs).mono (fun e w' h => ⟨h.1, bt hb h.2⟩))
  have H26 : Hid (∀ wx, Below W0.heap.size W0 wx → Calls Try.prog 26 #[fV t E dd A c, fV u F ff D d] wx fun e w' => e = .returned (.bool (eqF t u)) ∧ Below W0.heap.size W0 w') := Lib.hid (fun wx hb => (pr_fSame t.sz t (Nat.le_refl _) (by omega) u (by omega) E dd A c F ff D d wx (HF.out wx hb) (HFu.out wx hb)).mono (fun e w' h => ⟨h.1, bt hb h.2⟩))
  have H20b : Hid (∀ wx, Below W0.heap.size W0 wx → Calls Try.prog 20 #[fV t E dd A c, fV u F ff D d] wx fun e w' => e = .returned (.bool (eqF t u)) ∧ Below W0.heap.size W0 w') := Lib.hid (fun wx hb => (rf_fSame t.sz t (Nat.le_refl _) (by omega) u (by omega) E dd A c F ff D d wx (HF.out wx hb) (HFu.out wx hb)).mono (fun e w' h => ⟨h.1, bt hb h.2⟩))
  have H26b : Hid (∀ wx, Below W0.heap.size W0 wx → Calls Try.prog 26 #[fV t E dd A c, fV t E dd A c] wx fun e w' => e = .returned (.bool true) ∧ Below W0.heap.size W0 w') := Lib.hid (fun wx hb => by
    have h := pr_fSame t.sz t (Nat.le_refl _) (by omega) t (by omega) E dd A c E dd A c wx (HF.out wx hb) (HF.out wx hb)
    rw [eqF_refl] at h
    exact h.mono (fun e w' h => ⟨h.1, bt hb h.2⟩))
  obtain ⟨⟨s0, s1, s2, s3, s4, s5⟩, _⟩ := HS.out _ (Below.refl _ _)
  have HW0 := Lib.hid hW0
  have HB0 := Lib.hid hb0
  generalize eqF t u = z at *
  generalize L.length = nL at *
  have ez : (z == z) = true := by simp
  clear hW0 hb0 hk0 hk1 hR hU hR0 hU0 hs hsu hG hG2 hy hsy hL hLs hLl
  go_enter Try.func5, Try.ntmps5
  go_upto_region 1 with (fail)
  rw [HW0.out, HG.out, HG2.out]
  go_upto_region 3 with (first
    | (go_at_call 8; (with_reducible refine (law_lives _).mono ?_); rintro e w9 ⟨rfl, hb9⟩; (first | have HB9 := Lib.hid (bt HB0.out (bt HB2.out hb9)) | have HB9 := Lib.hid (bt HB0.out (bt HB1.out hb9))); clear hb9)
    | (go_at_call 7; have _ := HB1; (with_reducible refine (HM2.out _ HB1.out).mono ?_); rintro e w2 ⟨b2, rfl, hb2⟩; have HB2 := Lib.hid hb2; clear hb2)
    | (go_at_call 7; (with_reducible refine HM.out.mono ?_); rintro e w1 ⟨b1, rfl, hb1⟩; obtain ⟨_, r0, r1, r2, r3, r4, r5⟩ := HS.out _ hb1; have HB1 := Lib.hid hb1; clear hb1))
  any_goals (go_ret; exact ⟨rfl, HB9.out⟩)
  have HD1 : Hid (Below W0.heap.size W0 w2.drew) := Lib.hid HB2.out.drew
  clear s0 s1 s2 s3 s4 s5
  have hS2 := HS.out _ HB2.out
  go_region_held3 (fun wx => At6 wx G t E dd A c ∧ At6 wx G2 u F ff D d) (first
    | with_reducible exact HS.out _ N10.out
    | with_reducible exact HS.out _ N9.out
    | with_reducible exact HS.out _ N8.out
    | with_reducible exact HS.out _ N7.out
    | with_reducible exact HS.out _ N6.out
    | with_reducible exact HS.out _ N5.out
    | with_reducible exact HS.out _ N4.out
    | with_reducible exact HS.out _ N3.out
    | with_reducible exact HS.out _ N2.out
    | with_reducible exact HS.out _ N1.out
    | with_reducible exact HS.out _ HD1.out
    | with_reducible exact HS.out _ HB2.out
    | exact HS.out _ HD1.out
    | exact HS.out _ HB2.out) ((first
    | (go_at_call 8; have _ := N9; (with_reducible refine (H8.out _ N9.out).mono ?_); rintro e w12 ⟨rfl, hb⟩; have N10 := Lib.hid hb; clear hb)
    | (go_at_call 26; have _ := N8; (with_reducible refine (H26b.out _ N8.out).mono ?_); rintro e w11 ⟨rfl, hb⟩; have N9 := Lib.hid hb; clear hb)
    | (go_at_call 20; have _ := N7; (with_reducible refine (H20b.out _ N7.out).mono ?_); rintro e w10 ⟨rfl, hb⟩; have N8 := Lib.hid hb; clear hb)
    | (go_at_call 26; have _ := N6; (with_reducible refine (H26.out _ N6.out).mono ?_); rintro e w9 ⟨rfl, hb⟩; have N7 := Lib.hid hb; clear hb)
    | (go_at_call 23; have _ := N5; (with_reducible refine (H23.out _ _ _ _ _ N5.out HG6.out HF7.out).mono ?_); rintro e w8 ⟨rfl, hb⟩; have N6 := Lib.hid hb; clear hb)
    | (go_at_call 25; have _ := N4; (with_reducible refine (H25.out _ N4.out).mono ?_); rintro e w7 ⟨A7, c7, rfl, hf7, hq, hb⟩; have HF7 := Lib.hid hf7; have HG6 := Lib.hid (RepF.step HF6.out hq); have N5 := Lib.hid hb; clear hf7 hb hq)
    | (go_at_call 24; have _ := N3; (with_reducible refine (H24.out _ N3.out).mono ?_); rintro e w6 ⟨A6, c6, rfl, hf6, hb⟩; have HF6 := Lib.hid hf6; have N4 := Lib.hid hb; clear hf6 hb)
    | (go_at_call 20; have _ := N2; (with_reducible refine (H20.out _ _ _ _ _ _ _ _ _ N2.out HG3.out HF4.out).mono ?_); rintro e w5 ⟨rfl, hb⟩; have N3 := Lib.hid hb; clear hb)
    | (go_at_call 22; have _ := N1; (with_reducible refine (H22.out _ N1.out).mono ?_); rintro e w4 ⟨E4, d4, A4, c4, rfl, hf4, hq, hb⟩; have HF4 := Lib.hid hf4; have HG3 := Lib.hid (Fm.step HF3.out hq); have N2 := Lib.hid hb; clear hf4 hb hq)
    | (go_at_call 21; have _ := HD1; (with_reducible refine (H21.out _ HD1.out).mono ?_); rintro e w3 ⟨E3, d3, A3, c3, rfl, hf3, _, hb⟩; have HF3 := Lib.hid hf3; have N1 := Lib.hid hb; clear hf3 hb)))
  go_wp2
  go_ret
  exact ⟨rfl, bt HB0.out N10.out⟩
end Go.Proofs.Ytnjkphopklbogaa
