/- The walk of PermBack. -/
import Derived.Test.YthbcjjodinnnfaaWk3
import Derived.Test.YthbcjjodinnnfaaBmath
namespace Go.Proofs.Ythbcjjodinnnfaa
open Go.RowKit

theorem RI.drewN {w : World} {A : Option Addr} {l : List Int} (h : RI w w.heap.size A l) (n : Nat) : RI (w.drewN n) (w.drewN n).heap.size A l := h
theorem below_drewN_l {w w1 : World} {n : Nat} (h : Below (w.drewN n).heap.size (w.drewN n) w1) : Below w.heap.size w w1 := (below_drewN (Below.refl w.heap.size w) n).trans h

set_option maxRecDepth 100000 in
set_option maxHeartbeats 4000000 in
theorem permBack_walk (a0 : Option Addr) (cap0 : Nat) (l0 : List Int) (a1 a2 : Int) (w : World) (w0 : RI w w.heap.size a0 l0) (m0 : l0.length ≤ maxLen) (_n0 : a0 = none → cap0 = 0) (_w1 : (Lit.int .i64 a1).wf = true) (_w2 : (Lit.int .i64 a2).wf = true) :
    Calls Try.prog 6 #[.slice a0 l0.length cap0, .int .i64 a1, .int .i64 a2] w fun e w' => e = .returned (.bool true) ∧ Below w.heap.size w w' := by
  unfold maxLen at m0
  clear _n0 _w1 _w2
  by_cases hlt : 40 < l0.length
  · clear w0
    have h1 : (40 : Int) < (l0.length : Int) := by omega
    go_enter Try.func6, Try.ntmps6
    go_wp2_with (go_at_call 7; refine (lives_any _).mono ?_; rintro e w1 ⟨rfl, hb1⟩)
    go_ret
    exact ⟨rfl, hb1⟩
  have h1 : (l0.length : Int) ≤ 40 := by omega
  have hl : l0.length ≤ 1000 := by omega
  have H0 := Lib.hid w0
  clear w0 hlt m0
  cases ra : rightB l0
  · go_enter Try.func6, Try.ntmps6
    go_wp2_with fail
    refine (ref_Right _ _ _ _ H0.out (by omega)).mono ?_; rintro e w1 ⟨rfl, hb1⟩; rw [ra]
    go_wp2_with fail
    refine (lives_any _).mono ?_; rintro e w2 ⟨rfl, hb2⟩
    have hbw := hb1.trans (hb2.mono hb1.size)
    go_wp2
    go_ret
    exact ⟨rfl, hbw⟩
  have hok := right_ok ra
  have RA := Lib.hid ra
  have HOK := Lib.hid hok
  obtain ⟨V, hV⟩ : ∃ V, invL l0 = V := ⟨_, rfl⟩
  obtain ⟨X, hX⟩ : ∃ X, swapF l0 a1 = X := ⟨_, rfl⟩
  obtain ⟨M, hM⟩ : ∃ M, moveF l0 a1 a2 = M := ⟨_, rfl⟩
  obtain ⟨T, hT⟩ : ∃ T, l0.reverse = T := ⟨_, rfl⟩
  have HV := Lib.hid hV
  have HX := Lib.hid hX
  have HM := Lib.hid hM
  have HT := Lib.hid hT
  have lV : V.length = l0.length := by rw [← hV, invL_len]
  have lX : X.length = l0.length := by rw [← hX, swapF_len]
  have lM : M.length = l0.length := by rw [← hM, moveF_len]
  have lT : T.length = l0.length := by rw [← hT, List.length_reverse]
  have rV : rightB V = true := by rw [← hV]; exact right_yes (ok_inv hok)
  have rX : rightB X = true := by rw [← hX]; exact right_yes (ok_swap hok _)
  have rM : rightB M = true := by rw [← hM]; exact right_yes (ok_move hok _ _)
  have rT : rightB T = true := by rw [← hT]; exact right_yes (ok_rev hok)
  have fV : invF l0 = V := by rw [invF_ok hok, hV]
  have bV : invF V = l0 := by rw [invF_ok (right_ok rV), ← hV, inv_inv hok]
  have bT : T.reverse = l0 := by rw [← hT, List.reverse_reverse]
  have bX : swapF X a1 = l0 := by rw [← hX, swap_swap]
  have bM : moveF M a2 a1 = l0 := by rw [← hM, move_back]
  have LV := Lib.hid lV
  have LX := Lib.hid lX
  have LM := Lib.hid lM
  have LT := Lib.hid lT
  have RV := Lib.hid rV
  have RX := Lib.hid rX
  have RM := Lib.hid rM
  have RT := Lib.hid rT
  have FV := Lib.hid fV
  have BV := Lib.hid bV
  have BT := Lib.hid bT
  have BX := Lib.hid bX
  have BM := Lib.hid bM
  have sV : V.length ≤ 1000 := by omega
  have sX : X.length ≤ 1000 := by omega
  have sM : M.length ≤ 1000 := by omega
  have sT : T.length ≤ 1000 := by omega
  have nV : ((V.length : Int) != (l0.length : Int)) = false := by simp [lV]
  have nM : ((M.length : Int) != (l0.length : Int)) = false := by simp [lM]
  clear ra hok hV hX hM hT lV lX lM lT rV rX rM rT fV bV bT bX bM
  go_enter Try.func6, Try.ntmps6
  go_wp2_with fail
  refine (ref_Right _ _ _ _ H0.out (by omega)).mono ?_; rintro e w1 ⟨rfl, hb1⟩; rw [RA.out]
  have H1 := Lib.hid (H0.out.step hb1)
  go_wp2_with fail
  refine (uInverse _ _ _ _ H1.out hl).mono ?_; rw [FV.out]; rintro e w2 ⟨A2, c2, rfl, R2, _, hb2⟩
  have HR2 := Lib.hid R2
  have hbw2 := hb1.trans (hb2.mono hb1.size)
  have H2 := Lib.hid (H0.out.step hbw2)
  clear R2 hb1 hb2 H1
  go_wp2_with fail
  refine (uSwap _ _ _ _ H2.out hl _).mono ?_; rw [HX.out]; rintro e w3 ⟨A3, c3, rfl, R3, _, hb3⟩
  have HR3 := Lib.hid R3
  have HR23 := Lib.hid (HR2.out.step hb3)
  have hbw3 := hbw2.trans (hb3.mono hbw2.size)
  have H3 := Lib.hid (H0.out.step hbw3)
  clear R3 hb3 H2 hbw2 HR2
  go_wp2_with fail
  refine (uMove _ _ _ _ H3.out hl _ _).mono ?_; rw [HM.out]; rintro e w4 ⟨A4, c4, rfl, R4, _, hb4⟩
  have HR4 := Lib.hid R4
  have HR24 := Lib.hid (HR23.out.step hb4)
  have HR34 := Lib.hid (HR3.out.step hb4)
  have hbw4 := hbw3.trans (hb4.mono hbw3.size)
  have H4 := Lib.hid (H0.out.step hbw4)
  clear R4 hb4 H3 hbw3 HR23 HR3
  go_wp2_with fail
  refine (uTurn _ _ _ _ H4.out hl).mono ?_; rw [HT.out]; rintro e w5 ⟨A5, c5, rfl, R5, _, hb5⟩
  have HR5 := Lib.hid R5
  have HR25 := Lib.hid (HR24.out.step hb5)
  have HR35 := Lib.hid (HR34.out.step hb5)
  have HR45 := Lib.hid (HR4.out.step hb5)
  have hbw5 := hbw4.trans (hb5.mono hbw4.size)
  clear R5 hb5 H4 hbw4 HR24 HR34 HR4
  go_wp2_with fail
  refine (perm_Right _ _ _ _ HR25.out (by omega)).mono ?_; rintro e w6 ⟨rfl, hb6⟩; rw [RV.out]
  have hb56 := hb6
  clear hb6
  go_wp2_with fail
  refine (perm_Right _ _ _ _ (HR35.out.step hb56) (by omega)).mono ?_; rintro e w7 ⟨rfl, hb7⟩; rw [RX.out]
  have hb57 := hb56.trans (hb7.mono hb56.size)
  clear hb7 hb56
  go_wp2_with fail
  refine (perm_Right _ _ _ _ (HR45.out.step hb57) (by omega)).mono ?_; rintro e w8 ⟨rfl, hb8⟩; rw [RM.out]
  have hb58 := hb57.trans (hb8.mono hb57.size)
  clear hb8 hb57
  go_wp2_with fail
  refine (perm_Right _ _ _ _ (HR5.out.step hb58) (by omega)).mono ?_; rintro e w9 ⟨rfl, hb9⟩; rw [RT.out]
  have hb59 := hb58.trans (hb9.mono hb58.size)
  have hbw9 := hbw5.trans (hb59.mono hbw5.size)
  have GV := Lib.hid (HR25.out.step hb59)
  have GX := Lib.hid (HR35.out.step hb59)
  have GM := Lib.hid (HR45.out.step hb59)
  have GT := Lib.hid (HR5.out.step hb59)
  have G0 := Lib.hid (H0.out.step hbw9)
  clear hb9 hb58 hb59 HR25 HR35 HR45 HR5 hbw5
  go_wp2
  go_loopw [11] (fun i wr => ∃ k : Nat, k ≤ l0.length ∧ i = .int .i64 k ∧ Below w9.heap.size w9 wr) (fun i _ => l0.length - (intOf i).toNat)
  case atStart => exact ⟨0, Nat.zero_le _, rfl, Below.refl _ _⟩
  case round =>
    obtain ⟨k, hk, rfl, hbr⟩ := hrel
    by_cases hlt : k < l0.length
    · obtain ⟨b0, o0, rfl, hb0, hc0⟩ := G0.out (by omega)
      obtain ⟨b2, o2, rfl, hb2, hc2⟩ := GV.out (by rw [LV.out]; omega)
      obtain ⟨b5, o5, rfl, hb5, hc5⟩ := GT.out (by rw [LT.out]; omega)
      obtain ⟨x, hx⟩ := Int.eq_ofNat_of_zero_le ((HOK.out k hlt).1.1)
      have hx' : li l0 k = (x : Int) := hx
      obtain ⟨hxl, hxv⟩ := inv_at HOK.out hlt hx'
      rw [HV.out] at hxv
      have e1 := (hbr.cell (p := ⟨b0, o0 + k, none⟩) hb0).trans (hc0 k hlt)
      have e2 := (hbr.cell (p := ⟨b2, o2 + x, none⟩) hb2).trans (hc2 x (by rw [LV.out]; exact hxl))
      have e3 := (hbr.cell (p := ⟨b5, o5 + (l0.length - 1 - k), none⟩) hb5).trans (hc5 (l0.length - 1 - k) (by rw [LT.out]; omega))
      rw [← HT.out, li_rev hlt, hx'] at e3
      rw [hx'] at e1
      rw [hxv] at e2
      obtain ⟨y, hy⟩ : ∃ y, l0.length - 1 - k = y := ⟨_, rfl⟩
      rw [hy] at e3
      have z1 : ((l0.length : Int) - 1 - (k : Int)) = (y : Int) := by omega
      have z2 : (y : Int) < (T.length : Int) := by rw [LT.out]; omega
      have z3 : (x : Int) < (V.length : Int) := by rw [LV.out]; omega
      have z4 : (k : Int) < (l0.length : Int) := by omega
      have z5 : IntKind.i64.wrap ((l0.length : Int) - 1) = (l0.length : Int) - 1 := IntWalk.i64_in _ (by omega)
      have z6 : IntKind.i64.wrap ((l0.length : Int) - 1 - (k : Int)) = (y : Int) := by rw [z1]; exact IntWalk.i64_in _ (by omega)
      have z7 : ((k : Int) != (k : Int)) = false := by simp
      have z8 : ((x : Int) != (x : Int)) = false := by simp
      clear hc0 hc2 hc5 hx hx' hxv hy z1
      go_wp2
      go_quiet (fail)
      clear z5 z6
      go_wp2
      go_roundw
      case rel => exact ⟨k + 1, by omega, by go_num, below_drewN hbr _⟩
      case measure => simp [intOf]; omega
    · obtain rfl : k = l0.length := by omega
      have hbwr := hbw9.trans (hbr.mono hbw9.size)
      have QV := Lib.hid (GV.out.step hbr)
      have QX := Lib.hid (GX.out.step hbr)
      have QM := Lib.hid (GM.out.step hbr)
      have QT := Lib.hid (GT.out.step hbr)
      have Q0 := Lib.hid (G0.out.step hbr)
      clear GV GX GM GT G0 hbr hbw9 HOK RA hlt
      have hcase : (a1 < 0) ∨ (0 ≤ a1 ∧ (l0.length : Int) ≤ a1) ∨ (0 ≤ a1 ∧ a1 < (l0.length : Int) ∧ a2 < 0) ∨ (0 ≤ a1 ∧ a1 < (l0.length : Int) ∧ 0 ≤ a2 ∧ (l0.length : Int) ≤ a2) ∨ (0 ≤ a1 ∧ a1 < (l0.length : Int) ∧ 0 ≤ a2 ∧ a2 < (l0.length : Int)) := by omega
      rcases hcase with g1 | ⟨g1, g2⟩ | ⟨g1, g2, g3⟩ | ⟨g1, g2, g3, g4⟩ | ⟨g1, g2, g3, g4⟩
      · have d1 : decide (0 ≤ a1) = false := by simpa using g1
        go_wp2
        go_quiet (fail)
        clear d1 g1
        go_wp2_with fail
        refine (uInverse _ _ _ _ (RI.drewN QV.out _) sV).mono ?_; rw [BV.out]; rintro e w11 ⟨A11, c11, rfl, R11, _, hb11⟩
        have K11 := Lib.hid R11
        have HB11 := below_drewN_l hb11
        clear hb11 R11
        go_wp2_with fail
        refine (same_yes _ _ _ _ _ l0 _ rfl K11.out (Q0.out.step HB11) (by omega)).mono ?_; rintro e w12 ⟨rfl, hb12⟩
        have HB12 := HB11.trans (hb12.mono HB11.size)
        clear hb12 HB11 K11
        go_wp2_with fail
        refine (uTurn _ _ _ _ (QT.out.step HB12) sT).mono ?_; rw [BT.out]; rintro e w13 ⟨A13, c13, rfl, R13, _, hb13⟩
        have K13 := Lib.hid R13
        have HB13 := HB12.trans (hb13.mono HB12.size)
        clear hb13 R13 HB12
        go_wp2_with fail
        refine (same_yes _ _ _ _ _ l0 _ rfl K13.out (Q0.out.step HB13) (by omega)).mono ?_; rintro e w14 ⟨rfl, hb14⟩
        have HB14 := HB13.trans (hb14.mono HB13.size)
        clear hb14 HB13 K13
        go_wp2_with fail
        refine (uSwap _ _ _ _ (QX.out.step HB14) sX _).mono ?_; rw [BX.out]; rintro e w15 ⟨A15, c15, rfl, R15, _, hb15⟩
        have K15 := Lib.hid R15
        have HB15 := HB14.trans (hb15.mono HB14.size)
        clear hb15 R15 HB14
        go_wp2_with fail
        refine (same_yes _ _ _ _ _ l0 _ rfl K15.out (Q0.out.step HB15) (by omega)).mono ?_; rintro e w16 ⟨rfl, hb16⟩
        have HB16 := HB15.trans (hb16.mono HB15.size)
        clear hb16 HB15 K15
        go_wp2_with fail
        refine (uMove _ _ _ _ (QM.out.step HB16) sM _ _).mono ?_; rw [BM.out]; rintro e w17 ⟨A17, c17, rfl, R17, _, hb17⟩
        have K17 := Lib.hid R17
        have HB17 := HB16.trans (hb17.mono HB16.size)
        clear hb17 R17 HB16
        go_wp2_with fail
        refine (same_yes _ _ _ _ _ l0 _ rfl K17.out (Q0.out.step HB17) (by omega)).mono ?_; rintro e w18 ⟨rfl, hb18⟩
        have HB18 := HB17.trans (hb18.mono HB17.size)
        clear hb18 HB17 K17
        go_wp2_with fail
        refine (lives_any _).mono ?_; rintro e w19 ⟨rfl, hb19⟩
        have HB19 := hbwr.trans ((HB18.trans (hb19.mono HB18.size)).mono hbwr.size)
        clear hb19 HB18
        go_wp2
        go_ret
        exact ⟨rfl, HB19⟩
      · have d1 : decide (a1 < (l0.length : Int)) = false := by simpa using g2
        have d2 : decide (0 ≤ a1) = true := by simpa using g1
        go_wp2
        go_quiet (fail)
        clear d1 d2
        go_wp2_with fail
        refine (uInverse _ _ _ _ (RI.drewN QV.out _) sV).mono ?_; rw [BV.out]; rintro e w11 ⟨A11, c11, rfl, R11, _, hb11⟩
        have K11 := Lib.hid R11
        have HB11 := below_drewN_l hb11
        clear hb11 R11
        go_wp2_with fail
        refine (same_yes _ _ _ _ _ l0 _ rfl K11.out (Q0.out.step HB11) (by omega)).mono ?_; rintro e w12 ⟨rfl, hb12⟩
        have HB12 := HB11.trans (hb12.mono HB11.size)
        clear hb12 HB11 K11
        go_wp2_with fail
        refine (uTurn _ _ _ _ (QT.out.step HB12) sT).mono ?_; rw [BT.out]; rintro e w13 ⟨A13, c13, rfl, R13, _, hb13⟩
        have K13 := Lib.hid R13
        have HB13 := HB12.trans (hb13.mono HB12.size)
        clear hb13 R13 HB12
        go_wp2_with fail
        refine (same_yes _ _ _ _ _ l0 _ rfl K13.out (Q0.out.step HB13) (by omega)).mono ?_; rintro e w14 ⟨rfl, hb14⟩
        have HB14 := HB13.trans (hb14.mono HB13.size)
        clear hb14 HB13 K13
        go_wp2_with fail
        refine (uSwap _ _ _ _ (QX.out.step HB14) sX _).mono ?_; rw [BX.out]; rintro e w15 ⟨A15, c15, rfl, R15, _, hb15⟩
        have K15 := Lib.hid R15
        have HB15 := HB14.trans (hb15.mono HB14.size)
        clear hb15 R15 HB14
        go_wp2_with fail
        refine (same_yes _ _ _ _ _ l0 _ rfl K15.out (Q0.out.step HB15) (by omega)).mono ?_; rintro e w16 ⟨rfl, hb16⟩
        have HB16 := HB15.trans (hb16.mono HB15.size)
        clear hb16 HB15 K15
        go_wp2_with fail
        refine (uMove _ _ _ _ (QM.out.step HB16) sM _ _).mono ?_; rw [BM.out]; rintro e w17 ⟨A17, c17, rfl, R17, _, hb17⟩
        have K17 := Lib.hid R17
        have HB17 := HB16.trans (hb17.mono HB16.size)
        clear hb17 R17 HB16
        go_wp2_with fail
        refine (same_yes _ _ _ _ _ l0 _ rfl K17.out (Q0.out.step HB17) (by omega)).mono ?_; rintro e w18 ⟨rfl, hb18⟩
        have HB18 := HB17.trans (hb18.mono HB17.size)
        clear hb18 HB17 K17
        go_wp2_with fail
        refine (lives_any _).mono ?_; rintro e w19 ⟨rfl, hb19⟩
        have HB19 := hbwr.trans ((HB18.trans (hb19.mono HB18.size)).mono hbwr.size)
        clear hb19 HB18
        go_wp2
        go_ret
        exact ⟨rfl, HB19⟩
      · have d1 : decide (a1 < (l0.length : Int)) = true := by simpa using g2
        have d2 : decide (0 ≤ a1) = true := by simpa using g1
        have d3 : decide (0 ≤ a2) = false := by simpa using g3
        go_wp2
        go_quiet (fail)
        clear d1 d2 d3
        go_wp2_with fail
        refine (uInverse _ _ _ _ (RI.drewN QV.out _) sV).mono ?_; rw [BV.out]; rintro e w11 ⟨A11, c11, rfl, R11, _, hb11⟩
        have K11 := Lib.hid R11
        have HB11 := below_drewN_l hb11
        clear hb11 R11
        go_wp2_with fail
        refine (same_yes _ _ _ _ _ l0 _ rfl K11.out (Q0.out.step HB11) (by omega)).mono ?_; rintro e w12 ⟨rfl, hb12⟩
        have HB12 := HB11.trans (hb12.mono HB11.size)
        clear hb12 HB11 K11
        go_wp2_with fail
        refine (uTurn _ _ _ _ (QT.out.step HB12) sT).mono ?_; rw [BT.out]; rintro e w13 ⟨A13, c13, rfl, R13, _, hb13⟩
        have K13 := Lib.hid R13
        have HB13 := HB12.trans (hb13.mono HB12.size)
        clear hb13 R13 HB12
        go_wp2_with fail
        refine (same_yes _ _ _ _ _ l0 _ rfl K13.out (Q0.out.step HB13) (by omega)).mono ?_; rintro e w14 ⟨rfl, hb14⟩
        have HB14 := HB13.trans (hb14.mono HB13.size)
        clear hb14 HB13 K13
        go_wp2_with fail
        refine (uSwap _ _ _ _ (QX.out.step HB14) sX _).mono ?_; rw [BX.out]; rintro e w15 ⟨A15, c15, rfl, R15, _, hb15⟩
        have K15 := Lib.hid R15
        have HB15 := HB14.trans (hb15.mono HB14.size)
        clear hb15 R15 HB14
        go_wp2_with fail
        refine (same_yes _ _ _ _ _ l0 _ rfl K15.out (Q0.out.step HB15) (by omega)).mono ?_; rintro e w16 ⟨rfl, hb16⟩
        have HB16 := HB15.trans (hb16.mono HB15.size)
        clear hb16 HB15 K15
        go_wp2_with fail
        refine (uMove _ _ _ _ (QM.out.step HB16) sM _ _).mono ?_; rw [BM.out]; rintro e w17 ⟨A17, c17, rfl, R17, _, hb17⟩
        have K17 := Lib.hid R17
        have HB17 := HB16.trans (hb17.mono HB16.size)
        clear hb17 R17 HB16
        go_wp2_with fail
        refine (same_yes _ _ _ _ _ l0 _ rfl K17.out (Q0.out.step HB17) (by omega)).mono ?_; rintro e w18 ⟨rfl, hb18⟩
        have HB18 := HB17.trans (hb18.mono HB17.size)
        clear hb18 HB17 K17
        go_wp2_with fail
        refine (lives_any _).mono ?_; rintro e w19 ⟨rfl, hb19⟩
        have HB19 := hbwr.trans ((HB18.trans (hb19.mono HB18.size)).mono hbwr.size)
        clear hb19 HB18
        go_wp2
        go_ret
        exact ⟨rfl, HB19⟩
      · have d1 : decide (a1 < (l0.length : Int)) = true := by simpa using g2
        have d2 : decide (0 ≤ a1) = true := by simpa using g1
        have d3 : decide (0 ≤ a2) = true := by simpa using g3
        have d4 : decide (a2 < (l0.length : Int)) = false := by simpa using g4
        go_wp2
        go_quiet (fail)
        clear d1 d2 d3 d4
        go_wp2_with fail
        refine (uInverse _ _ _ _ (RI.drewN QV.out _) sV).mono ?_; rw [BV.out]; rintro e w11 ⟨A11, c11, rfl, R11, _, hb11⟩
        have K11 := Lib.hid R11
        have HB11 := below_drewN_l hb11
        clear hb11 R11
        go_wp2_with fail
        refine (same_yes _ _ _ _ _ l0 _ rfl K11.out (Q0.out.step HB11) (by omega)).mono ?_; rintro e w12 ⟨rfl, hb12⟩
        have HB12 := HB11.trans (hb12.mono HB11.size)
        clear hb12 HB11 K11
        go_wp2_with fail
        refine (uTurn _ _ _ _ (QT.out.step HB12) sT).mono ?_; rw [BT.out]; rintro e w13 ⟨A13, c13, rfl, R13, _, hb13⟩
        have K13 := Lib.hid R13
        have HB13 := HB12.trans (hb13.mono HB12.size)
        clear hb13 R13 HB12
        go_wp2_with fail
        refine (same_yes _ _ _ _ _ l0 _ rfl K13.out (Q0.out.step HB13) (by omega)).mono ?_; rintro e w14 ⟨rfl, hb14⟩
        have HB14 := HB13.trans (hb14.mono HB13.size)
        clear hb14 HB13 K13
        go_wp2_with fail
        refine (uSwap _ _ _ _ (QX.out.step HB14) sX _).mono ?_; rw [BX.out]; rintro e w15 ⟨A15, c15, rfl, R15, _, hb15⟩
        have K15 := Lib.hid R15
        have HB15 := HB14.trans (hb15.mono HB14.size)
        clear hb15 R15 HB14
        go_wp2_with fail
        refine (same_yes _ _ _ _ _ l0 _ rfl K15.out (Q0.out.step HB15) (by omega)).mono ?_; rintro e w16 ⟨rfl, hb16⟩
        have HB16 := HB15.trans (hb16.mono HB15.size)
        clear hb16 HB15 K15
        go_wp2_with fail
        refine (uMove _ _ _ _ (QM.out.step HB16) sM _ _).mono ?_; rw [BM.out]; rintro e w17 ⟨A17, c17, rfl, R17, _, hb17⟩
        have K17 := Lib.hid R17
        have HB17 := HB16.trans (hb17.mono HB16.size)
        clear hb17 R17 HB16
        go_wp2_with fail
        refine (same_yes _ _ _ _ _ l0 _ rfl K17.out (Q0.out.step HB17) (by omega)).mono ?_; rintro e w18 ⟨rfl, hb18⟩
        have HB18 := HB17.trans (hb18.mono HB17.size)
        clear hb18 HB17 K17
        go_wp2_with fail
        refine (lives_any _).mono ?_; rintro e w19 ⟨rfl, hb19⟩
        have HB19 := hbwr.trans ((HB18.trans (hb19.mono HB18.size)).mono hbwr.size)
        clear hb19 HB18
        go_wp2
        go_ret
        exact ⟨rfl, HB19⟩
      · obtain ⟨n1, rfl⟩ := Int.eq_ofNat_of_zero_le g1
        obtain ⟨n2, rfl⟩ := Int.eq_ofNat_of_zero_le g3
        have q1 : n1 < l0.length := by omega
        have q2 : n2 < l0.length := by omega
        obtain ⟨b0, o0, rfl, hb0, hc0⟩ := Q0.out (by omega)
        obtain ⟨b4, o4, rfl, hb4, hc4⟩ := QM.out (by rw [LM.out]; omega)
        have e1 := hc0 n1 q1
        have e2 := hc4 n2 (by rw [LM.out]; exact q2)
        rw [← HM.out, move_at q1 q2] at e2
        have g5 : (n2 : Int) < (M.length : Int) := by rw [LM.out]; exact g4
        have z7 : (li l0 n1 != li l0 n1) = false := by simp
        clear hc0 hc4 q1 q2
        go_wp2
        go_quiet (fail)
        clear z7 e1 e2
        go_wp2_with fail
        refine (uInverse _ _ _ _ (RI.drewN QV.out _) sV).mono ?_; rw [BV.out]; rintro e w11 ⟨A11, c11, rfl, R11, _, hb11⟩
        have K11 := Lib.hid R11
        have HB11 := below_drewN_l hb11
        clear hb11 R11
        go_wp2_with fail
        refine (same_yes _ _ _ _ _ l0 _ rfl K11.out (Q0.out.step HB11) (by omega)).mono ?_; rintro e w12 ⟨rfl, hb12⟩
        have HB12 := HB11.trans (hb12.mono HB11.size)
        clear hb12 HB11 K11
        go_wp2_with fail
        refine (uTurn _ _ _ _ (QT.out.step HB12) sT).mono ?_; rw [BT.out]; rintro e w13 ⟨A13, c13, rfl, R13, _, hb13⟩
        have K13 := Lib.hid R13
        have HB13 := HB12.trans (hb13.mono HB12.size)
        clear hb13 R13 HB12
        go_wp2_with fail
        refine (same_yes _ _ _ _ _ l0 _ rfl K13.out (Q0.out.step HB13) (by omega)).mono ?_; rintro e w14 ⟨rfl, hb14⟩
        have HB14 := HB13.trans (hb14.mono HB13.size)
        clear hb14 HB13 K13
        go_wp2_with fail
        refine (uSwap _ _ _ _ (QX.out.step HB14) sX _).mono ?_; rw [BX.out]; rintro e w15 ⟨A15, c15, rfl, R15, _, hb15⟩
        have K15 := Lib.hid R15
        have HB15 := HB14.trans (hb15.mono HB14.size)
        clear hb15 R15 HB14
        go_wp2_with fail
        refine (same_yes _ _ _ _ _ l0 _ rfl K15.out (Q0.out.step HB15) (by omega)).mono ?_; rintro e w16 ⟨rfl, hb16⟩
        have HB16 := HB15.trans (hb16.mono HB15.size)
        clear hb16 HB15 K15
        go_wp2_with fail
        refine (uMove _ _ _ _ (QM.out.step HB16) sM _ _).mono ?_; rw [BM.out]; rintro e w17 ⟨A17, c17, rfl, R17, _, hb17⟩
        have K17 := Lib.hid R17
        have HB17 := HB16.trans (hb17.mono HB16.size)
        clear hb17 R17 HB16
        go_wp2_with fail
        refine (same_yes _ _ _ _ _ l0 _ rfl K17.out (Q0.out.step HB17) (by omega)).mono ?_; rintro e w18 ⟨rfl, hb18⟩
        have HB18 := HB17.trans (hb18.mono HB17.size)
        clear hb18 HB17 K17
        go_wp2_with fail
        refine (lives_any _).mono ?_; rintro e w19 ⟨rfl, hb19⟩
        have HB19 := hbwr.trans ((HB18.trans (hb19.mono HB18.size)).mono hbwr.size)
        clear hb19 HB18
        go_wp2
        go_ret
        exact ⟨rfl, HB19⟩
end Go.Proofs.Ythbcjjodinnnfaa
