/- The contracts of layer 5 (perm) in one form; the walks of PermMakes and PermSteps. -/
import Derived.Test.YthbcjjodinnnfaaWk1
import Derived.Test.YthbcjjodinnnfaaOpen
namespace Go.Proofs.Ythbcjjodinnnfaa
open Go.RowKit

/-- e returns a slice that reads as l; nothing that was there has turned. -/
def Gives (w : World) (l : List Int) (e : Ending) (w' : World) : Prop := ∃ A c, e = .returned (.slice A l.length c) ∧ RI w' w'.heap.size A l ∧ (A = none → c = 0) ∧ Below w.heap.size w w'
theorem gives_own {w w' : World} {l : List Int} {v : Value} {e : Ending} (he : e = .returned v) (hO : Own w' w.heap.size v l) (hb : Below w.heap.size w w') : Gives w l e w' := by
  obtain ⟨A, c, rfl, hR, hA⟩ := hO.form
  exact ⟨A, c, he, hR, hA, hb⟩
theorem gives_blk {w w' : World} {l : List Int} {g n c : Nat} {e : Ending} (hn : n = l.length) (he : e = .returned (.slice (some ⟨g, 0, none⟩) n c)) (h : Blk w' g 3 (intRow l)) (hb : Below w.heap.size w w') : Gives w l e w' := by
  subst hn
  exact ⟨_, c, he, RI.blk h h.lt, (fun e => by cases e), hb⟩
section
variable (A : Option Addr) (ca : Nat) (l : List Int) (w : World) (h : RI w w.heap.size A l) (hA : A = none → ca = 0) (hl : l.length ≤ 1000)
include h hl
theorem uSwap (i : Int) : Calls Try.prog 15 #[.slice A l.length ca, .int .i64 i] w (Gives w (swapF l i)) :=
  (perm_Swap A ca l i w h (by omega)).mono fun _ _ ⟨_, he, hB, _, hb⟩ => gives_blk (swapF_len l i).symm he hB hb
theorem uMove (f t : Int) : Calls Try.prog 17 #[.slice A l.length ca, .int .i64 f, .int .i64 t] w (Gives w (moveF l f t)) :=
  (perm_Move A ca l f t w h (by omega)).mono fun _ _ ⟨_, he, hB, _, hb⟩ => gives_blk (by unfold moveF; split; rw [downL_len, upL_len]; rfl) he hB hb
theorem uTurn : Calls Try.prog 19 #[.slice A l.length ca] w (Gives w l.reverse) :=
  (perm_Turn A ca l w h (by omega)).mono fun _ _ ⟨_, he, hB, _, hb⟩ => gives_blk (by simp) he hB hb
def invF (l : List Int) : List Int := if rightB l then invL l else []
theorem uInverse : Calls Try.prog 13 #[.slice A l.length ca] w (Gives w (invF l)) := by
  cases hR : rightB l
  · refine (perm_Inverse_no A ca l w h (by omega) hR).mono fun _ _ ⟨he, hb⟩ => ?_
    have e : invF l = [] := by unfold invF; rw [hR]; rfl
    rw [e]
    exact ⟨none, 0, he, RI.nil, fun _ => rfl, hb⟩
  · refine (perm_Inverse_yes A ca l w h (by omega) hR).mono fun _ _ ⟨_, he, hB, _, hb⟩ => ?_
    have e : invF l = invL l := by unfold invF; rw [hR]; rfl
    rw [e]
    exact gives_blk (by unfold invL; rw [invTo_len]) he hB hb
include hA
theorem rSwap (i : Int) : Calls Try.prog 16 #[.slice A l.length ca, .int .i64 i] w (Gives w (swapF l i)) :=
  (ref_Swap A ca l i w h hA (by omega)).mono fun _ _ ⟨_, he, hO, hb⟩ => gives_own he hO hb
theorem rMove (f t : Int) : Calls Try.prog 18 #[.slice A l.length ca, .int .i64 f, .int .i64 t] w (Gives w (moveF l f t)) := by
  cases A with
  | none =>
    have e := h.none_nil
    subst e
    obtain rfl : ca = 0 := hA rfl
    have e2 : moveF [] f t = [] := moveF_out (by simp)
    rw [e2]
    exact (ref_Move_nil f t w).mono fun _ _ ⟨_, he, hO, hb⟩ => gives_own he hO hb
  | some ad =>
    by_cases hi : (0 ≤ f ∧ f < l.length) ∧ (0 ≤ t ∧ t < l.length)
    · obtain ⟨⟨h1, h2⟩, h3, h4⟩ := hi
      obtain ⟨f', rfl⟩ := Int.eq_ofNat_of_zero_le h1
      obtain ⟨t', rfl⟩ := Int.eq_ofNat_of_zero_le h3
      rw [moveF_in (by omega) (by omega)]
      exact (ref_Move_in ad ca l f' t' w h (by omega) (by omega) (by omega)).mono fun _ _ ⟨_, he, hO, hb⟩ => gives_own he hO hb
    · rw [moveF_out hi]
      exact (ref_Move_out ad ca l f t w h (by omega) hi).mono fun _ _ ⟨_, he, hO, hb⟩ => gives_own he hO hb
omit hA
theorem rTurn : Calls Try.prog 20 #[.slice A l.length ca] w (Gives w l.reverse) :=
  (ref_Turn A ca l w h (by omega)).mono fun _ _ ⟨_, he, hO, hb⟩ => gives_own he hO hb
theorem rInverse : Calls Try.prog 14 #[.slice A l.length ca] w (Gives w (invF l)) := by
  cases hR : rightB l
  · refine (ref_Inverse_no A ca l w h (by omega) hR).mono fun _ _ ⟨_, he, hO, hb⟩ => ?_
    have e : invF l = [] := by unfold invF; rw [hR]; rfl
    rw [e]
    exact gives_own he hO hb
  · refine (ref_Inverse_yes A ca l w h (by omega) hR).mono fun _ _ ⟨_, he, hO, hb⟩ => ?_
    have e : invF l = invL l := by unfold invF; rw [hR]; rfl
    rw [e]
    exact gives_own he hO hb
end
theorem uIdent (m : Int) (w : World) : Calls Try.prog 11 #[.int .i64 m] w (Gives w (idL (clampN m))) :=
  (perm_Ident m w).mono fun _ _ ⟨_, he, hB, _, hb⟩ => gives_blk (idL_len _).symm he hB hb
theorem rIdent (m : Int) (w : World) : Calls Try.prog 12 #[.int .i64 m] w (Gives w (idL (clampN m))) :=
  (ref_Ident m w).mono fun _ _ ⟨_, he, hO, hb⟩ => gives_own he hO hb
theorem same_yes (A C : Option Addr) (ca cb n : Nat) (l : List Int) (w : World) (hn : n = l.length) (h1 : RI w w.heap.size A l) (h2 : RI w w.heap.size C l) (hl : l.length ≤ 1000000000000) :
    Calls Try.prog 10 #[.slice A n ca, .slice C n cb] w fun r w' => r = .returned (.bool true) ∧ Below w.heap.size w w' := by
  subst hn
  have h := ref_Same A C ca cb l l w h1 h2 hl hl
  rw [show decide (l = l) = true by simp] at h
  exact h
theorem moveF_len (l : List Int) (f t : Int) : (moveF l f t).length = l.length := by unfold moveF; split; rw [downL_len, upL_len]; rfl
theorem invF_len (l : List Int) : (invF l).length ≤ l.length := by unfold invF invL; split; rw [invTo_len]; exact Nat.le_refl _; simp

set_option maxHeartbeats 2000000 in
theorem permMakes_walk (a0 : Option Addr) (cap0 : Nat) (l0 : List Int) (a1 a2 : Int) (w : World) (w0 : RI w w.heap.size a0 l0) (_m0 : l0.length ≤ maxLen) (n0 : a0 = none → cap0 = 0) (_w1 : (Lit.int .i64 a1).wf = true) (_w2 : (Lit.int .i64 a2).wf = true) :
    Calls Try.prog 3 #[.slice a0 l0.length cap0, .int .i64 a1, .int .i64 a2] w fun e w' => e = .returned (.bool true) ∧ Below w.heap.size w w' := by
  clear _w1 _w2
  by_cases hlt : 70 < l0.length
  · clear w0 n0
    have h1 : (70 : Int) < (l0.length : Int) := by omega
    unfold maxLen at _m0
    go_enter Try.func3, Try.ntmps3
    go_wp2_with (go_at_call 7; refine (lives_any _).mono ?_; rintro e w1 ⟨rfl, hb1⟩)
    go_ret
    exact ⟨rfl, hb1⟩
  · clear _m0
    have h1 : (l0.length : Int) ≤ 70 := by omega
    have hl : l0.length ≤ 1000 := by omega
    have H0 := Lib.hid w0
    have HN := Lib.hid n0
    clear w0 n0 hlt
    go_enter Try.func3, Try.ntmps3
    go_wp2_with fail
    refine (perm_Right _ _ _ _ H0.out (by omega)).mono ?_; rintro e w1 ⟨rfl, hb1⟩
    have H1 := Lib.hid (H0.out.step hb1)
    go_wp2_with fail
    refine (ref_Right _ _ _ _ H1.out (by omega)).mono ?_; rintro e w2 ⟨rfl, hb2⟩
    have hbw2 := hb1.trans (hb2.mono hb1.size)
    clear hb1 hb2 H1
    obtain ⟨q, hq⟩ : ∃ q, rightB l0 = q := ⟨_, rfl⟩
    rw [hq]
    clear hq
    go_wp2_with fail
    refine (uIdent _ _).mono ?_; rintro e w3 ⟨A3, c3, rfl, R3, _, hb3⟩
    have hbw3 := hbw2.trans (hb3.mono hbw2.size)
    have HR3 := Lib.hid R3
    clear R3 hb3 hbw2
    go_wp2_with fail
    refine (rIdent _ _).mono ?_; rintro e w4 ⟨A4, c4, rfl, R4, _, hb4⟩
    have hbw4 := hbw3.trans (hb4.mono hbw3.size)
    have HP3 := Lib.hid (HR3.out.step hb4)
    have HR4 := Lib.hid R4
    clear R4 hb4 HR3 hbw3
    go_wp2_with fail
    refine (same_yes _ _ _ _ _ (idL (clampN a1)) _ (by rfl) HP3.out HR4.out (by have := clampN_le a1; rw [idL_len]; omega)).mono ?_; rintro e w5 ⟨rfl, hb5⟩
    have hbw5 := hbw4.trans (hb5.mono hbw4.size)
    clear hb5 HP3 HR4 hbw4
    have H6 := Lib.hid (H0.out.step hbw5)
    go_wp2_with fail
    refine (uInverse _ _ _ _ H6.out hl).mono ?_; rintro e w6 ⟨A6, c6, rfl, R6, _, hb6⟩
    have hbw6 := hbw5.trans (hb6.mono hbw5.size)
    have H7 := Lib.hid (H0.out.step hbw6)
    have HR6 := Lib.hid R6
    clear R6 hb6 hbw5
    go_wp2_with fail
    refine (rInverse _ _ _ _ H7.out hl).mono ?_; rintro e w7 ⟨A7, c7, rfl, R7, _, hb7⟩
    have hbw7 := hbw6.trans (hb7.mono hbw6.size)
    have HP6 := Lib.hid (HR6.out.step hb7)
    have HR7 := Lib.hid R7
    clear R7 hb7 HR6 hbw6
    go_wp2_with fail
    refine (same_yes _ _ _ _ _ (invF l0) _ (by rfl) HP6.out HR7.out (by have := invF_len l0; omega)).mono ?_; rintro e w8 ⟨rfl, hb8⟩
    have hbw8 := hbw7.trans (hb8.mono hbw7.size)
    clear hb8 HP6 HR7 hbw7
    have H9 := Lib.hid (H0.out.step hbw8)
    go_wp2_with fail
    refine (uSwap _ _ _ _ H9.out hl _).mono ?_; rintro e w9 ⟨A9, c9, rfl, R9, _, hb9⟩
    have hbw9 := hbw8.trans (hb9.mono hbw8.size)
    have H10 := Lib.hid (H0.out.step hbw9)
    have HR9 := Lib.hid R9
    clear R9 hb9 hbw8
    go_wp2_with fail
    refine (rSwap _ _ _ _ H10.out HN.out hl _).mono ?_; rintro e w10 ⟨A10, c10, rfl, R10, _, hb10⟩
    have hbw10 := hbw9.trans (hb10.mono hbw9.size)
    have HP9 := Lib.hid (HR9.out.step hb10)
    have HR10 := Lib.hid R10
    clear R10 hb10 HR9 hbw9
    go_wp2_with fail
    refine (same_yes _ _ _ _ _ (swapF l0 a1) _ (by rfl) HP9.out HR10.out (by rw [swapF_len]; omega)).mono ?_; rintro e w11 ⟨rfl, hb11⟩
    have hbw11 := hbw10.trans (hb11.mono hbw10.size)
    clear hb11 HP9 HR10 hbw10
    have H12 := Lib.hid (H0.out.step hbw11)
    go_wp2_with fail
    refine (uMove _ _ _ _ H12.out hl _ _).mono ?_; rintro e w12 ⟨A12, c12, rfl, R12, _, hb12⟩
    have hbw12 := hbw11.trans (hb12.mono hbw11.size)
    have H13 := Lib.hid (H0.out.step hbw12)
    have HR12 := Lib.hid R12
    clear R12 hb12 hbw11
    go_wp2_with fail
    refine (rMove _ _ _ _ H13.out HN.out hl _ _).mono ?_; rintro e w13 ⟨A13, c13, rfl, R13, _, hb13⟩
    have hbw13 := hbw12.trans (hb13.mono hbw12.size)
    have HP12 := Lib.hid (HR12.out.step hb13)
    have HR13 := Lib.hid R13
    clear R13 hb13 HR12 hbw12
    go_wp2_with fail
    refine (same_yes _ _ _ _ _ (moveF l0 a1 a2) _ (by rfl) HP12.out HR13.out (by rw [moveF_len]; omega)).mono ?_; rintro e w14 ⟨rfl, hb14⟩
    have hbw14 := hbw13.trans (hb14.mono hbw13.size)
    clear hb14 HP12 HR13 hbw13
    have H15 := Lib.hid (H0.out.step hbw14)
    go_wp2_with fail
    refine (uTurn _ _ _ _ H15.out hl).mono ?_; rintro e w15 ⟨A15, c15, rfl, R15, _, hb15⟩
    have hbw15 := hbw14.trans (hb15.mono hbw14.size)
    have H16 := Lib.hid (H0.out.step hbw15)
    have HR15 := Lib.hid R15
    clear R15 hb15 hbw14
    go_wp2_with fail
    refine (rTurn _ _ _ _ H16.out hl).mono ?_; rintro e w16 ⟨A16, c16, rfl, R16, _, hb16⟩
    have hbw16 := hbw15.trans (hb16.mono hbw15.size)
    have HP15 := Lib.hid (HR15.out.step hb16)
    have HR16 := Lib.hid R16
    clear R16 hb16 HR15 hbw15
    go_wp2_with fail
    refine (same_yes _ _ _ _ _ (l0.reverse) _ (by simp) HP15.out HR16.out (by rw [List.length_reverse]; omega)).mono ?_; rintro e w17 ⟨rfl, hb17⟩
    have hbw17 := hbw16.trans (hb17.mono hbw16.size)
    clear hb17 HP15 HR16 hbw16
    go_wp2_with fail
    refine (lives_any _).mono ?_; rintro e w18 ⟨rfl, hb18⟩
    have hbw18 := hbw17.trans (hb18.mono hbw17.size)
    clear hb18 hbw17
    go_wp2
    go_ret
    exact ⟨rfl, hbw18⟩

theorem less1 (b : Bool) : (b == b) = true := by simp
set_option maxHeartbeats 2000000 in
theorem permSteps_walk (a0 : Option Addr) (cap0 : Nat) (l0 : List Int) (a1 : Option Addr) (cap1 : Nat) (l1 : List Int) (w : World) (w0 : RI w w.heap.size a0 l0) (m0 : l0.length ≤ maxLen) (n0 : a0 = none → cap0 = 0) (w1 : RI w w.heap.size a1 l1) (m1 : l1.length ≤ maxLen) (_n1 : a1 = none → cap1 = 0) :
    Calls Try.prog 4 #[.slice a0 l0.length cap0, .slice a1 l1.length cap1] w fun e w' => e = .returned (.bool true) ∧ Below w.heap.size w w' := by
  unfold maxLen at m0 m1
  clear _n1
  by_cases hlt : 40 < l0.length
  · clear w0 w1 n0
    have h1 : (40 : Int) < (l0.length : Int) := by omega
    go_enter Try.func4, Try.ntmps4
    go_wp2_with (go_at_call 7; refine (lives_any _).mono ?_; rintro e w1 ⟨rfl, hb1⟩)
    go_ret
    exact ⟨rfl, hb1⟩
  by_cases hlt2 : 40 < l1.length
  · clear w0 w1 n0
    have h1 : (40 : Int) < (l1.length : Int) := by omega
    have h2 : (l0.length : Int) ≤ 40 := by omega
    go_enter Try.func4, Try.ntmps4
    go_wp2_with (go_at_call 7; refine (lives_any _).mono ?_; rintro e w1 ⟨rfl, hb1⟩)
    go_ret
    exact ⟨rfl, hb1⟩
  have h1 : (l0.length : Int) ≤ 40 := by omega
  have h2 : (l1.length : Int) ≤ 40 := by omega
  have hl0 : l0.length ≤ 1000 := by omega
  have hl1 : l1.length ≤ 1000 := by omega
  have H0 := Lib.hid w0
  have H1 := Lib.hid w1
  have HN := Lib.hid n0
  clear w0 w1 n0 hlt hlt2 m0 m1
  by_cases hr : rightB l0 = true ∧ rightB l1 = true
  · obtain ⟨ra, rb⟩ := hr
    have RA := Lib.hid ra
    have RB := Lib.hid rb
    clear ra rb
    by_cases hlen : l0.length = l1.length
    · have HL := Lib.hid hlen
      clear hlen
      go_enter Try.func4, Try.ntmps4
      go_wp2_with fail
      refine (perm_Steps_yes _ _ _ _ _ _ _ H0.out H1.out hl0 hl1 RA.out RB.out HL.out).mono ?_; rintro e w1 ⟨v1, rfl, O1, hb1⟩
      obtain ⟨A1, c1, rfl, R1, _⟩ := O1.form
      have HS1 := Lib.hid R1
      have H01 := Lib.hid (H0.out.step hb1)
      have H11 := Lib.hid (H1.out.step hb1)
      clear R1 O1
      go_wp2_with fail
      refine (ref_Steps_yes _ _ _ _ _ _ _ H01.out HN.out H11.out hl0 hl1 RA.out RB.out HL.out).mono ?_; rintro e w2 ⟨v2, rfl, O2, hb2⟩
      obtain ⟨A2, c2, rfl, R2, _⟩ := O2.form
      have HS2 := Lib.hid R2
      have HS3 := Lib.hid (HS1.out.step hb2)
      have hbw2 := hb1.trans (hb2.mono hb1.size)
      have hsl := stp_le l1 l0 0 1000 (like_right (right_ok RA.out) (right_ok RB.out) HL.out) hl0
      have hsl2 : (stp 0 l0 l1).length ≤ 1000000 := by have := Nat.mul_le_mul_right 1000 hl1; omega
      clear R2 O2 hb1 hb2 HS1 hsl H01 H11
      go_wp2_with fail
      refine (same_yes _ _ _ _ _ (stp 0 l0 l1) _ rfl HS3.out HS2.out (by omega)).mono ?_; rintro e w3 ⟨rfl, hb3⟩
      have hbw3 := hbw2.trans (hb3.mono hbw2.size)
      clear hb3 hbw2
      go_wp2_with fail
      refine (lives_any _).mono ?_; rintro e w4 ⟨rfl, hb4⟩
      have hbw4 := hbw3.trans (hb4.mono hbw3.size)
      clear hb4 hbw3
      go_wp2
      go_ret
      exact ⟨rfl, hbw4⟩
    · have HL := Lib.hid hlen
      clear hlen
      go_enter Try.func4, Try.ntmps4
      go_wp2_with fail
      refine (perm_Steps_len _ _ _ _ _ _ _ H0.out H1.out hl0 hl1 RA.out RB.out HL.out).mono ?_; rintro e w1 ⟨rfl, hb1⟩
      have H01 := Lib.hid (H0.out.step hb1)
      have H11 := Lib.hid (H1.out.step hb1)
      go_wp2_with fail
      refine (ref_Steps_len _ _ _ _ _ _ _ H01.out H11.out hl0 hl1 RA.out RB.out HL.out).mono ?_; rintro e w2 ⟨rfl, hb2⟩
      have hbw2 := hb1.trans (hb2.mono hb1.size)
      clear hb1 hb2
      go_wp2_with fail
      refine (same_yes none none _ _ 0 [] _ rfl RI.nil RI.nil (by decide)).mono ?_; rintro e w3 ⟨rfl, hb3⟩
      have hbw3 := hbw2.trans (hb3.mono hbw2.size)
      clear hb3 hbw2
      go_wp2_with fail
      refine (lives_any _).mono ?_; rintro e w4 ⟨rfl, hb4⟩
      have hbw4 := hbw3.trans (hb4.mono hbw3.size)
      clear hb4 hbw3
      go_wp2
      go_ret
      exact ⟨rfl, hbw4⟩
  · have HR : Hid (rightB l0 = false ∨ rightB l1 = false) := by
      show _ ∨ _
      cases e1 : rightB l0
      · exact .inl rfl
      · cases e2 : rightB l1
        · exact .inr rfl
        · exact absurd ⟨e1, e2⟩ hr
    clear hr
    go_enter Try.func4, Try.ntmps4
    go_wp2_with fail
    refine (perm_Steps_no _ _ _ _ _ _ _ H0.out H1.out hl0 hl1 HR.out).mono ?_; rintro e w1 ⟨rfl, hb1⟩
    have H01 := Lib.hid (H0.out.step hb1)
    have H11 := Lib.hid (H1.out.step hb1)
    go_wp2_with fail
    refine (ref_Steps_no _ _ _ _ _ _ _ H01.out H11.out hl0 hl1 HR.out).mono ?_; rintro e w2 ⟨rfl, hb2⟩
    have hbw2 := hb1.trans (hb2.mono hb1.size)
    clear hb1 hb2
    go_wp2_with fail
    refine (same_yes none none _ _ 0 [] _ rfl RI.nil RI.nil (by decide)).mono ?_; rintro e w3 ⟨rfl, hb3⟩
    have hbw3 := hbw2.trans (hb3.mono hbw2.size)
    clear hb3 hbw2
    go_wp2_with fail
    refine (lives_any _).mono ?_; rintro e w4 ⟨rfl, hb4⟩
    have hbw4 := hbw3.trans (hb4.mono hbw3.size)
    clear hb4 hbw3
    go_wp2
    go_ret
    exact ⟨rfl, hbw4⟩
end Go.Proofs.Ythbcjjodinnnfaa
