/- The example of the chapter of layer 5 (perm). -/
import Derived.Test.YthbcjjodinnnfaaFn18
namespace Go.Proofs.Ythbcjjodinnnfaa
open Go.RowKit

theorem Blk.lit (w : World) (l : List Int) (cs : Array Value) (e : cs = intRow l) : Blk (w.alloc (.cells cs 3)) w.heap.size 3 (intRow l) := by rw [← e]; exact Blk.new w 3 cs
theorem ex_steps : stp 0 [2, 0, 1] (idL 3) = [0, 1] := by decide
theorem ex_move : moveF (idL 4) 3 1 = [0, 3, 1, 2] := by decide
theorem ex_inv : invL [2, 0, 1] = [1, 2, 0] := by decide
theorem ex_r1 : rightB [2, 0, 1] = true := by decide
theorem ex_r2 : rightB (idL 3) = true := by decide
theorem ex_r3 : rightB [] = true := by decide

theorem ex_ident3 (w : World) : Calls Try.prog 11 #[.int .i64 3] w fun r w' => ∃ g, r = .returned (.slice (some ⟨g, 0, none⟩) 3 3) ∧ Blk w' g 3 (intRow (idL 3)) ∧ w.heap.size ≤ g ∧ Below w.heap.size w w' := perm_Ident 3 w
theorem ex_ident4 (w : World) : Calls Try.prog 11 #[.int .i64 4] w fun r w' => ∃ g, r = .returned (.slice (some ⟨g, 0, none⟩) 4 4) ∧ Blk w' g 3 (intRow (idL 4)) ∧ w.heap.size ≤ g ∧ Below w.heap.size w w' := perm_Ident 4 w
theorem ex_steps_calls (g1 g2 : Nat) (w : World) (h1 : Blk w g1 3 (intRow [2, 0, 1])) (h2 : Blk w g2 3 (intRow (idL 3))) :
    Calls Try.prog 21 #[.slice (some ⟨g1, 0, none⟩) 3 3, .slice (some ⟨g2, 0, none⟩) 3 3] w fun r w' => ∃ A c, r = .returned (.tuple #[.slice A 2 c, .int .i64 0]) ∧ RI w' w'.heap.size A [0, 1] ∧ Below w.heap.size w w' := by
  have h := perm_Steps_yes (some ⟨g1, 0, none⟩) (some ⟨g2, 0, none⟩) 3 3 [2, 0, 1] (idL 3) w (RI.blk h1 h1.lt) (RI.blk h2 h2.lt) (by decide) (by decide) ex_r1 ex_r2 (by decide)
  rw [ex_steps] at h
  refine h.mono fun e w' ⟨v, he, hO, hb⟩ => ?_
  obtain ⟨A, c, rfl, hR, _⟩ := hO.form
  exact ⟨A, c, he, hR, hb⟩
theorem ex_same (A : Option Addr) (g n ca : Nat) (l : List Int) (w : World) (hn : n = l.length) (h1 : RI w w.heap.size A l) (h2 : Blk w g 3 (intRow l)) (hl : l.length ≤ 1000000000000) :
    Calls Try.prog 10 #[.slice A n ca, .slice (some ⟨g, 0, none⟩) n n] w fun r w' => r = .returned (.bool true) ∧ Below w.heap.size w w' := by
  subst hn
  have h := ref_Same A (some ⟨g, 0, none⟩) ca l.length l l w h1 (RI.blk h2 h2.lt) hl hl
  rw [show decide (l = l) = true by simp] at h
  exact h
theorem ex_move_calls (g : Nat) (w : World) (h : Blk w g 3 (intRow (idL 4))) :
    Calls Try.prog 17 #[.slice (some ⟨g, 0, none⟩) 4 4, .int .i64 3, .int .i64 1] w fun r w' => ∃ g, r = .returned (.slice (some ⟨g, 0, none⟩) 4 4) ∧ Blk w' g 3 (intRow [0, 3, 1, 2]) ∧ w.heap.size ≤ g ∧ Below w.heap.size w w' := by
  have h := perm_Move (some ⟨g, 0, none⟩) 4 (idL 4) 3 1 w (RI.blk h h.lt) (by decide)
  rw [ex_move] at h
  exact h
theorem ex_inv_calls (g : Nat) (w : World) (h : Blk w g 3 (intRow [2, 0, 1])) :
    Calls Try.prog 13 #[.slice (some ⟨g, 0, none⟩) 3 3] w fun r w' => ∃ g, r = .returned (.slice (some ⟨g, 0, none⟩) 3 3) ∧ Blk w' g 3 (intRow [1, 2, 0]) ∧ w.heap.size ≤ g ∧ Below w.heap.size w w' := by
  have h := perm_Inverse_yes (some ⟨g, 0, none⟩) 3 [2, 0, 1] w (RI.blk h h.lt) (by decide) ex_r1
  rw [ex_inv] at h
  exact h
theorem ex_right_nil (w : World) : Calls Try.prog 8 #[.slice none 0 0] w fun r w' => r = .returned (.bool true) ∧ Below w.heap.size w w' := by
  have h := perm_Right none 0 [] w RI.nil (by decide)
  rw [ex_r3] at h
  exact h

set_option maxHeartbeats 1000000 in
theorem lives_any (w : World) : Calls Try.prog 7 #[] w fun r w' => r = .returned (.bool true) ∧ Below w.heap.size w w' := by
  have hr0 := Blk.lit w [2, 0, 1] #[.int .i64 2, .int .i64 0, .int .i64 1] rfl
  have HR0 := Lib.hid hr0
  clear hr0
  go_enter Try.func7, Try.ntmps7
  go_wp2_with fail
  refine (ex_ident3 _).mono ?_; rintro e w1 ⟨g1, rfl, B1, hg1, hb1⟩
  have HB1 := Lib.hid B1
  have HR1 := Lib.hid (HR0.out.below hb1 (by simp))
  have hbw1 : Below w.heap.size w w1 := ((Below.refl _ w).alloc (Nat.le_refl _) _).trans (hb1.mono (by simp))
  clear B1 hb1 HR0
  go_wp2_with fail
  refine (ex_steps_calls _ _ _ HR1.out HB1.out).mono ?_; rintro e w2 ⟨A2, c2, rfl, R2, hb2⟩
  have hbw2 := hbw1.trans (hb2.mono hbw1.size)
  have HR2 := Lib.hid (R2.step ((Below.refl _ w2).alloc (Nat.le_refl _) (.cells #[.int .i64 0, .int .i64 1] 3)))
  have HL2 := Lib.hid (Blk.lit w2 [0, 1] #[.int .i64 0, .int .i64 1] rfl)
  clear R2 hb2 HB1 HR1
  go_wp2_with fail
  refine (ex_same _ _ _ _ _ _ rfl HR2.out HL2.out (by decide)).mono ?_; rintro e w3 ⟨rfl, hb3⟩
  have hbw3 := (hbw2.alloc hbw2.size _).trans (hb3.mono (by have := hbw2.size; simp; omega))
  clear HR2 HL2 hb3 hbw2
  go_wp2_with fail
  refine (ex_ident4 _).mono ?_; rintro e w4 ⟨g4, rfl, B4, hg4, hb4⟩
  have HB4 := Lib.hid B4
  have hbw4 := hbw3.trans (hb4.mono hbw3.size)
  clear hb4 hbw3 B4
  go_wp2_with fail
  refine (ex_move_calls _ _ HB4.out).mono ?_; rintro e w5 ⟨g5, rfl, B5, hg5, hb5⟩
  have hbw5 := hbw4.trans (hb5.mono hbw4.size)
  have HR5 := Lib.hid ((RI.blk B5 B5.lt).step ((Below.refl _ w5).alloc (Nat.le_refl _) (.cells #[.int .i64 0, .int .i64 3, .int .i64 1, .int .i64 2] 3)))
  have HL5 := Lib.hid (Blk.lit w5 [0, 3, 1, 2] #[.int .i64 0, .int .i64 3, .int .i64 1, .int .i64 2] rfl)
  clear B5 hb5 HB4
  go_wp2_with fail
  refine (ex_same _ _ _ _ _ _ rfl HR5.out HL5.out (by decide)).mono ?_; rintro e w6 ⟨rfl, hb6⟩
  have hbw6 := (hbw5.alloc hbw5.size _).trans (hb6.mono (by have := hbw5.size; simp; omega))
  have HL6 := Lib.hid (Blk.lit w6 [2, 0, 1] #[.int .i64 2, .int .i64 0, .int .i64 1] rfl)
  clear hb6 HR5 HL5 hbw5
  go_wp2_with fail
  refine (ex_inv_calls _ _ HL6.out).mono ?_; rintro e w7 ⟨g7, rfl, B7, hg7, hb7⟩
  have hbw7 := (hbw6.alloc hbw6.size _).trans (hb7.mono (by have := hbw6.size; simp; omega))
  have HR7 := Lib.hid ((RI.blk B7 B7.lt).step ((Below.refl _ w7).alloc (Nat.le_refl _) (.cells #[.int .i64 1, .int .i64 2, .int .i64 0] 3)))
  have HL7 := Lib.hid (Blk.lit w7 [1, 2, 0] #[.int .i64 1, .int .i64 2, .int .i64 0] rfl)
  clear B7 hb7 HL6
  go_wp2_with fail
  refine (ex_same _ _ _ _ _ _ rfl HR7.out HL7.out (by decide)).mono ?_; rintro e w8 ⟨rfl, hb8⟩
  have hbw8 := (hbw7.alloc hbw7.size _).trans (hb8.mono (by have := hbw7.size; simp; omega))
  clear hb8 HR7 HL7 hbw7
  go_wp2_with fail
  refine (ex_right_nil _).mono ?_; rintro e w9 ⟨rfl, hb9⟩
  have hbw9 := hbw8.trans (hb9.mono hbw8.size)
  clear hb9
  go_wp2
  go_ret
  exact ⟨rfl, hbw9⟩
end Go.Proofs.Ythbcjjodinnnfaa
