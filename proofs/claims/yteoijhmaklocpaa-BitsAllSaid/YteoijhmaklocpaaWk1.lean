/- The example of the chapter of layer 2 (bits). -/
import Derived.Test.YteoijhmaklocpaaFn1
import Derived.Test.YteoijhmaklocpaaFn2
import Derived.Test.YteoijhmaklocpaaFn3
import Derived.Test.YteoijhmaklocpaaFn4
import Derived.Test.YteoijhmaklocpaaFn5
import Derived.Test.YteoijhmaklocpaaFn6
namespace Go.Proofs.Yteoijhmaklocpaa
open Go.RowKit Go.PlainAid

def exL : List Bool := [false, true, true, false]
def exS : ByteArray := ⟨#[48, 49, 49, 48]⟩
theorem ex_of : ofL 6 4 = exL := by decide
theorem ex_bin : BinTo exS exS.size := fun i hi => by
  have : i < 4 := hi
  rcases (by omega : i = 0 ∨ i = 1 ∨ i = 2 ∨ i = 3) with rfl | rfl | rfl | rfl <;> decide
theorem ex_of_calls (w : World) : Calls Try.prog 10 #[.int .u64 6, .int .i64 4] w fun r w' => ∃ g, r = .returned (.slice (some ⟨g, 0, none⟩) 4 4) ∧ Blk w' g 4 (boolRow exL) ∧ w.heap.size ≤ g ∧ Below w.heap.size w w' := by
  have h := bits_Of 6 4 w (by omega)
  have e : clampN 4 = 4 := by decide
  rw [e, ex_of] at h
  exact h
theorem ex_parse_calls (w : World) : Calls Try.prog 20 #[.string ⟨#[48, 49, 49, 48]⟩] w fun r w' => ∃ g, r = .returned (.tuple #[.slice (some ⟨g, 0, none⟩) 4 4, .int .i64 0]) ∧ Blk w' g 4 (boolRow exL) ∧ w.heap.size ≤ g ∧ Below w.heap.size w w' := by
  have h := bits_Parse_ok exS w (by decide) ex_bin
  have e : binL exS exS.size = exL := by decide
  rw [e] at h
  exact h
theorem ex_text_calls (g : Nat) (w : World) (hB : Blk w g 4 (boolRow exL)) : Calls Try.prog 16 #[.slice (some ⟨g, 0, none⟩) 4 4] w fun r w' => r = .returned (.string ⟨#[48, 49, 49, 48]⟩) ∧ Below w.heap.size w w' := by
  have h := bits_Text (some ⟨g, 0, none⟩) 4 exL w (RB.blk hB hB.lt) (by decide)
  have e : strOfNums (textL exL) = ⟨#[48, 49, 49, 48]⟩ := by decide
  rw [e] at h
  exact h
theorem ex_text2_calls (g : Nat) (w : World) (hB : Blk w g 4 (boolRow (nextL exL))) : Calls Try.prog 16 #[.slice (some ⟨g, 0, none⟩) 4 4] w fun r w' => r = .returned (.string ⟨#[49, 49, 49, 48]⟩) ∧ Below w.heap.size w w' := by
  have h := bits_Text (some ⟨g, 0, none⟩) 4 (nextL exL) w (RB.blk hB hB.lt) (by decide)
  have e : strOfNums (textL (nextL exL)) = ⟨#[49, 49, 49, 48]⟩ := by decide
  rw [e] at h
  exact h
theorem ex_num_calls (g : Nat) (w : World) (hB : Blk w g 4 (boolRow exL)) : Calls Try.prog 12 #[.slice (some ⟨g, 0, none⟩) 4 4] w fun r w' => r = .returned (.int .u64 6) ∧ w = w' := by
  have h := bits_Num_le (some ⟨g, 0, none⟩) 4 exL w (RB.blk hB hB.lt) (by decide)
  exact h
theorem ex_next_calls (g : Nat) (w : World) (hB : Blk w g 4 (boolRow exL)) : Calls Try.prog 14 #[.slice (some ⟨g, 0, none⟩) 4 4] w fun r w' => ∃ g, r = .returned (.slice (some ⟨g, 0, none⟩) 4 4) ∧ Blk w' g 4 (boolRow (nextL exL)) ∧ w.heap.size ≤ g ∧ Below w.heap.size w w' := by
  have h := bits_Next (some ⟨g, 0, none⟩) 4 exL w (RB.blk hB hB.lt) (by decide)
  exact h
theorem ex_same_calls (g1 g2 : Nat) (w : World) (hB : Blk w g1 4 (boolRow exL)) (hC : Blk w g2 4 (boolRow exL)) : Calls Try.prog 9 #[.slice (some ⟨g1, 0, none⟩) 4 4, .slice (some ⟨g2, 0, none⟩) 4 4] w fun r w' => r = .returned (.bool true) ∧ Below w.heap.size w w' := by
  have h := ref_Same (some ⟨g1, 0, none⟩) (some ⟨g2, 0, none⟩) 4 4 exL exL w (RB.blk hB hB.lt) (RB.blk hC hC.lt) (by decide) (by decide)
  have e : decide (exL = exL) = true := by decide
  rw [e] at h
  exact h.mono fun _ _ ⟨h1, n, h2⟩ => ⟨h1, by rw [h2]; exact below_drewN (Below.refl _ _) _⟩
theorem ex_less_calls (g1 g2 : Nat) (w : World) (hB : Blk w g1 4 (boolRow exL)) (hC : Blk w g2 4 (boolRow (nextL exL))) : Calls Try.prog 18 #[.slice (some ⟨g1, 0, none⟩) 4 4, .slice (some ⟨g2, 0, none⟩) 4 4] w fun r w' => r = .returned (.bool true) ∧ Below w.heap.size w w' := by
  have h := bits_Less (some ⟨g1, 0, none⟩) (some ⟨g2, 0, none⟩) 4 4 exL (nextL exL) w (RB.blk hB hB.lt) (RB.blk hC hC.lt) (by decide) (by decide)
  have e : lessL exL (nextL exL) = true := by decide
  rw [e] at h
  exact h.mono fun _ _ ⟨h1, n, h2⟩ => ⟨h1, by rw [h2]; exact below_drewN (Below.refl _ _) _⟩

theorem func_neq (p : Addr) (w : World) : (binOp .neq 41 (.func (.func 25) #[] #[.pointer (some p)]) .nilFunc).run Try.prog w = .ok (.bool true) w := by kernel_rfl
set_option maxHeartbeats 1000000 in
theorem lives_any (w : World) : Calls Try.prog 8 #[] w fun r w' => r = .returned (.bool true) ∧ Below w.heap.size w w' := by
  go_enter Try.func8, Try.ntmps8
  go_wp2_with fail
  refine (ex_of_calls _).mono ?_; rintro e w1 ⟨g1, rfl, B1, hg1, hb1⟩
  go_wp2_with fail
  refine (ex_parse_calls _).mono ?_; rintro e w2 ⟨g2, rfl, B2, hg2, hb2⟩
  have B12 := B1.below hb2 B1.lt
  go_wp2_with fail
  refine (ex_text_calls _ _ B12).mono ?_; rintro e w3 ⟨rfl, hb3⟩
  have B13 := B12.below hb3 B12.lt
  have B23 := B2.below hb3 B2.lt
  go_wp2_with fail
  refine (ex_num_calls _ _ B13).mono ?_; rintro e w' ⟨rfl, rfl⟩
  go_wp2_with fail
  refine (ex_next_calls _ _ B13).mono ?_; rintro e w4 ⟨g4, rfl, B4, hg4, hb4⟩
  have B14 := B13.below hb4 B13.lt
  have B24 := B23.below hb4 B23.lt
  go_wp2_with fail
  refine (ex_text2_calls _ _ B4).mono ?_; rintro e w5 ⟨rfl, hb5⟩
  have B15 := B14.below hb5 B14.lt
  have B25 := B24.below hb5 B24.lt
  go_wp2_with fail
  refine (ex_same_calls _ _ _ B25 B15).mono ?_; rintro e wa ⟨rfl, hba⟩
  have B1a := B15.below hba B15.lt
  go_wp2_with fail
  refine (ex_next_calls _ _ B1a).mono ?_; rintro e w6 ⟨g6, rfl, B6, hg6, hb6⟩
  have B16 := B1a.below hb6 B1a.lt
  go_wp2_with fail
  refine (ex_less_calls _ _ _ B16 B6).mono ?_; rintro e wb ⟨rfl, hbb⟩
  have hbw : Below w.heap.size w wb := by
    have c1 := hb1
    have c2 := c1.trans (hb2.mono c1.size)
    have c3 := c2.trans (hb3.mono c2.size)
    have c4 := c3.trans (hb4.mono c3.size)
    have c5 := c4.trans (hb5.mono c4.size)
    have c6 := c5.trans (hba.mono c5.size)
    have c7 := c6.trans (hb6.mono c6.size)
    exact c7.trans (hbb.mono c7.size)
  clear hb1 hb2 hb3 hb4 hb5 hba hb6 hbb B1 B2 B12 B13 B23 B4 B14 B24 B15 B25 B1a B6 B16 hg1 hg2 hg4 hg6
  have hsz := hbw.size
  have hnf := func_neq
  go_wp2
  go_ret
  exact ⟨rfl, hbw.alloc hbw.size _⟩
end Go.Proofs.Yteoijhmaklocpaa
