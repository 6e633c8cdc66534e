/- The example of the chapter, and the walks of the laws NumReckons and NumNear. -/
import Derived.Test.YtfikodeghjlhcaaFn4
import Derived.Test.YtfikodeghjlhcaaFn5
import Derived.Test.YtfikodeghjlhcaaFn7
namespace Go.Proofs.Ytfikodeghjlhcaa
open Go.RowKit Go.PlainAid

theorem ex_parse1 : parseF ⟨#[45, 49, 50]⟩ (-12) 0 = (-12, 0) := by
  have e : (⟨#[45, 49, 50]⟩ : ByteArray).extract 1 (⟨#[45, 49, 50]⟩ : ByteArray).size = ⟨#[49, 50]⟩ := by decide
  have hn : Neg ⟨#[45, 49, 50]⟩ := ⟨by decide, by decide⟩
  have hd : Dec ⟨#[49, 50]⟩ := ⟨fun i hi => by
    have : i < 2 := hi
    rcases (by omega : i = 0 ∨ i = 1) with rfl | rfl <;> decide, by decide, by decide⟩
  have hv : valS ⟨#[45, 49, 50]⟩ = -12 := by
    unfold valS
    rw [if_pos hn, e]
    decide
  have := parse_in (s := ⟨#[45, 49, 50]⟩) (l := -12) (m := 0) (.inl ⟨hn, by rw [e]; exact hd, by rw [e, ByteArray.toList_eq]; decide⟩) (by rw [hv]; decide)
  rw [hv] at this
  exact this
theorem ex_parse2 : parseF ⟨#[48, 49, 50]⟩ 0 99 = (0, 3) := by
  apply parse_no
  rintro (⟨⟨_, h⟩, _⟩ | ⟨_, h⟩)
  · revert h; decide
  · have := h.2.2 (by decide)
    revert this; decide
theorem ex_text : strOfNums (textF (-12)) = ⟨#[45, 49, 50]⟩ := by
  have : textF (-12) = [45, 49, 50] := by unfold textF; simp [digs]
  rw [this]; rfl
theorem ex_bits : bitsF 5 = 3 := by
  have h1 := (bits_iff 5 3).1 (by decide)
  have h2 : ¬ bitsF 5 ≤ 2 := fun h => by have := (bits_iff 5 2).2 h; revert this; decide
  omega

theorem lives_any (w : World) : Calls Try.prog 7 #[] w fun r w' => r = .returned (.bool true) ∧ Below w.heap.size w w' := by
  have a1 : addF 9007199254740991 1 = (9007199254740992, true) := by decide
  have a2 : addF 9007199254740992 1 = (0, false) := by decide
  have a3 := ex_parse1
  have a4 := ex_parse2
  have a5 := ex_text
  have a6 := ex_bits
  have s1 : (⟨#[45, 49, 50]⟩ : ByteArray).size ≤ 9223372036854775807 := by decide
  have s2 : (⟨#[48, 49, 50]⟩ : ByteArray).size ≤ 9223372036854775807 := by decide
  go_enter Try.func7, Try.ntmps7
  go_wp2_with (first
    | (go_at_call 8; refine (num_Add _ _ _ (by omega) (by omega) (by omega) (by omega)).mono ?_; rintro e w' ⟨rfl, rfl⟩)
    | (go_at_call 14; refine (num_Bits _ _ (by omega) (by omega)).mono ?_; rintro e w' ⟨rfl, rfl⟩)
    | (go_at_call 18; refine (num_Parse _ _ _ _ (by assumption) (by omega) (by omega) (by omega) (by omega)).mono ?_; rintro e w' ⟨rfl, rfl⟩)
    | (go_at_call 20; refine (num_Text _ _ (by omega) (by omega)).mono ?_; rintro e w1 ⟨rfl, hb1⟩))
  go_ret
  exact ⟨rfl, hb1⟩

theorem numReckons_walk (a b k : Int) (w : World) (wa : (Lit.int .i64 a).wf = true) (wb : (Lit.int .i64 b).wf = true) (wk : (Lit.int .i64 k).wf = true) :
    Calls Try.prog 3 #[.int .i64 a, .int .i64 b, .int .i64 k] w fun r w' => r = .returned (.bool true) ∧ Below w.heap.size w w' := by
  obtain ⟨a1, a2⟩ := bounds_i64 wa
  obtain ⟨b1, b2⟩ := bounds_i64 wb
  clear wa wb wk
  go_enter Try.func3, Try.ntmps3
  go_wp2_with (first
    | (go_at_call 7; refine (lives_any _).mono ?_; rintro e w1 ⟨rfl, hb1⟩)
    | (go_at_call 8; refine (num_Add _ _ _ (by omega) (by omega) (by omega) (by omega)).mono ?_; rintro e w' ⟨rfl, rfl⟩)
    | (go_at_call 9; refine (ref_Add _ _ _ (by omega) (by omega) (by omega) (by omega)).mono ?_; rintro e w' ⟨rfl, rfl⟩)
    | (go_at_call 10; refine (num_Mul _ _ _ (by omega) (by omega) (by omega) (by omega)).mono ?_; rintro e w' ⟨rfl, rfl⟩)
    | (go_at_call 11; refine (ref_Mul _ _ _ (by omega) (by omega) (by omega) (by omega)).mono ?_; rintro e w' ⟨rfl, rfl⟩)
    | (go_at_call 12; refine (num_Pow2 _ _).mono ?_; rintro e w' ⟨rfl, rfl⟩)
    | (go_at_call 13; refine (ref_Pow2 _ _).mono ?_; rintro e w' ⟨rfl, rfl⟩))
  go_ret
  exact ⟨rfl, hb1⟩

theorem numNear_walk (n l h : Int) (w : World) (wn : (Lit.int .i64 n).wf = true) (wl : (Lit.int .i64 l).wf = true) (wh : (Lit.int .i64 h).wf = true) :
    Calls Try.prog 4 #[.int .i64 n, .int .i64 l, .int .i64 h] w fun r w' => r = .returned (.bool true) ∧ Below w.heap.size w w' := by
  obtain ⟨n1, n2⟩ := bounds_i64 wn
  clear wn wl wh
  have hb := bits_le n2
  by_cases c : n < 2
  · have hz := bits_small (m := n) (by omega)
    go_enter Try.func4, Try.ntmps4
    go_wp2_with (first
      | (go_at_call 7; refine (lives_any _).mono ?_; rintro e w1 ⟨rfl, hb1⟩)
      | (go_at_call 14; refine (num_Bits _ _ (by omega) (by omega)).mono ?_; rintro e w' ⟨rfl, rfl⟩)
      | (go_at_call 15; refine (ref_Bits _ _ (by omega) (by omega)).mono ?_; rintro e w' ⟨rfl, rfl⟩)
      | (go_at_call 16; refine (num_Near _ _ _ _).mono ?_; rintro e w' ⟨rfl, rfl⟩)
      | (go_at_call 17; refine (ref_Near _ _ _ _).mono ?_; rintro e w' ⟨rfl, rfl⟩))
    go_ret
    exact ⟨rfl, hb1⟩
  · go_enter Try.func4, Try.ntmps4
    go_wp2_with (first
      | (go_at_call 7; refine (lives_any _).mono ?_; rintro e w1 ⟨rfl, hb1⟩)
      | (go_at_call 14; refine (num_Bits _ _ (by omega) (by omega)).mono ?_; rintro e w' ⟨rfl, rfl⟩)
      | (go_at_call 15; refine (ref_Bits _ _ (by omega) (by omega)).mono ?_; rintro e w' ⟨rfl, rfl⟩)
      | (go_at_call 16; refine (num_Near _ _ _ _).mono ?_; rintro e w' ⟨rfl, rfl⟩)
      | (go_at_call 17; refine (ref_Near _ _ _ _).mono ?_; rintro e w' ⟨rfl, rfl⟩))
    go_ret
    exact ⟨rfl, hb1⟩
end Go.Proofs.Ytfikodeghjlhcaa
