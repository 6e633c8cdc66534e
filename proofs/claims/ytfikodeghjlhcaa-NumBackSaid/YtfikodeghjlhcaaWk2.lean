/- The walk of the law NumBack. -/
import Derived.Test.YtfikodeghjlhcaaWk1
import Derived.Test.YtfikodeghjlhcaaBack
namespace Go.Proofs.Ytfikodeghjlhcaa
open Go.RowKit Go.PlainAid

theorem text_size (n : Int) (n1 : -9223372036854775808 ≤ n) (n2 : n ≤ 9223372036854775807) : (strOfNums (textF n)).size ≤ 9223372036854775807 := by
  rw [strOfNums_size]
  have := digs_len n.natAbs 19 (by omega) (by omega)
  unfold textF
  split <;> simp <;> omega
theorem parse_text (n : Int) : parseF (strOfNums (textF n)) n n = (n, 0) := by
  obtain ⟨h1, h2⟩ := form_text n
  have := parse_in h1 (l := n) (m := n) (by rw [h2]; omega)
  rw [h2] at this
  exact this
theorem parse_cases (s : ByteArray) (l m : Int) : (∃ k, parseF s l m = (k, 0) ∧ l ≤ k ∧ k ≤ m ∧ strOfNums (textF k) = s) ∨ parseF s l m = (0, 3) ∨ parseF s l m = (0, 2) := by
  by_cases h : formF s
  · by_cases h2 : l ≤ valS s ∧ valS s ≤ m
    · exact .inl ⟨_, parse_in h h2, h2.1, h2.2, text_form h⟩
    · exact .inr (.inr (parse_out h h2))
  · exact .inr (.inl (parse_no h))
theorem near_twice (n l h : Int) (hl : ¬ h < l) : nearF (nearF n l h) l h = nearF n l h := by
  unfold nearF
  by_cases a : n < l
  · simp only [a, if_true]; rw [if_neg (by omega), if_neg (by omega)]
  · by_cases b : n > h
    · simp only [a, b, if_true, if_false]; rw [if_neg (by omega), if_neg (by omega)]
    · simp only [a, b, if_false]

set_option maxHeartbeats 1000000 in
theorem numBack_walk (n : Int) (s : ByteArray) (l h : Int) (w : World) (wn : (Lit.int .i64 n).wf = true) (ws : s.size ≤ maxLen) (wl : (Lit.int .i64 l).wf = true) (wh : (Lit.int .i64 h).wf = true) :
    Calls Try.prog 6 #[.int .i64 n, .string s, .int .i64 l, .int .i64 h] w fun r w' => r = .returned (.bool true) ∧ Below w.heap.size w w' := by
  obtain ⟨n1, n2⟩ := bounds_i64 wn
  obtain ⟨l1, l2⟩ := bounds_i64 wl
  obtain ⟨h1, h2⟩ := bounds_i64 wh
  have hs : s.size ≤ 9223372036854775807 := by unfold maxLen at ws; omega
  clear wn wl wh ws
  have ht := text_size n n1 n2
  have hp := parse_text n
  have hnn : h < l ∨ (¬ h < l ∧ nearF (nearF n l h) l h = nearF n l h) := by
    by_cases c : h < l
    · exact .inl c
    · exact .inr ⟨c, near_twice n l h c⟩
  rcases parse_cases s l h with ⟨k, hk, k1, k2, k3⟩ | hk | hk
  · rcases hnn with c | ⟨c, hnear⟩
    · omega
    · go_enter Try.func6, Try.ntmps6
      go_wp2_with fail
      refine (lives_any _).mono ?_; rintro e w1 ⟨rfl, hb1⟩
      go_wp2_with fail
      refine (num_Text _ _ (by omega) (by omega)).mono ?_; rintro e w2 ⟨rfl, hb2⟩
      have hb12 := hb1.trans (hb2.mono hb1.size)
      clear hb2
      go_wp2_with (first
        | (go_at_call 18; refine (num_Parse _ _ _ _ (by assumption) (by omega) (by omega) (by omega) (by omega)).mono ?_; rintro e w' ⟨rfl, rfl⟩)
        | (go_at_call 16; refine (num_Near _ _ _ _).mono ?_; rintro e w' ⟨rfl, rfl⟩))
      refine (num_Text _ _ (by omega) (by omega)).mono ?_; rintro e w3 ⟨rfl, hb3⟩
      go_wp2_with (first
        | (go_at_call 16; refine (num_Near _ _ _ _).mono ?_; rintro e w' ⟨rfl, rfl⟩))
      go_ret
      exact ⟨rfl, hb12.trans (hb3.mono hb12.size)⟩
  all_goals
    rcases hnn with c | ⟨c, hnear⟩
    · go_enter Try.func6, Try.ntmps6
      go_wp2_with fail
      refine (lives_any _).mono ?_; rintro e w1 ⟨rfl, hb1⟩
      go_wp2_with fail
      refine (num_Text _ _ (by omega) (by omega)).mono ?_; rintro e w2 ⟨rfl, hb2⟩
      have hb12 := hb1.trans (hb2.mono hb1.size)
      clear hb2
      go_wp2_with (first
        | (go_at_call 18; refine (num_Parse _ _ _ _ (by assumption) (by omega) (by omega) (by omega) (by omega)).mono ?_; rintro e w' ⟨rfl, rfl⟩)
        | (go_at_call 16; refine (num_Near _ _ _ _).mono ?_; rintro e w' ⟨rfl, rfl⟩))
      go_ret
      exact ⟨rfl, hb12⟩
    · go_enter Try.func6, Try.ntmps6
      go_wp2_with fail
      refine (lives_any _).mono ?_; rintro e w1 ⟨rfl, hb1⟩
      go_wp2_with fail
      refine (num_Text _ _ (by omega) (by omega)).mono ?_; rintro e w2 ⟨rfl, hb2⟩
      have hb12 := hb1.trans (hb2.mono hb1.size)
      clear hb2
      go_wp2_with (first
        | (go_at_call 18; refine (num_Parse _ _ _ _ (by assumption) (by omega) (by omega) (by omega) (by omega)).mono ?_; rintro e w' ⟨rfl, rfl⟩)
        | (go_at_call 16; refine (num_Near _ _ _ _).mono ?_; rintro e w' ⟨rfl, rfl⟩))
      go_ret
      exact ⟨rfl, hb12⟩
end Go.Proofs.Ytfikodeghjlhcaa
