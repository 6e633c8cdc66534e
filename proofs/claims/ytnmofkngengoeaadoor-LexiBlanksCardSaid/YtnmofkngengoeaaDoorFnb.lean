/- Contracts of Is, Words and of the specification's, and of the law's examples, of layer 29 (lexi), over the translation. -/
import Derived.Test.YtnmofkngengoeaaDoorFna
namespace Go.Proofs.YtnmofkngengoeaaDoor
open Go.RowKit Go.PlainAid

def isS (s : ByteArray) : Bool := decide (0 < s.size) && decide (s.size ≤ 24) && letQ (bt s 0) && decide (span namQ s 0 = s.size) && !wordQ s
set_option maxHeartbeats 2000000 in
theorem lx_Is (s : ByteArray) (w : World) (hG : Glob w) : Calls Tryd.prog 16 #[.string s] w fun e w' => e = .returned (.bool (isS s)) ∧ w = w' := by
  rcases Nat.eq_zero_or_pos s.size with h0 | h0
  · have hl : s.toList = [] := List.eq_nil_of_length_eq_zero (by rw [ByteArray.toList_eq]; exact h0)
    have hl2 : s.toList.isEmpty = true := by rw [hl]; rfl
    have HX : Hid (isS s = false) := Lib.hid (by unfold isS; simp [h0])
    go_enter Tryd.func16, Tryd.ntmps16
    go_wp2
    go_ret
    exact ⟨by rw [HX.out]; rfl, rfl⟩
  · have hne1 : ¬ s.toList = [] := fun e => by
      have h := congrArg List.length e
      rw [ByteArray.toList_eq] at h
      have h2 : s.size = 0 := h
      omega
    have hne2 : s.toList.isEmpty = false := by
      cases h : s.toList with
      | nil => exact absurd h hne1
      | cons _ _ => rfl
    by_cases h24 : s.size ≤ 24
    · have h24' : ¬ (24 : Int) < (s.size : Int) := by omega
      have hb := get_bt s
      have HL := Lib.hid (lx_isLetter (bt s 0) w)
      have HS := Lib.hid (lx_span namQ 37 s w (by omega) (.inr (.inr (.inr rfl))) lx_isInName)
      have HW := Lib.hid (lx_isWord s w hG)
      obtain ⟨ans, hans⟩ : ∃ a, isS s = a := ⟨_, rfl⟩
      rw [hans]
      unfold isS at hans
      rw [decide_eq_true h0, decide_eq_true h24] at hans
      have HANS := Lib.hid hans
      obtain ⟨a, ha⟩ : ∃ a, letQ (bt s 0) = a := ⟨_, rfl⟩
      obtain ⟨n, hn⟩ : ∃ n, span namQ s 0 = n := ⟨_, rfl⟩
      obtain ⟨q, hq⟩ : ∃ q, wordQ s = q := ⟨_, rfl⟩
      rw [ha, hn, hq] at HANS
      rw [ha] at HL
      rw [hn] at HS
      rw [hq] at HW
      clear hans ha hn hq
      obtain ⟨c, hc, hc2⟩ : ∃ c, ((n : Int) == (s.size : Int)) = c ∧ decide (n = s.size) = c := by
        refine ⟨_, rfl, ?_⟩
        by_cases h : n = s.size
        · subst h; simp
        · rw [decide_eq_false h]; symm; rw [beq_eq_false_iff_ne]; omega
      rw [hc2] at HANS
      clear hc2
      cases a <;> cases c <;> cases q
      all_goals
        go_enter Tryd.func16, Tryd.ntmps16
        go_wp2_with (first | (go_at_call 26; with_reducible refine HL.out.mono ?_; rintro e w9 ⟨rfl, rfl⟩) | (go_at_call 36; with_reducible refine HS.out.mono ?_; rintro e w9 ⟨rfl, rfl⟩) | (go_at_call 38; with_reducible refine HW.out.mono ?_; rintro e w9 ⟨rfl, rfl⟩))
        go_ret
        exact ⟨by rw [← HANS.out]; rfl, rfl⟩
    · have h24' : (24 : Int) < (s.size : Int) := by omega
      have HX : Hid (isS s = false) := Lib.hid (by unfold isS; simp [h24])
      go_enter Tryd.func16, Tryd.ntmps16
      go_wp2
      go_ret
      exact ⟨by rw [HX.out]; rfl, rfl⟩
end Go.Proofs.YtnmofkngengoeaaDoor
