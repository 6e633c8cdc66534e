/- The contracts of the specification's Form, below and Less, over the translation. -/
import Derived.Test.YtfppplalgdopjaaDoorN6
namespace Go.Proofs.YtfppplalgdopjaaDoor
open Go.RowKit Go.PlainAid

/-- Digits, not empty, no zero ahead. -/
def Plain (s : ByteArray) : Prop := DigTo s s.size ∧ 0 < s.size ∧ bt s 0 ≠ 48
theorem form_iff (s : ByteArray) : formF s ↔ (s.toList = [48] ∨ (Neg s ∧ Plain (s.extract 1 s.size)) ∨ (¬ Neg s ∧ Plain s)) := by
  have key : ∀ t : ByteArray, Dec t ↔ (t.toList = [48] ∨ Plain t) := fun t => by
    have hz := is_zero t
    unfold Dec Plain
    constructor
    · rintro ⟨h1, h2, h3⟩
      by_cases h : bt t 0 = 48
      · exact .inl (hz.2 ⟨h3 h, h⟩)
      · exact .inr ⟨h1, h2, h⟩
    · rintro (h | ⟨h1, h2, h3⟩)
      · have h' := hz.1 h
        refine ⟨fun i hi => ?_, by omega, fun _ => h'.1⟩
        have : i = 0 := by omega
        subst this; omega
      · exact ⟨h1, h2, fun h => absurd h h3⟩
  have hp : ∀ t : ByteArray, Plain t → ¬ t.toList = [48] := fun t h h' => h.2.2 ((is_zero t).1 h').2
  have h0 : s.toList = [48] → ¬ Neg s := fun h h' => by have := (is_zero s).1 h; have := h'.2; omega
  unfold formF
  rw [key, key]
  constructor
  · rintro (⟨h1, h2 | h2, h3⟩ | ⟨h1, h2 | h2⟩)
    · exact absurd h2 h3
    · exact .inr (.inl ⟨h1, h2⟩)
    · exact .inl h2
    · exact .inr (.inr ⟨h1, h2⟩)
  · rintro (h | ⟨h1, h2⟩ | ⟨h1, h2⟩)
    · exact .inr ⟨h0 h, .inl h⟩
    · exact .inl ⟨h1, .inr h2, hp _ h2⟩
    · exact .inr ⟨h1, .inr h2⟩
open Classical in
noncomputable def formB (s : ByteArray) : Bool := decide (formF s)
theorem form_yes {s : ByteArray} (h : formF s) : formB s = true := by unfold formB; simp [h]
theorem form_not {s : ByteArray} (h : ¬ formF s) : formB s = false := by unfold formB; simp [h]

theorem toList_nil {t : ByteArray} (h : t.size = 0) : t.toList = [] := by
  rw [ByteArray.toList_eq]; apply List.eq_nil_of_length_eq_zero; exact h
theorem toList_not {t : ByteArray} (h : 0 < t.size) : ¬ t.toList = [] := by
  rw [ByteArray.toList_eq]; intro e
  have h2 : t.data.toList.length = t.size := rfl
  rw [e] at h2; simp at h2; omega

set_option maxHeartbeats 400000 in
theorem ref_Form_neg (s : ByteArray) (w : World) (hs : s.size ≤ 9223372036854775807) (h0 : ¬ s.toList = [48]) (hn : Neg s) :
    Calls Tryd.prog 56 #[.string s] w fun r w' => r = .returned (.bool (formB s)) ∧ w = w' := by
  have hb := get_bt s
  have hi := form_iff s
  have ht : (s.toList == [48]) = false := by simpa using h0
  have hi2 : formF s ↔ Plain (s.extract 1 s.size) := by rw [hi]; constructor; (rintro (h | ⟨_, h⟩ | ⟨h, _⟩); exact absurd h h0; exact h; exact absurd hn h); exact fun h => .inr (.inl ⟨hn, h⟩)
  obtain ⟨n1, n2⟩ := hn
  have hn2' : (bt s 0 == 45) = true := by simp [n2]
  have hsz : (s.extract 1 s.size).size = s.size - 1 := by rw [ByteArray.size_extract]; omega
  clear hi h0
  have hbT := get_bt (s.extract 1 s.size)
  by_cases hz : (s.extract 1 s.size).size = 0
  · have hF := form_not (s := s) (by rw [hi2]; intro h; have := h.2.1; omega)
    have HF := Lib.hid hF
    have hn1 := toList_nil hz
    clear hF hi2 hz
    go_enter Tryd.func56, Tryd.ntmps56
    go_wp2
    all_goals
      go_ret
      refine ⟨?_, rfl⟩; rw [HF.out]; simp
  · have hp : 0 < (s.extract 1 s.size).size := by omega
    have hn1 := toList_not hp
    have hn2 : (s.extract 1 s.size).toList.isEmpty = false := by simpa using hn1
    have hp2 : 0 < s.size - 1 := by omega
    by_cases h48 : bt (s.extract 1 s.size) 0 = 48
    · have hF := form_not (s := s) (by rw [hi2]; intro h; exact h.2.2 h48)
      have HF := Lib.hid hF
      have h48' : (bt (s.extract 1 s.size) 0 == 48) = true := by simp [h48]
      clear hF hi2 hz h48
      go_enter Tryd.func56, Tryd.ntmps56
      go_wp2
      all_goals
        go_ret
        refine ⟨?_, rfl⟩; rw [HF.out]; simp
    · have h48' : (bt (s.extract 1 s.size) 0 == 48) = false := by simp [h48]
      have HI := Lib.hid hi2
      have H48 := Lib.hid h48
      clear hi2 hz h48
      go_enter Tryd.func56, Tryd.ntmps56
      go_wp2
      go_loop [3] (fun i => ∃ k : Nat, k ≤ (s.extract 1 s.size).size ∧ DigTo (s.extract 1 s.size) k ∧ i = .int .i64 k) (fun i => (s.extract 1 s.size).size - (intOf i).toNat)
      case atStart => exact ⟨0, Nat.zero_le _, DigTo.zero _, rfl⟩
      case round =>
        obtain ⟨k, hk, hD, rfl⟩ := hrel
        have hTs : (s.extract 1 s.size).size ≤ 9223372036854775807 := by omega
        clear hsz hp2 hb hn2' ht h48' hn1 hn2
        generalize s.extract 1 s.size = T at *
        by_cases hlt : k < T.size
        · by_cases d1 : bt T k < 48
          · have hF := form_not (s := s) (by rw [HI.out]; intro h; have := h.1 k hlt; omega)
            have HF := Lib.hid hF
            clear hD hF
            go_wp2
            go_ret
            refine ⟨?_, rfl⟩; rw [HF.out]; simp
          · by_cases d2 : 57 < bt T k
            · have hF := form_not (s := s) (by rw [HI.out]; intro h; have := h.1 k hlt; omega)
              have HF := Lib.hid hF
              clear hD hF
              go_wp2
              go_ret
              refine ⟨?_, rfl⟩; rw [HF.out]; simp
            · have HD := Lib.hid (hD.succ (by omega) (by omega))
              clear hD
              go_wp2
              go_round
              case rel => exact ⟨k + 1, by omega, HD.out, by go_num⟩
              case measure => simp [intOf]; omega
        · obtain rfl : k = T.size := by omega
          have hF := form_yes (s := s) (by rw [HI.out]; exact ⟨hD, hp, H48.out⟩)
          have HF := Lib.hid hF
          clear hD hF
          go_wp2
          go_ret
          refine ⟨?_, rfl⟩; rw [HF.out]; simp

set_option maxHeartbeats 400000 in
theorem ref_Form_pos (s : ByteArray) (w : World) (hs : s.size ≤ 9223372036854775807) (h0 : ¬ s.toList = [48]) (hn : ¬ Neg s) :
    Calls Tryd.prog 56 #[.string s] w fun r w' => r = .returned (.bool (formB s)) ∧ w = w' := by
  have hb := get_bt s
  have hi := form_iff s
  have ht : (s.toList == [48]) = false := by simpa using h0
  have hi2 : formF s ↔ Plain s := by rw [hi]; constructor; (rintro (h | ⟨h, _⟩ | ⟨_, h⟩); exact absurd h h0; exact absurd h hn; exact h); exact fun h => .inr (.inr ⟨hn, h⟩)
  have hns : 0 < s.size → (bt s 0 == 45) = false := fun h => by simp; intro h2; exact hn ⟨h, h2⟩
  clear hn
  clear hi h0
  have hbT := get_bt s
  by_cases hz : s.size = 0
  · have hF := form_not (s := s) (by rw [hi2]; intro h; have := h.2.1; omega)
    have HF := Lib.hid hF
    have hn1 := toList_nil hz
    have hzz : ¬ 0 < s.size := by omega
    clear hns hF hi2 hz
    go_enter Tryd.func56, Tryd.ntmps56
    go_wp2
    all_goals
      go_ret
      exact ⟨by rw [HF.out]; rfl, rfl⟩
  · have hp : 0 < s.size := by omega
    have hn1 := toList_not hp
    have hn2 : s.toList.isEmpty = false := by simpa using hn1
    have hn45 := hns hp
    clear hns
    by_cases h48 : bt s 0 = 48
    · have hF := form_not (s := s) (by rw [hi2]; intro h; exact h.2.2 h48)
      have HF := Lib.hid hF
      have h48' : (bt s 0 == 48) = true := by simp [h48]
      clear hF hi2 hz h48
      go_enter Tryd.func56, Tryd.ntmps56
      go_wp2
      all_goals
        go_ret
        exact ⟨by rw [HF.out]; rfl, rfl⟩
    · have h48' : (bt s 0 == 48) = false := by simp [h48]
      have HI := Lib.hid hi2
      have H48 := Lib.hid h48
      clear hi2 hz h48
      go_enter Tryd.func56, Tryd.ntmps56
      go_wp2
      go_loop [3] (fun i => ∃ k : Nat, k ≤ s.size ∧ DigTo s k ∧ i = .int .i64 k) (fun i => s.size - (intOf i).toNat)
      case atStart => exact ⟨0, Nat.zero_le _, DigTo.zero _, rfl⟩
      case round =>
        obtain ⟨k, hk, hD, rfl⟩ := hrel
        by_cases hlt : k < s.size
        · by_cases d1 : bt s k < 48
          · have hF := form_not (s := s) (by rw [HI.out]; intro h; have := h.1 k hlt; omega)
            have HF := Lib.hid hF
            clear hD hF
            go_wp2
            go_ret
            exact ⟨by rw [HF.out]; rfl, rfl⟩
          · by_cases d2 : 57 < bt s k
            · have hF := form_not (s := s) (by rw [HI.out]; intro h; have := h.1 k hlt; omega)
              have HF := Lib.hid hF
              clear hD hF
              go_wp2
              go_ret
              exact ⟨by rw [HF.out]; rfl, rfl⟩
            · have HD := Lib.hid (hD.succ (by omega) (by omega))
              clear hD
              go_wp2
              go_round
              case rel => exact ⟨k + 1, by omega, HD.out, by go_num⟩
              case measure => simp [intOf]; omega
        · obtain rfl : k = s.size := by omega
          have hF := form_yes (s := s) (by rw [HI.out]; exact ⟨hD, hp, H48.out⟩)
          have HF := Lib.hid hF
          clear hD hF
          go_wp2
          go_ret
          exact ⟨by rw [HF.out]; rfl, rfl⟩

theorem ref_Form (s : ByteArray) (w : World) (hs : s.size ≤ 9223372036854775807) :
    Calls Tryd.prog 56 #[.string s] w fun r w' => r = .returned (.bool (formB s)) ∧ w = w' := by
  by_cases h0 : s.toList = [48]
  · have hF := form_yes ((form_iff s).2 (.inl h0))
    have ht : (s.toList == [48]) = true := by rw [h0]; rfl
    have HF := Lib.hid hF
    clear hF h0
    go_enter Tryd.func56, Tryd.ntmps56
    go_wp2
    go_ret
    exact ⟨by rw [HF.out]; rfl, rfl⟩
  · by_cases hn : Neg s
    · exact ref_Form_neg s w hs h0 hn
    · exact ref_Form_pos s w hs h0 hn
end Go.Proofs.YtfppplalgdopjaaDoor
