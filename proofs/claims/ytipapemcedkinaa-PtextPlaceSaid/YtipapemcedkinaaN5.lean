/- The contract of Parse of layer 1 (num), over the translation. -/
import Derived.Test.YtipapemcedkinaaN4
import Derived.Lib.IndexBytes
namespace Go.Proofs.Ytipapemcedkinaa
open Go.RowKit Go.PlainAid

def Neg (s : ByteArray) : Prop := 0 < s.size ∧ Go.PlainAid.bt s 0 = 45
def formF (s : ByteArray) : Prop := (Neg s ∧ Dec (s.extract 1 s.size) ∧ ¬ (s.extract 1 s.size).toList = [48]) ∨ (¬ Neg s ∧ Dec s)
open Classical in
noncomputable def valS (s : ByteArray) : Int := if Neg s then - valB (s.extract 1 s.size) (s.extract 1 s.size).size else valB s s.size
open Classical in
noncomputable def parseF (s : ByteArray) (l m : Int) : Int × Int := if ¬ formF s then (0, 3) else if l ≤ valS s ∧ valS s ≤ m then (valS s, 0) else (0, 2)
theorem parse_no {s : ByteArray} {l m : Int} (h : ¬ formF s) : parseF s l m = (0, 3) := by unfold parseF; rw [if_pos h]
theorem parse_in {s : ByteArray} {l m : Int} (h : formF s) (h2 : l ≤ valS s ∧ valS s ≤ m) : parseF s l m = (valS s, 0) := by unfold parseF; rw [if_neg (by simpa using h), if_pos h2]
theorem parse_out {s : ByteArray} {l m : Int} (h : formF s) (h2 : ¬ (l ≤ valS s ∧ valS s ≤ m)) : parseF s l m = (0, 2) := by unfold parseF; rw [if_neg (by simpa using h), if_neg h2]
theorem dec_true {s : ByteArray} (h : Dec s) : decF s = true := by unfold decF; simp [h]
theorem dec_false {s : ByteArray} (h : ¬ Dec s) : decF s = false := by unfold decF; simp [h]
theorem ret_p {p : Int × Int} {a b : Int} (h : p = (a, b)) : Ending.returned (.tuple #[.int .i64 a, .int .i64 b]) = .returned (.tuple #[.int .i64 p.1, .int .i64 p.2]) := by rw [h]
theorem val_cases (s : ByteArray) (y : Bool) (hD : DigTo s s.size) (l m : Int) (l1 : -9223372036854775808 ≤ l) (m2 : m ≤ 9223372036854775807) :
    (∃ v, valF s y = (v, true) ∧ v = (if y = true then - valB s s.size else valB s s.size) ∧ -9223372036854775808 ≤ v ∧ v ≤ 9223372036854775807) ∨
    (valF s y = (0, false) ∧ ¬ (l ≤ (if y = true then - valB s s.size else valB s s.size) ∧ (if y = true then - valB s s.size else valB s s.size) ≤ m)) := by
  have h0 := valB_nonneg hD
  unfold valF greatF
  cases y
  · simp only [Bool.false_eq_true, if_false]
    by_cases h : valB s s.size ≤ 9223372036854775807
    · rw [if_pos h]; exact .inl ⟨_, rfl, rfl, by omega, by omega⟩
    · rw [if_neg h]; exact .inr ⟨rfl, by omega⟩
  · simp only [if_true]
    by_cases h : valB s s.size ≤ 9223372036854775808
    · rw [if_pos h]; exact .inl ⟨_, rfl, rfl, by omega, by omega⟩
    · rw [if_neg h]; exact .inr ⟨rfl, by omega⟩

theorem num_Parse (s : ByteArray) (l m : Int) (w : World) (hs : s.size ≤ 9223372036854775807) (l1 : -9223372036854775808 ≤ l) (_l2 : l ≤ 9223372036854775807) (_m1 : -9223372036854775808 ≤ m) (m2 : m ≤ 9223372036854775807) :
    Calls Try.prog 39 #[.string s, .int .i64 l, .int .i64 m] w fun r w' => r = .returned (.tuple #[.int .i64 (parseF s l m).1, .int .i64 (parseF s l m).2]) ∧ w = w' := by
  have hb := get_bt s
  have hse : (s.extract 1 s.size).size ≤ 9223372036854775807 := by rw [ByteArray.size_extract]; omega
  by_cases hn : Neg s
  · have hv : valS s = - valB (s.extract 1 s.size) (s.extract 1 s.size).size := by unfold valS; rw [if_pos hn]
    obtain ⟨n1, n2⟩ := hn
    have hn2 : ((Go.PlainAid.bt s 0 == 45) : Bool) = true := by simp [n2]
    by_cases hd : Dec (s.extract 1 s.size)
    · have hdt := dec_true hd
      have hdig := hd.1
      by_cases hz : (s.extract 1 s.size).toList = [48]
      · have hF := parse_no (s := s) (l := l) (m := m) (by unfold formF; rintro (⟨_, _, h⟩ | ⟨h, _⟩); exact h hz; exact h ⟨n1, n2⟩)
        have hz' : ((s.extract 1 s.size).toList == [48]) = true := by rw [hz]; rfl
        have HF := Lib.hid hF
        clear hF hz hv hd
        go_enter Try.func39, Try.ntmps39
        go_wp2_with (first
          | (go_at_call 48; refine (num_decimal _ _ (by assumption)).mono ?_; rintro e w' ⟨rfl, rfl⟩)
          | (go_at_call 49; refine (num_value _ _ _ (by assumption) (by assumption)).mono ?_; rintro e w' ⟨rfl, rfl⟩))
        go_ret2
        exact ⟨by rw [HF.out]; rfl, rfl⟩
      · have hz' : ((s.extract 1 s.size).toList == [48]) = false := by simpa using hz
        have hform : formF s := .inl ⟨⟨n1, n2⟩, hd, hz⟩
        rcases val_cases (s.extract 1 s.size) true hdig l m l1 m2 with ⟨v, hv1, hv2, hv3, hv4⟩ | ⟨hv1, hv2⟩
        · have hvv : valS s = v := by rw [hv, hv2]; rfl
          by_cases hr : l ≤ v ∧ v ≤ m
          · have hF := parse_in hform (l := l) (m := m) (by rw [hvv]; exact hr)
            rw [hvv] at hF
            obtain ⟨hr1, hr2⟩ := hr
            have HF := Lib.hid hF
            clear hF hz hv hd hvv hv2 hform
            go_enter Try.func39, Try.ntmps39
            go_wp2_with (first
          | (go_at_call 48; refine (num_decimal _ _ (by assumption)).mono ?_; rintro e w' ⟨rfl, rfl⟩)
          | (go_at_call 49; refine (num_value _ _ _ (by assumption) (by assumption)).mono ?_; rintro e w' ⟨rfl, rfl⟩))
            go_ret2
            exact ⟨by rw [HF.out]; rfl, rfl⟩
          · have hF := parse_out hform (l := l) (m := m) (by rw [hvv]; exact hr)
            by_cases hr1 : v < l
            · have HF := Lib.hid hF
              clear hF hz hv hd hvv hv2 hform hr
              go_enter Try.func39, Try.ntmps39
              go_wp2_with (first
          | (go_at_call 48; refine (num_decimal _ _ (by assumption)).mono ?_; rintro e w' ⟨rfl, rfl⟩)
          | (go_at_call 49; refine (num_value _ _ _ (by assumption) (by assumption)).mono ?_; rintro e w' ⟨rfl, rfl⟩))
              go_ret2
              exact ⟨by rw [HF.out]; rfl, rfl⟩
            · have hr2 : m < v := by omega
              have HF := Lib.hid hF
              clear hF hz hv hd hvv hv2 hform hr
              go_enter Try.func39, Try.ntmps39
              go_wp2_with (first
          | (go_at_call 48; refine (num_decimal _ _ (by assumption)).mono ?_; rintro e w' ⟨rfl, rfl⟩)
          | (go_at_call 49; refine (num_value _ _ _ (by assumption) (by assumption)).mono ?_; rintro e w' ⟨rfl, rfl⟩))
              go_ret2
              exact ⟨by rw [HF.out]; rfl, rfl⟩
        · have hF := parse_out hform (l := l) (m := m) (by rw [hv]; exact hv2)
          have HF := Lib.hid hF
          clear hF hz hv hd hv2 hform
          go_enter Try.func39, Try.ntmps39
          go_wp2_with (first
          | (go_at_call 48; refine (num_decimal _ _ (by assumption)).mono ?_; rintro e w' ⟨rfl, rfl⟩)
          | (go_at_call 49; refine (num_value _ _ _ (by assumption) (by assumption)).mono ?_; rintro e w' ⟨rfl, rfl⟩))
          go_ret2
          exact ⟨by rw [HF.out]; rfl, rfl⟩
    · have hdt := dec_false hd
      have hF := parse_no (s := s) (l := l) (m := m) (by unfold formF; rintro (⟨_, h, _⟩ | ⟨h, _⟩); exact hd h; exact h ⟨n1, n2⟩)
      have HF := Lib.hid hF
      clear hF hv hd
      go_enter Try.func39, Try.ntmps39
      go_wp2_with (first
          | (go_at_call 48; refine (num_decimal _ _ (by assumption)).mono ?_; rintro e w' ⟨rfl, rfl⟩)
          | (go_at_call 49; refine (num_value _ _ _ (by assumption) (by assumption)).mono ?_; rintro e w' ⟨rfl, rfl⟩))
      go_ret2
      exact ⟨by rw [HF.out]; rfl, rfl⟩
  · have hv : valS s = valB s s.size := by unfold valS; rw [if_neg hn]
    have hns : (0 < s.size ∧ (Go.PlainAid.bt s 0 == 45) = false) ∨ ¬ 0 < s.size := by
      by_cases h : 0 < s.size
      · refine .inl ⟨h, ?_⟩; simp; intro h2; exact hn ⟨h, h2⟩
      · exact .inr h
    by_cases hd : Dec s
    · have hdt := dec_true hd
      have hdig := hd.1
      have hform : formF s := .inr ⟨hn, hd⟩
      have hsz : 0 < s.size := hd.2.1
      have hn2 : (Go.PlainAid.bt s 0 == 45) = false := by rcases hns with ⟨_, h⟩ | h; exact h; exact absurd hsz h
      rcases val_cases s false hdig l m l1 m2 with ⟨v, hv1, hv2, hv3, hv4⟩ | ⟨hv1, hv2⟩
      · have hvv : valS s = v := by rw [hv, hv2]; rfl
        by_cases hr : l ≤ v ∧ v ≤ m
        · have hF := parse_in hform (l := l) (m := m) (by rw [hvv]; exact hr)
          rw [hvv] at hF
          obtain ⟨hr1, hr2⟩ := hr
          have HF := Lib.hid hF
          clear hF hn hns hv hd hvv hv2 hform
          go_enter Try.func39, Try.ntmps39
          go_wp2_with (first
          | (go_at_call 48; refine (num_decimal _ _ (by assumption)).mono ?_; rintro e w' ⟨rfl, rfl⟩)
          | (go_at_call 49; refine (num_value _ _ _ (by assumption) (by assumption)).mono ?_; rintro e w' ⟨rfl, rfl⟩))
          go_ret2
          exact ⟨by rw [HF.out]; rfl, rfl⟩
        · have hF := parse_out hform (l := l) (m := m) (by rw [hvv]; exact hr)
          by_cases hr1 : v < l
          · have HF := Lib.hid hF
            clear hF hn hns hv hd hvv hv2 hform hr
            go_enter Try.func39, Try.ntmps39
            go_wp2_with (first
          | (go_at_call 48; refine (num_decimal _ _ (by assumption)).mono ?_; rintro e w' ⟨rfl, rfl⟩)
          | (go_at_call 49; refine (num_value _ _ _ (by assumption) (by assumption)).mono ?_; rintro e w' ⟨rfl, rfl⟩))
            go_ret2
            exact ⟨by rw [HF.out]; rfl, rfl⟩
          · have hr2 : m < v := by omega
            have HF := Lib.hid hF
            clear hF hn hns hv hd hvv hv2 hform hr
            go_enter Try.func39, Try.ntmps39
            go_wp2_with (first
          | (go_at_call 48; refine (num_decimal _ _ (by assumption)).mono ?_; rintro e w' ⟨rfl, rfl⟩)
          | (go_at_call 49; refine (num_value _ _ _ (by assumption) (by assumption)).mono ?_; rintro e w' ⟨rfl, rfl⟩))
            go_ret2
            exact ⟨by rw [HF.out]; rfl, rfl⟩
      · have hF := parse_out hform (l := l) (m := m) (by rw [hv]; exact hv2)
        have HF := Lib.hid hF
        clear hF hn hns hv hd hv2 hform
        go_enter Try.func39, Try.ntmps39
        go_wp2_with (first
          | (go_at_call 48; refine (num_decimal _ _ (by assumption)).mono ?_; rintro e w' ⟨rfl, rfl⟩)
          | (go_at_call 49; refine (num_value _ _ _ (by assumption) (by assumption)).mono ?_; rintro e w' ⟨rfl, rfl⟩))
        go_ret2
        exact ⟨by rw [HF.out]; rfl, rfl⟩
    · have hdt := dec_false hd
      have hF := parse_no (s := s) (l := l) (m := m) (by unfold formF; rintro (⟨h, _, _⟩ | ⟨_, h⟩); exact hn h; exact hd h)
      rcases hns with ⟨hsz, hn2⟩ | hsz
      · have HF := Lib.hid hF
        clear hF hn hv hd
        go_enter Try.func39, Try.ntmps39
        go_wp2_with (first
          | (go_at_call 48; refine (num_decimal _ _ (by assumption)).mono ?_; rintro e w' ⟨rfl, rfl⟩)
          | (go_at_call 49; refine (num_value _ _ _ (by assumption) (by assumption)).mono ?_; rintro e w' ⟨rfl, rfl⟩))
        go_ret2
        exact ⟨by rw [HF.out]; rfl, rfl⟩
      · have HF := Lib.hid hF
        clear hF hn hv hd
        go_enter Try.func39, Try.ntmps39
        go_wp2_with (first
          | (go_at_call 48; refine (num_decimal _ _ (by assumption)).mono ?_; rintro e w' ⟨rfl, rfl⟩)
          | (go_at_call 49; refine (num_value _ _ _ (by assumption) (by assumption)).mono ?_; rintro e w' ⟨rfl, rfl⟩))
        go_ret2
        exact ⟨by rw [HF.out]; rfl, rfl⟩
end Go.Proofs.Ytipapemcedkinaa
