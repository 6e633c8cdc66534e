/- The contracts of Parse of layer 1 (num) and of its helpers, over the translation. -/
import Derived.Test.YtipapemcedkinaaN1
import Derived.PlainAid
namespace Go.Proofs.Ytipapemcedkinaa
open Go.RowKit Go.PlainAid

/-- The first k bytes are digits. -/
def DigTo (s : ByteArray) (k : Nat) : Prop := ∀ i, i < k → 48 ≤ Go.PlainAid.bt s i ∧ Go.PlainAid.bt s i ≤ 57
theorem DigTo.zero (s : ByteArray) : DigTo s 0 := fun _ h => absurd h (by omega)
theorem DigTo.succ {s : ByteArray} {k : Nat} (h : DigTo s k) (h1 : 48 ≤ Go.PlainAid.bt s k) (h2 : Go.PlainAid.bt s k ≤ 57) : DigTo s (k + 1) := fun i hi => by
  by_cases e : i = k
  · subst e; exact ⟨h1, h2⟩
  · exact h i (by omega)
def Dec (s : ByteArray) : Prop := DigTo s s.size ∧ 0 < s.size ∧ (Go.PlainAid.bt s 0 = 48 → s.size = 1)
open Classical in
noncomputable def decF (s : ByteArray) : Bool := decide (Dec s)
theorem is_zero (s : ByteArray) : (s.toList = [48]) ↔ (s.size = 1 ∧ Go.PlainAid.bt s 0 = 48) := by
  rw [ByteArray.toList_eq]
  have bt0 : ∀ h : 0 < s.size, Go.PlainAid.bt s 0 = ((s[0]'h).toNat : Int) := fun h => by unfold Go.PlainAid.bt; rw [dif_pos h]
  obtain ⟨⟨l⟩⟩ := s
  rcases l with _ | ⟨a, _ | ⟨b, l⟩⟩
  · constructor
    · intro h; cases h
    · rintro ⟨h, _⟩; cases h
  · have h1 : (⟨⟨[a]⟩⟩ : ByteArray).size = 1 := rfl
    have h2 := bt0 (by rw [h1]; omega)
    have h3 : ((⟨⟨[a]⟩⟩ : ByteArray)[0]'(by rw [h1]; omega)) = a := rfl
    rw [h3] at h2
    rw [h2]
    constructor
    · intro h; injection h with h _; subst h; exact ⟨rfl, rfl⟩
    · rintro ⟨_, h⟩
      have : a = 48 := by apply UInt8.toNat_inj.1; show a.toNat = 48; omega
      rw [this]
  · constructor
    · intro h; injection h with _ h; cases h
    · rintro ⟨h, _⟩
      have : (⟨⟨a :: b :: l⟩⟩ : ByteArray).size = l.length + 2 := rfl
      omega

theorem num_decimal (s : ByteArray) (w : World) (hs : s.size ≤ 9223372036854775807) :
    Calls Try.prog 48 #[.string s] w fun r w' => r = .returned (.bool (decF s)) ∧ w = w' := by
  have hb := get_bt s
  go_enter Try.func48, Try.ntmps48
  go_wp2
  go_loop [6] (fun i => ∃ k : Nat, k ≤ s.size ∧ DigTo s k ∧ i = .int .i64 k) (fun i => s.size - (intOf i).toNat)
  case atStart => exact ⟨0, Nat.zero_le _, DigTo.zero s, rfl⟩
  case round =>
    obtain ⟨k, hk, hD, rfl⟩ := hrel
    by_cases hlt : k < s.size
    · by_cases h1 : Go.PlainAid.bt s k < 48
      · have hF : decF s = false := by unfold decF; simp; intro h; have := h.1 k hlt; omega
        have HF := Lib.hid hF
        clear hD hF
        go_wp2
        go_ret
        exact ⟨by rw [HF.out]; rfl, rfl⟩
      · by_cases h2 : 57 < Go.PlainAid.bt s k
        · have hF : decF s = false := by unfold decF; simp; intro h; have := h.1 k hlt; omega
          have HF := Lib.hid hF
          clear hD hF
          go_wp2
          go_ret
          exact ⟨by rw [HF.out]; rfl, rfl⟩
        · have HD := Lib.hid (hD.succ (by omega) (by omega))
          clear hD
          go_wp2
          go_round
          case rel => exact ⟨k + 1, by omega, HD.out, by go_num⟩
          case measure => simp [intOf]; omega
    · obtain rfl : k = s.size := by omega
      have hz := is_zero s
      by_cases h0 : s.size = 1 ∧ Go.PlainAid.bt s 0 = 48
      · have hF : decF s = true := by unfold decF; simp; exact ⟨hD, by omega, fun _ => h0.1⟩
        have HF := Lib.hid hF
        have ht : (s.toList == [48]) = true := by rw [hz.2 h0]; rfl
        have HH := Lib.hid h0
        clear hD hF hz h0
        go_wp2
        all_goals
          go_ret
          exact ⟨by rw [HF.out]; rfl, rfl⟩
      · have ht : (s.toList == [48]) = false := by
          apply Bool.eq_false_iff.2; intro h; exact h0 (hz.1 (by simpa using h))
        by_cases h1 : s.size = 0
        · have hF : decF s = false := by unfold decF; simp; intro h; have := h.2.1; omega
          have HF := Lib.hid hF
          have h1' : ¬ 0 < (s.size : Int) := by omega
          clear hD hF hz h0 h1
          go_wp2
          all_goals
            go_ret
            exact ⟨by rw [HF.out]; rfl, rfl⟩
        · have hF : decF s = (Go.PlainAid.bt s 0 != 48) := by
            unfold decF
            by_cases h2 : Go.PlainAid.bt s 0 = 48
            · have : ¬ Dec s := fun h => h0 ⟨h.2.2 h2, h2⟩
              simp [this, h2]
            · have : Dec s := ⟨hD, by omega, fun h => absurd h h2⟩
              simp [this, h2]
          have HF := Lib.hid hF
          clear hD hF hz h0
          go_wp2
          all_goals
            go_ret
            exact ⟨by rw [HF.out]; simp, rfl⟩

def valB (s : ByteArray) : Nat → Int
  | 0 => 0
  | k + 1 => valB s k * 10 + (Go.PlainAid.bt s k - 48)
theorem valB_nonneg {s : ByteArray} {k : Nat} (h : DigTo s k) : 0 ≤ valB s k := by
  induction k with
  | zero => exact Int.le_refl _
  | succ k ih => have := ih (fun i hi => h i (by omega)); have := h k (by omega); show 0 ≤ valB s k * 10 + (Go.PlainAid.bt s k - 48); omega
theorem valB_mono {s : ByteArray} {j k : Nat} (h : DigTo s k) (hj : j ≤ k) : valB s j ≤ valB s k := by
  induction k with
  | zero => have : j = 0 := by omega
            rw [this]; exact Int.le_refl _
  | succ k ih =>
    by_cases e : j = k + 1
    · rw [e]; exact Int.le_refl _
    · have h' : DigTo s k := fun i hi => h i (by omega)
      have := ih h' (by omega)
      have := h k (by omega)
      have := valB_nonneg h'
      show valB s j ≤ valB s k * 10 + (Go.PlainAid.bt s k - 48)
      omega
def greatF (y : Bool) : Int := if y = true then 9223372036854775808 else 9223372036854775807
def valF (s : ByteArray) (y : Bool) : Int × Bool := if valB s s.size ≤ greatF y then (if y = true then - valB s s.size else valB s s.size, true) else (0, false)

theorem num_value (s : ByteArray) (y : Bool) (w : World) (hs : s.size ≤ 9223372036854775807) (hD : DigTo s s.size) :
    Calls Try.prog 49 #[.string s, .bool y] w fun r w' => r = .returned (.tuple #[.int .i64 (valF s y).1, .bool (valF s y).2]) ∧ w = w' := by
  have hb := get_bt s
  have hg1 : absF 9223372036854775807 = 9223372036854775807 := by decide
  have hg2 : absF (-9223372036854775808) = 9223372036854775808 := by decide
  have HD := Lib.hid hD
  clear hD
  cases y
  · go_enter Try.func49, Try.ntmps49
    go_wp2_with (first
        | (go_at_call 45; refine (num_size _ _ (by omega) (by omega)).mono ?_; rintro e w' ⟨rfl, rfl⟩; first | rw [hg1] | rw [hg2]))
    go_loop [7, 15] (fun a i => ∃ k : Nat, k ≤ s.size ∧ valB s k ≤ 9223372036854775807 ∧ a = .int .u64 (valB s k) ∧ i = .int .i64 k) (fun _ i => s.size - (intOf i).toNat)
    case atStart => exact ⟨0, Nat.zero_le _, by show (0:Int) ≤ _; omega, rfl, rfl⟩
    case round =>
      obtain ⟨k, hk, hv, rfl, rfl⟩ := hrel
      have hv0 := valB_nonneg (s := s) (k := k) (fun i hi => HD.out i (by omega))
      by_cases hlt : k < s.size
      · obtain ⟨d1, d2⟩ := HD.out k hlt
        have hstep : valB s (k + 1) = valB s k * 10 + (Go.PlainAid.bt s k - 48) := rfl
        by_cases ho : (9223372036854775807 - (Go.PlainAid.bt s k - 48)) / 10 < valB s k
        · have hF : valF s false = (0, false) := by
            have h1 := valB_mono (j := k + 1) HD.out (by omega)
            unfold valF greatF
            rw [if_neg]
            simp only [Bool.false_eq_true, if_false]
            omega
          have HF := Lib.hid hF
          clear hF hstep
          go_wp2
          go_ret2
          exact ⟨by rw [HF.out]; rfl, rfl⟩
        · have HS := Lib.hid hstep
          clear hstep
          go_wp2
          go_round
          case rel => exact ⟨k + 1, by omega, by rw [HS.out]; omega, by rw [HS.out], by go_num⟩
          case measure => simp [intOf]; omega
      · obtain rfl : k = s.size := by omega
        have hF : valF s false = (valB s s.size, true) := by unfold valF greatF; simp only [Bool.false_eq_true, if_false]; rw [if_pos hv]
        have HF := Lib.hid hF
        clear hF
        go_wp2
        go_ret2
        exact ⟨by rw [HF.out]; rfl, rfl⟩
  · go_enter Try.func49, Try.ntmps49
    go_wp2_with (first
        | (go_at_call 45; refine (num_size _ _ (by omega) (by omega)).mono ?_; rintro e w' ⟨rfl, rfl⟩; first | rw [hg1] | rw [hg2]))
    go_loop [7, 15] (fun a i => ∃ k : Nat, k ≤ s.size ∧ valB s k ≤ 9223372036854775808 ∧ a = .int .u64 (valB s k) ∧ i = .int .i64 k) (fun _ i => s.size - (intOf i).toNat)
    case atStart => exact ⟨0, Nat.zero_le _, by show (0:Int) ≤ _; omega, rfl, rfl⟩
    case round =>
      obtain ⟨k, hk, hv, rfl, rfl⟩ := hrel
      have hv0 := valB_nonneg (s := s) (k := k) (fun i hi => HD.out i (by omega))
      by_cases hlt : k < s.size
      · obtain ⟨d1, d2⟩ := HD.out k hlt
        have hstep : valB s (k + 1) = valB s k * 10 + (Go.PlainAid.bt s k - 48) := rfl
        by_cases ho : (9223372036854775808 - (Go.PlainAid.bt s k - 48)) / 10 < valB s k
        · have hF : valF s true = (0, false) := by
            have h1 := valB_mono (j := k + 1) HD.out (by omega)
            unfold valF greatF
            rw [if_neg]
            simp only [if_true]
            omega
          have HF := Lib.hid hF
          clear hF hstep
          go_wp2
          go_ret2
          exact ⟨by rw [HF.out]; rfl, rfl⟩
        · have HS := Lib.hid hstep
          clear hstep
          go_wp2
          go_round
          case rel => exact ⟨k + 1, by omega, by rw [HS.out]; omega, by rw [HS.out], by go_num⟩
          case measure => simp [intOf]; omega
      · obtain rfl : k = s.size := by omega
        have hF : valF s true = (-valB s s.size, true) := by unfold valF greatF; simp only [if_true]; rw [if_pos hv]
        have HF := Lib.hid hF
        have hw : wrap64 (IntKind.u64.wrap (-valB s s.size)) = -valB s s.size := by rw [← i64_is, IntKind.wrap_u64, IntKind.wrap_i64]; omega
        clear hF
        go_wp2
        go_ret2
        exact ⟨by rw [HF.out]; rfl, rfl⟩
end Go.Proofs.Ytipapemcedkinaa
