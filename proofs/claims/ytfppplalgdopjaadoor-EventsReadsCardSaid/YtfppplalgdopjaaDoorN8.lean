/- The contracts of the specification's below and Less, over the translation. -/
import Derived.Test.YtfppplalgdopjaaDoorN7
import Derived.Deep.QuietTactic
import Derived.BigQuiet
namespace Go.Proofs.YtfppplalgdopjaaDoor
open Go.RowKit Go.PlainAid

def p10 : Nat → Int
  | 0 => 1
  | k + 1 => p10 k * 10
theorem p10_pos (k : Nat) : 1 ≤ p10 k := by
  induction k with
  | zero => exact Int.le_refl _
  | succ k ih => show 1 ≤ p10 k * 10; omega
theorem p10_le {j k : Nat} (h : j ≤ k) : p10 j ≤ p10 k := by
  induction h with
  | refl => omega
  | step _ ih => have := p10_pos j; show p10 j ≤ p10 _ * 10; omega
theorem valB_lt {t : ByteArray} {k : Nat} (h : DigTo t k) : valB t k < p10 k := by
  induction k with
  | zero => show (0 : Int) < 1; omega
  | succ k ih =>
    have := ih (fun i hi => h i (by omega))
    have := h k (by omega)
    show valB t k * 10 + (bt t k - 48) < p10 k * 10
    omega
theorem valB_ge {t : ByteArray} {k : Nat} (h : DigTo t (k + 1)) (h0 : bt t 0 ≠ 48) : p10 k ≤ valB t (k + 1) := by
  induction k with
  | zero => have := h 0 (by omega); show (1 : Int) ≤ 0 * 10 + (bt t 0 - 48); omega
  | succ k ih =>
    have := ih (fun i hi => h i (by omega))
    have := h (k + 1) (by omega)
    show p10 k * 10 ≤ valB t (k + 1) * 10 + (bt t (k + 1) - 48)
    omega
theorem size_lt {a b : ByteArray} (ha : Dec a) (hb : Dec b) (h : a.size < b.size) : valB a a.size < valB b b.size := by
  have h1 := valB_lt ha.1
  obtain ⟨k, hk⟩ : ∃ k, b.size = k + 1 := ⟨b.size - 1, by omega⟩
  have h2 := valB_ge (k := k) (by rw [← hk]; exact hb.1) (fun e => by have := hb.2.2 e; have := ha.2.1; omega)
  rw [hk]
  have := p10_le (j := a.size) (k := k) (by omega)
  omega
theorem step_lt {a b : ByteArray} {j k : Nat} (ha : DigTo a k) (hb : DigTo b k) (hj : j ≤ k) (h : valB a j < valB b j) : valB a k < valB b k := by
  induction k with
  | zero => have : j = 0 := by omega
            subst this; exact h
  | succ k ih =>
    by_cases e : j = k + 1
    · subst e; exact h
    · have := ih (fun i hi => ha i (by omega)) (fun i hi => hb i (by omega)) (by omega)
      have := ha k (by omega)
      have := hb k (by omega)
      show valB a k * 10 + (bt a k - 48) < valB b k * 10 + (bt b k - 48)
      omega

theorem ref_below (a b : ByteArray) (w : World) (ha : Dec a) (hb : Dec b) (sa : a.size ≤ 9223372036854775807) (_sb : b.size ≤ 9223372036854775807) :
    Calls Tryd.prog 61 #[.string a, .string b] w fun r w' => r = .returned (.bool (decide (valB a a.size < valB b b.size))) ∧ ∃ n, w' = w.drewN n := by
  have ga := get_bt a
  have gb := get_bt b
  by_cases h : a.size = b.size
  · have HA := Lib.hid ha
    have HB := Lib.hid hb
    have hne : ((a.size : Int) != (b.size : Int)) = false := by simp [h]
    have hsz : b.size ≤ a.size := by omega
    have hsz2 : a.size ≤ b.size := by omega
    clear ha hb h
    go_enter Tryd.func61, Tryd.ntmps61
    go_wp2
    go_loopw [5] (fun i wr => ∃ (k : Nat) (n : Nat), k ≤ a.size ∧ valB a k = valB b k ∧ i = .int .i64 k ∧ wr = w.drewN n) (fun i _ => a.size - (intOf i).toNat)
    case atStart => exact ⟨0, 0, Nat.zero_le _, rfl, rfl, rfl⟩
    case round =>
      obtain ⟨k, n, hk, hv, rfl, rfl⟩ := hrel
      have e1 : valB a (k + 1) = valB a k * 10 + (bt a k - 48) := rfl
      have e2 : valB b (k + 1) = valB b k * 10 + (bt b k - 48) := rfl
      by_cases hlt : k < a.size
      · have hltb : k < b.size := by omega
        by_cases hd : bt a k = bt b k
        · have HV : Hid (valB a (k + 1) = valB b (k + 1)) := by show _ = _; rw [e1, e2, hv, hd]
          have hd' : (bt a k != bt b k) = false := by simp [hd]
          clear e1 e2 hv hd
          go_wp2
          go_quiet (fail)
          go_wp2
          go_roundw
          case rel => exact ⟨k + 1, _, by omega, HV.out, by go_num, rfl⟩
          case measure => simp [intOf]; omega
        · have hF : decide (valB a a.size < valB b b.size) = decide (bt a k < bt b k) := by
            by_cases c : bt a k < bt b k
            · have := step_lt (j := k + 1) (k := a.size) HA.out.1 (fun i hi => HB.out.1 i (by omega)) (by omega) (by rw [e1, e2]; omega)
              rw [show b.size = a.size by omega]; simp [c, this]
            · have := step_lt (j := k + 1) (k := a.size) (fun i hi => HB.out.1 i (by omega)) HA.out.1 (by omega) (by rw [e1, e2]; omega)
              rw [show b.size = a.size by omega]; simp [c]; omega
          have HF := Lib.hid hF
          have hd' : (bt a k != bt b k) = true := by simp [hd]
          clear e1 e2 hv hd hF
          go_wp2
          go_quiet (fail)
          go_wp2
          go_quiet (fail)
          go_wp2
          go_ret
          exact ⟨by rw [HF.out]; rfl, _, by simp only [World.drewN_drewN]; rfl⟩
      · obtain rfl : k = a.size := by omega
        have hF : decide (valB a a.size < valB b b.size) = false := by rw [show b.size = a.size by omega]; simp; omega
        have HF := Lib.hid hF
        clear e1 e2 hv hF
        go_wp2
        go_ret
        exact ⟨by rw [HF.out]; rfl, _, rfl⟩
  · have hF : decide (valB a a.size < valB b b.size) = decide (a.size < b.size) := by
      by_cases c : a.size < b.size
      · have := size_lt ha hb c; simp [this, c]
      · have := size_lt hb ha (by omega); simp [c]; omega
    have HF := Lib.hid hF
    have hne : ((a.size : Int) != (b.size : Int)) = true := by simp; omega
    clear hF ha hb h
    go_enter Tryd.func61, Tryd.ntmps61
    go_wp2
    go_ret
    exact ⟨by rw [HF.out]; rfl, 0, rfl⟩

theorem ref_Less (a b : ByteArray) (w : World) (ha : formF a) (hb : formF b) (sa : a.size ≤ 9223372036854775807) (sb : b.size ≤ 9223372036854775807) :
    Calls Tryd.prog 57 #[.string a, .string b] w fun r w' => r = .returned (.bool (decide (valS a < valS b))) ∧ ∃ n, w' = w.drewN n := by
  have ga := get_bt a
  have gb := get_bt b
  have sea : (a.extract 1 a.size).size ≤ 9223372036854775807 := by rw [ByteArray.size_extract]; omega
  have seb : (b.extract 1 b.size).size ≤ 9223372036854775807 := by rw [ByteArray.size_extract]; omega
  have zne : ∀ t : ByteArray, Dec t → ¬ t.toList = [48] → 0 < valB t t.size := fun t h1 h2 => by
    obtain ⟨k, hk⟩ : ∃ k, t.size = k + 1 := ⟨t.size - 1, by have := h1.2.1; omega⟩
    have := valB_ge (k := k) (by rw [← hk]; exact h1.1) (fun e => h2 ((is_zero t).2 ⟨h1.2.2 e, e⟩))
    rw [hk]; have := p10_pos k; omega
  rcases ha with ⟨na, da, za⟩ | ⟨na, da⟩ <;> rcases hb with ⟨nb, db, zb⟩ | ⟨nb, db⟩
  · have hva : valS a = - valB (a.extract 1 a.size) (a.extract 1 a.size).size := by unfold valS; rw [if_pos na]
    have hvb : valS b = - valB (b.extract 1 b.size) (b.extract 1 b.size).size := by unfold valS; rw [if_pos nb]
    have hF : decide (valS a < valS b) = decide (valB (b.extract 1 b.size) (b.extract 1 b.size).size < valB (a.extract 1 a.size) (a.extract 1 a.size).size) := by rw [hva, hvb]; simp
    have HF := Lib.hid hF
    obtain ⟨na1, na2⟩ := na
    obtain ⟨nb1, nb2⟩ := nb
    have na3 : (bt a 0 == 45) = true := by simp [na2]
    have nb3 : (bt b 0 == 45) = true := by simp [nb2]
    clear hF hva hvb zne na2 nb2
    go_enter Tryd.func57, Tryd.ntmps57
    go_wp2
    go_quiet ((go_at_call 61; exact Calls.quiet_of (ref_below _ _ _ (by assumption) (by assumption) (by assumption) (by assumption))))
    go_wp2
    go_ret
    exact ⟨by rw [HF.out]; rfl, _, rfl⟩
  · have hva : valS a = - valB (a.extract 1 a.size) (a.extract 1 a.size).size := by unfold valS; rw [if_pos na]
    have hvb : valS b = valB b b.size := by unfold valS; rw [if_neg nb]
    have hF : decide (valS a < valS b) = true := by have := zne _ da za; have := valB_nonneg db.1; rw [hva, hvb]; exact decide_eq_true (by omega)
    have HF := Lib.hid hF
    obtain ⟨na1, na2⟩ := na
    have nb1 := db.2.1
    have na3 : (bt a 0 == 45) = true := by simp [na2]
    have nb3 : (bt b 0 == 45) = false := by simp; intro h; exact nb ⟨nb1, h⟩
    clear hF hva hvb zne na2 nb da db za
    go_enter Tryd.func57, Tryd.ntmps57
    go_wp2
    go_ret
    exact ⟨by rw [HF.out]; rfl, 0, rfl⟩
  · have hva : valS a = valB a a.size := by unfold valS; rw [if_neg na]
    have hvb : valS b = - valB (b.extract 1 b.size) (b.extract 1 b.size).size := by unfold valS; rw [if_pos nb]
    have hF : decide (valS a < valS b) = false := by have := zne _ db zb; have := valB_nonneg da.1; rw [hva, hvb]; exact decide_eq_false (by omega)
    have HF := Lib.hid hF
    obtain ⟨nb1, nb2⟩ := nb
    have na1 := da.2.1
    have nb3 : (bt b 0 == 45) = true := by simp [nb2]
    have na3 : (bt a 0 == 45) = false := by simp; intro h; exact na ⟨na1, h⟩
    clear hF hva hvb zne nb2 na da db zb
    go_enter Tryd.func57, Tryd.ntmps57
    go_wp2
    go_ret
    exact ⟨by rw [HF.out]; rfl, 0, rfl⟩
  · have hva : valS a = valB a a.size := by unfold valS; rw [if_neg na]
    have hvb : valS b = valB b b.size := by unfold valS; rw [if_neg nb]
    have hF : decide (valS a < valS b) = decide (valB a a.size < valB b b.size) := by rw [hva, hvb]
    have HF := Lib.hid hF
    have na1 := da.2.1
    have nb1 := db.2.1
    have na3 : (bt a 0 == 45) = false := by simp; intro h; exact na ⟨na1, h⟩
    have nb3 : (bt b 0 == 45) = false := by simp; intro h; exact nb ⟨nb1, h⟩
    clear hF hva hvb zne na nb
    go_enter Tryd.func57, Tryd.ntmps57
    go_wp2_with (first
      | (go_at_call 61; refine (ref_below _ _ _ (by assumption) (by assumption) (by assumption) (by assumption)).mono ?_; rintro e w' ⟨rfl, n, rfl⟩))
    go_ret
    exact ⟨by rw [HF.out]; rfl, _, rfl⟩
end Go.Proofs.YtfppplalgdopjaaDoor
