/- Contracts of Mul of layer 1 (num) and of its specification, over the translation. -/
import Derived.Test.YtfikodeghjlhcaaFns
import Derived.Shelf.Bits.Mul64
import Derived.Shelf.Lay
import Derived.Ground.NamesProg
import Derived.Lib.Agree
import Derived.KernelRfl
import GoSem.Claim
namespace Go.Proofs.Ytfikodeghjlhcaa
open Go.RowKit
open Go.Shelf

def Try.laysMul64_ren : Go.Shelf.Ren := ⟨fun | 264 => 23 | n => n, fun | 53 => 37 | 46 => 47 | n => n, fun | n => n⟩
theorem Try.laysMul64 : Go.Proofs.Lays.n264 Try.prog Try.laysMul64_ren := {
  mixed := by kernel_rfl
  f264 := Try.func23.trans (congrArg some (by kernel_rfl))
  t46 := Try.underlying47
  a46 := Try.isAgg47
  z46 := Try.sizeOf47
  v46 := Try.zeroValue47
  t53 := Try.underlying37
  a53 := Try.isAgg37
  z53 := Try.sizeOf37
  v53 := Try.zeroValue37 }

def hi64 (x y : Int) : Int := x * y / 18446744073709551616
def lo64 (x y : Int) : Int := x * y % 18446744073709551616
theorem bits_Mul64 (x y : Int) (w : World) (x1 : 0 ≤ x) (x2 : x ≤ 9223372036854775808) (y1 : 0 ≤ y) (y2 : y ≤ 9223372036854775808) :
    Calls Try.prog 23 #[.int .u64 x, .int .u64 y] w fun e w' => e = .returned (.tuple #[.int .u64 (hi64 x y), .int .u64 (lo64 x y)]) ∧ w = w' := by
  obtain ⟨m, rfl⟩ := Int.eq_ofNat_of_zero_le x1
  obtain ⟨n, rfl⟩ := Int.eq_ofNat_of_zero_le y1
  have h := Any.bits_Mul64 Try.laysMul64 m n (by omega) (by omega) w
  have e1 : hi64 m n = ((m * n / 18446744073709551616 : Nat) : Int) := by unfold hi64; rw [Int.natCast_ediv, Int.natCast_mul]; rfl
  have e2 : lo64 m n = ((m * n % 18446744073709551616 : Nat) : Int) := by unfold lo64; rw [Int.natCast_emod, Int.natCast_mul]; rfl
  rw [e1, e2]
  exact h.mono fun e w' ⟨a, b⟩ => ⟨a, b.symm⟩

theorem hi_lo (x y : Int) : hi64 x y * 18446744073709551616 + lo64 x y = x * y ∧ 0 ≤ lo64 x y ∧ lo64 x y < 18446744073709551616 := by
  unfold hi64 lo64
  generalize x * y = p
  omega
theorem abs_mul (a b : Int) : absF a * absF b = absF (a * b) := by
  unfold absF
  by_cases h : a < 0 <;> by_cases k : b < 0
  · have := Int.mul_pos_of_neg_of_neg h k
    rw [if_pos h, if_pos k, if_neg (by omega), Int.neg_mul_neg]
  · by_cases z : b = 0
    · subst z; simp
    · have := Int.mul_neg_of_neg_of_pos h (by omega : 0 < b)
      rw [if_pos h, if_neg k, if_pos this, Int.neg_mul]
  · by_cases z : a = 0
    · subst z; simp
    · have := Int.mul_neg_of_pos_of_neg (by omega : 0 < a) k
      rw [if_neg h, if_pos k, if_pos this, Int.mul_neg]
  · have := Int.mul_nonneg (by omega : 0 ≤ a) (by omega : 0 ≤ b)
    rw [if_neg h, if_neg k, if_neg (by omega)]
theorem sign_mul (a b : Int) (h : ¬ (a < 0 ↔ b < 0)) : a * b ≤ 0 := by
  by_cases h1 : a < 0
  · exact Int.mul_nonpos_of_nonpos_of_nonneg (by omega) (by omega)
  · exact Int.mul_nonpos_of_nonneg_of_nonpos (by omega) (by omega)
theorem sign_mul' (a b : Int) (h : a < 0 ↔ b < 0) : 0 ≤ a * b := by
  by_cases h1 : a < 0
  · exact Int.mul_nonneg_of_nonpos_of_nonpos (by omega) (by omega)
  · exact Int.mul_nonneg (by omega) (by omega)

theorem mul_in (a b : Int) (h : -9007199254740992 ≤ a * b ∧ a * b ≤ 9007199254740992) :
    ∃ m, 0 ≤ m ∧ m ≤ 9007199254740992 ∧ hi64 (absF a) (absF b) = 0 ∧ lo64 (absF a) (absF b) = m ∧ mulF a b = (if (a < 0 ↔ b < 0) then m else -m, true) := by
  obtain ⟨q1, q2, q3⟩ := hi_lo (absF a) (absF b)
  rw [abs_mul] at q1
  have hp : absF (a * b) = if a * b < 0 then -(a * b) else a * b := rfl
  have h1 : 0 ≤ absF (a * b) ∧ absF (a * b) ≤ 9007199254740992 := by split at hp <;> omega
  refine ⟨absF (a * b), h1.1, h1.2, by omega, by omega, ?_⟩
  unfold mulF
  rw [if_pos h]
  by_cases c : (a < 0 ↔ b < 0)
  · have := sign_mul' a b c
    rw [if_pos c, hp, if_neg (by omega)]
  · have := sign_mul a b c
    rw [if_neg c, hp]
    split
    · simp
    · have : a * b = 0 := by omega
      rw [this]; rfl
theorem mul_out (a b : Int) (h : ¬ (-9007199254740992 ≤ a * b ∧ a * b ≤ 9007199254740992)) :
    mulF a b = (0, false) ∧ (¬ hi64 (absF a) (absF b) = 0 ∨ 9007199254740992 < lo64 (absF a) (absF b)) := by
  obtain ⟨q1, q2, q3⟩ := hi_lo (absF a) (absF b)
  rw [abs_mul] at q1
  have hp : absF (a * b) = if a * b < 0 then -(a * b) else a * b := rfl
  have h1 : 9007199254740992 < absF (a * b) := by split at hp <;> omega
  refine ⟨by unfold mulF; rw [if_neg h], ?_⟩
  omega

theorem num_Mul (a b : Int) (w : World) (a1 : -9223372036854775808 ≤ a) (a2 : a ≤ 9223372036854775807) (b1 : -9223372036854775808 ≤ b) (b2 : b ≤ 9223372036854775807) :
    Calls Try.prog 10 #[.int .i64 a, .int .i64 b] w fun r w' => r = .returned (.tuple #[.int .i64 (mulF a b).1, .bool (mulF a b).2]) ∧ w = w' := by
  obtain ⟨pa1, pa2⟩ := abs_range a1 a2
  obtain ⟨pb1, pb2⟩ := abs_range b1 b2
  by_cases h : -9007199254740992 ≤ a * b ∧ a * b ≤ 9007199254740992
  · obtain ⟨m, m1, m2, hh, hl, hF⟩ := mul_in a b h
    rw [hF]
    clear hF h
    by_cases c1 : a < 0 <;> by_cases c2 : b < 0
    all_goals
      first | rw [if_pos (by omega)] | rw [if_neg (by omega)]
      have d1 : decide (a < 0) = decide (a < 0) := rfl
      have d2 : decide (b < 0) = decide (b < 0) := rfl
      conv at d1 => rhs; simp only [c1, decide_true, decide_false]
      conv at d2 => rhs; simp only [c2, decide_true, decide_false]
      go_enter Try.func10, Try.ntmps10
      go_wp2_with (first
        | (go_at_call 24; refine (num_size _ _ (by omega) (by omega)).mono ?_; rintro e w' ⟨rfl, rfl⟩)
        | (go_at_call 23; refine (bits_Mul64 _ _ _ (by omega) (by omega) (by omega) (by omega)).mono ?_; rintro e w' ⟨rfl, rfl⟩))
      go_ret2
      exact ⟨rfl, rfl⟩
  · obtain ⟨hF, hh⟩ := mul_out a b h
    rw [hF]
    clear hF h
    by_cases hz : hi64 (absF a) (absF b) = 0
    · have hl : 9007199254740992 < lo64 (absF a) (absF b) := by omega
      clear hh
      go_enter Try.func10, Try.ntmps10
      go_wp2_with (first
        | (go_at_call 24; refine (num_size _ _ (by omega) (by omega)).mono ?_; rintro e w' ⟨rfl, rfl⟩)
        | (go_at_call 23; refine (bits_Mul64 _ _ _ (by omega) (by omega) (by omega) (by omega)).mono ?_; rintro e w' ⟨rfl, rfl⟩))
      go_ret2
      exact ⟨rfl, rfl⟩
    · clear hh
      have hz' : (hi64 (absF a) (absF b) != 0) = true := by simp [hz]
      clear hz
      go_enter Try.func10, Try.ntmps10
      go_wp2_with (first
        | (go_at_call 24; refine (num_size _ _ (by omega) (by omega)).mono ?_; rintro e w' ⟨rfl, rfl⟩)
        | (go_at_call 23; refine (bits_Mul64 _ _ _ (by omega) (by omega) (by omega) (by omega)).mono ?_; rintro e w' ⟨rfl, rfl⟩))
      go_ret2
      exact ⟨rfl, rfl⟩

theorem div_lt (x y : Int) (y1 : 1 ≤ y) : (9007199254740992 / y < x) ↔ 9007199254740992 < x * y := by
  rw [Int.ediv_lt_iff_lt_mul (by omega)]

theorem ref_Mul (a b : Int) (w : World) (a1 : -9223372036854775808 ≤ a) (a2 : a ≤ 9223372036854775807) (b1 : -9223372036854775808 ≤ b) (b2 : b ≤ 9223372036854775807) :
    Calls Try.prog 11 #[.int .i64 a, .int .i64 b] w fun r w' => r = .returned (.tuple #[.int .i64 (mulF a b).1, .bool (mulF a b).2]) ∧ w = w' := by
  by_cases za : a = 0
  · have hF : mulF a b = (0, true) := by unfold mulF; rw [za]; simp
    rw [hF]
    clear hF
    subst za
    go_enter Try.func11, Try.ntmps11
    go_wp2
    go_ret2
    exact ⟨rfl, rfl⟩
  by_cases zb : b = 0
  · have hF : mulF a b = (0, true) := by unfold mulF; rw [zb]; simp
    rw [hF]
    clear hF
    subst zb
    have za' : (a == 0) = false := by simp [za]
    clear za
    go_enter Try.func11, Try.ntmps11
    go_wp2
    go_ret2
    exact ⟨rfl, rfl⟩
  have za' : (a == 0) = false := by simp [za]
  have zb' : (b == 0) = false := by simp [zb]
  obtain ⟨pa1, pa2⟩ := abs_range a1 a2
  obtain ⟨pb1, pb2⟩ := abs_range b1 b2
  have pb3 : 1 ≤ absF b := by unfold absF; split <;> omega
  have hd := div_lt (absF a) (absF b) pb3
  rw [abs_mul] at hd
  obtain ⟨q, hq⟩ : ∃ q, 9007199254740992 / absF b = q := ⟨_, rfl⟩
  obtain ⟨p, hpp⟩ : ∃ p, absF a * absF b = p := ⟨_, rfl⟩
  have hpp' := hpp
  rw [abs_mul] at hpp'
  have hp : absF (a * b) = if a * b < 0 then -(a * b) else a * b := rfl
  rw [hq] at hd
  by_cases h : -9007199254740992 ≤ a * b ∧ a * b ≤ 9007199254740992
  · obtain ⟨m, m1, m2, hh, hl, hF⟩ := mul_in a b h
    have hm : p = m := by
      obtain ⟨r1, r2, r3⟩ := hi_lo (absF a) (absF b)
      omega
    subst hm
    have hd' : ¬ q < absF a := by rw [hd]; omega
    rw [hF]
    clear hF h hh hl hd hp hpp'
    have Hp := Lib.hid hpp
    have Hq := Lib.hid hq
    by_cases c1 : a < 0 <;> by_cases c2 : b < 0
    all_goals
      first | rw [if_pos (by omega)] | rw [if_neg (by omega)]
      have d1 : decide (a < 0) = decide (a < 0) := rfl
      have d2 : decide (b < 0) = decide (b < 0) := rfl
      conv at d1 => rhs; simp only [c1, decide_true, decide_false]
      conv at d2 => rhs; simp only [c2, decide_true, decide_false]
      go_enter Try.func11, Try.ntmps11
      go_wp2_with (first
        | (go_at_call 22; refine (ref_size _ _ (by omega) (by omega)).mono ?_; rintro e w' ⟨rfl, rfl⟩))
      go_ret2
      exact ⟨rfl, rfl⟩
  · obtain ⟨hF, _⟩ := mul_out a b h
    have hp3 : 9007199254740992 < p := by rw [← hpp']; split at hp <;> omega
    have hd' : q < absF a := by rw [hd, hpp']; omega
    rw [hF]
    clear hF h hd hp hpp'
    have Hp := Lib.hid hpp
    clear hpp
    go_enter Try.func11, Try.ntmps11
    go_wp2_with (first
      | (go_at_call 22; refine (ref_size _ _ (by omega) (by omega)).mono ?_; rintro e w' ⟨rfl, rfl⟩))
    go_ret2
    exact ⟨rfl, rfl⟩
end Go.Proofs.Ytfikodeghjlhcaa
