/- Contracts of num's Add and Mul, and of compute, of layer 30 (terms). -/
import Derived.Test.YtcdpjodnbegepaaFn1
import Derived.Shelf.Bits.Mul64
import Derived.Shelf.Lay
import Derived.Ground.NamesProg
import Derived.Lib.Agree
import Derived.KernelRfl
import GoSem.Claim
namespace Go.Proofs.Ytcdpjodnbegepaa
open Go.RowKit
open Go.Shelf

def addF (a b : Int) : Int × Bool := if -9007199254740992 ≤ a + b ∧ a + b ≤ 9007199254740992 then (a + b, true) else (0, false)
def absF (a : Int) : Int := if a < 0 then -a else a
def mulF (a b : Int) : Int × Bool := if -9007199254740992 ≤ a * b ∧ a * b ≤ 9007199254740992 then (a * b, true) else (0, false)
theorem ret_i {k : IntKind} {a b : Int} (h : a = b) : Ending.returned (.int k a) = .returned (.int k b) := by rw [h]
theorem ret_b {a b : Bool} (h : a = b) : Ending.returned (.bool a) = .returned (.bool b) := by rw [h]
theorem ret_ib {k : IntKind} {p : Int × Bool} {a : Int} {b : Bool} (h : p = (a, b)) : Ending.returned (.tuple #[.int k a, .bool b]) = .returned (.tuple #[.int k p.1, .bool p.2]) := by rw [h]

theorem num_Add (a b : Int) (w : World) (a1 : -9223372036854775808 ≤ a) (a2 : a ≤ 9223372036854775807) (b1 : -9223372036854775808 ≤ b) (b2 : b ≤ 9223372036854775807) :
    Calls Try.prog 72 #[.int .i64 a, .int .i64 b] w fun r w' => r = .returned (.tuple #[.int .i64 (addF a b).1, .bool (addF a b).2]) ∧ w = w' := by
  by_cases h : -9223372036854775808 ≤ a + b ∧ a + b ≤ 9223372036854775807
  · obtain ⟨h1, h2⟩ := h
    by_cases c1 : a < 0 <;> by_cases c2 : b < 0 <;> by_cases c3 : a + b < 0
    all_goals
      go_enter Try.func72, Try.ntmps72
      go_wp2
    all_goals
      go_ret2
      refine ⟨ret_ib ?_, rfl⟩
      unfold addF
      first | (rw [if_pos (by omega)]; done) | (rw [if_neg (by omega)]; done)
  · have hF : addF a b = (0, false) := by unfold addF; rw [if_neg (by omega)]
    have hF := Lib.hid hF
    by_cases c1 : a < 0
    · obtain ⟨s, hs, s0⟩ : ∃ s, IntKind.i64.wrap (a + b) = s ∧ 0 ≤ s := ⟨_, rfl, by rw [IntKind.wrap_i64]; omega⟩
      have c2 : b < 0 := by omega
      clear h
      go_enter Try.func72, Try.ntmps72
      go_wp2
      all_goals
        go_ret2
        exact ⟨rfl, rfl⟩
    · obtain ⟨s, hs, s0⟩ : ∃ s, IntKind.i64.wrap (a + b) = s ∧ s < 0 := ⟨_, rfl, by rw [IntKind.wrap_i64]; omega⟩
      have c2 : ¬ b < 0 := by omega
      clear h
      go_enter Try.func72, Try.ntmps72
      go_wp2
      all_goals
        go_ret2
        exact ⟨rfl, rfl⟩

theorem num_size (a : Int) (w : World) (a1 : -9223372036854775808 ≤ a) (a2 : a ≤ 9223372036854775807) :
    Calls Try.prog 101 #[.int .i64 a] w fun r w' => r = .returned (.int .u64 (absF a)) ∧ w = w' := by
  by_cases c1 : a < 0
  · go_enter Try.func101, Try.ntmps101
    go_wp2
    go_ret
    exact ⟨ret_i (by unfold absF; rw [if_pos c1]; simp only [IntKind.wrap_u64]; omega), rfl⟩
  · go_enter Try.func101, Try.ntmps101
    go_wp2
    go_ret
    exact ⟨ret_i (by unfold absF; rw [if_neg (by omega)]; (try simp only [IntKind.wrap_u64]); try omega), rfl⟩
theorem abs_range {a : Int} (a1 : -9223372036854775808 ≤ a) (a2 : a ≤ 9223372036854775807) : 0 ≤ absF a ∧ absF a ≤ 9223372036854775808 := by
  unfold absF; split <;> omega

def Try.laysMul64_ren : Go.Shelf.Ren := ⟨fun | 264 => 100 | n => n, fun | 53 => 119 | 46 => 102 | n => n, fun | n => n⟩
theorem Try.laysMul64 : Go.Proofs.Lays.n264 Try.prog Try.laysMul64_ren := {
  mixed := by kernel_rfl
  f264 := Try.func100.trans (congrArg some (by kernel_rfl))
  t46 := Try.underlying102
  a46 := Try.isAgg102
  z46 := Try.sizeOf102
  v46 := Try.zeroValue102
  t53 := Try.underlying119
  a53 := Try.isAgg119
  z53 := Try.sizeOf119
  v53 := Try.zeroValue119 }

def hi64 (x y : Int) : Int := x * y / 18446744073709551616
def lo64 (x y : Int) : Int := x * y % 18446744073709551616
theorem bits_Mul64 (x y : Int) (w : World) (x1 : 0 ≤ x) (x2 : x ≤ 9223372036854775808) (y1 : 0 ≤ y) (y2 : y ≤ 9223372036854775808) :
    Calls Try.prog 100 #[.int .u64 x, .int .u64 y] w fun e w' => e = .returned (.tuple #[.int .u64 (hi64 x y), .int .u64 (lo64 x y)]) ∧ w = w' := by
  obtain ⟨m, rfl⟩ := Int.eq_ofNat_of_zero_le x1
  obtain ⟨n, rfl⟩ := Int.eq_ofNat_of_zero_le y1
  have h := Any.bits_Mul64 Try.laysMul64 m n (by omega) (by omega) w
  have e1 : hi64 m n = ((m * n / 18446744073709551616 : Nat) : Int) := by unfold hi64; rw [Int.natCast_ediv, Int.natCast_mul]; rfl
  have e2 : lo64 m n = ((m * n % 18446744073709551616 : Nat) : Int) := by unfold lo64; rw [Int.natCast_emod, Int.natCast_mul]; rfl
  rw [e1, e2]
  exact h.mono fun e w' ⟨a, b⟩ => ⟨a, b.symm⟩

theorem hi_lo (x y : Int) : hi64 x y * 18446744073709551616 + lo64 x y = x * y ∧ 0 ≤ lo64 x y ∧ lo64 x y < 18446744073709551616 := by
  unfold hi64 lo64
  generalize x * y = p
  omega
theorem abs_mul (a b : Int) : absF a * absF b = absF (a * b) := by
  unfold absF
  by_cases h : a < 0 <;> by_cases k : b < 0
  · have := Int.mul_pos_of_neg_of_neg h k
    rw [if_pos h, if_pos k, if_neg (by omega), Int.neg_mul_neg]
  · by_cases z : b = 0
    · subst z; simp
    · have := Int.mul_neg_of_neg_of_pos h (by omega : 0 < b)
      rw [if_pos h, if_neg k, if_pos this, Int.neg_mul]
  · by_cases z : a = 0
    · subst z; simp
    · have := Int.mul_neg_of_pos_of_neg (by omega : 0 < a) k
      rw [if_neg h, if_pos k, if_pos this, Int.mul_neg]
  · have := Int.mul_nonneg (by omega : 0 ≤ a) (by omega : 0 ≤ b)
    rw [if_neg h, if_neg k, if_neg (by omega)]
theorem sign_mul (a b : Int) (h : ¬ (a < 0 ↔ b < 0)) : a * b ≤ 0 := by
  by_cases h1 : a < 0
  · exact Int.mul_nonpos_of_nonpos_of_nonneg (by omega) (by omega)
  · exact Int.mul_nonpos_of_nonneg_of_nonpos (by omega) (by omega)
theorem sign_mul' (a b : Int) (h : a < 0 ↔ b < 0) : 0 ≤ a * b := by
  by_cases h1 : a < 0
  · exact Int.mul_nonneg_of_nonpos_of_nonpos (by omega) (by omega)
  · exact Int.mul_nonneg (by omega) (by omega)

theorem mul_in (a b : Int) (h : -9007199254740992 ≤ a * b ∧ a * b ≤ 9007199254740992) :
    ∃ m, 0 ≤ m ∧ m ≤ 9007199254740992 ∧ hi64 (absF a) (absF b) = 0 ∧ lo64 (absF a) (absF b) = m ∧ mulF a b = (if (a < 0 ↔ b < 0) then m else -m, true) := by
  obtain ⟨q1, q2, q3⟩ := hi_lo (absF a) (absF b)
  rw [abs_mul] at q1
  have hp : absF (a * b) = if a * b < 0 then -(a * b) else a * b := rfl
  have h1 : 0 ≤ absF (a * b) ∧ absF (a * b) ≤ 9007199254740992 := by split at hp <;> omega
  refine ⟨absF (a * b), h1.1, h1.2, by omega, by omega, ?_⟩
  unfold mulF
  rw [if_pos h]
  by_cases c : (a < 0 ↔ b < 0)
  · have := sign_mul' a b c
    rw [if_pos c, hp, if_neg (by omega)]
  · have := sign_mul a b c
    rw [if_neg c, hp]
    split
    · simp
    · have : a * b = 0 := by omega
      rw [this]; rfl
theorem mul_out (a b : Int) (h : ¬ (-9007199254740992 ≤ a * b ∧ a * b ≤ 9007199254740992)) :
    mulF a b = (0, false) ∧ (¬ hi64 (absF a) (absF b) = 0 ∨ 9007199254740992 < lo64 (absF a) (absF b)) := by
  obtain ⟨q1, q2, q3⟩ := hi_lo (absF a) (absF b)
  rw [abs_mul] at q1
  have hp : absF (a * b) = if a * b < 0 then -(a * b) else a * b := rfl
  have h1 : 9007199254740992 < absF (a * b) := by split at hp <;> omega
  refine ⟨by unfold mulF; rw [if_neg h], ?_⟩
  omega

theorem num_Mul (a b : Int) (w : World) (a1 : -9223372036854775808 ≤ a) (a2 : a ≤ 9223372036854775807) (b1 : -9223372036854775808 ≤ b) (b2 : b ≤ 9223372036854775807) :
    Calls Try.prog 88 #[.int .i64 a, .int .i64 b] w fun r w' => r = .returned (.tuple #[.int .i64 (mulF a b).1, .bool (mulF a b).2]) ∧ w = w' := by
  obtain ⟨pa1, pa2⟩ := abs_range a1 a2
  obtain ⟨pb1, pb2⟩ := abs_range b1 b2
  by_cases h : -9007199254740992 ≤ a * b ∧ a * b ≤ 9007199254740992
  · obtain ⟨m, m1, m2, hh, hl, hF⟩ := mul_in a b h
    rw [hF]
    clear hF h
    by_cases c1 : a < 0 <;> by_cases c2 : b < 0
    all_goals
      first | rw [if_pos (by omega)] | rw [if_neg (by omega)]
      have d1 : decide (a < 0) = decide (a < 0) := rfl
      have d2 : decide (b < 0) = decide (b < 0) := rfl
      conv at d1 => rhs; simp only [c1, decide_true, decide_false]
      conv at d2 => rhs; simp only [c2, decide_true, decide_false]
      go_enter Try.func88, Try.ntmps88
      go_wp2_with (first
        | (go_at_call 101; refine (num_size _ _ (by omega) (by omega)).mono ?_; rintro e w' ⟨rfl, rfl⟩)
        | (go_at_call 100; refine (bits_Mul64 _ _ _ (by omega) (by omega) (by omega) (by omega)).mono ?_; rintro e w' ⟨rfl, rfl⟩))
      go_ret2
      exact ⟨rfl, rfl⟩
  · obtain ⟨hF, hh⟩ := mul_out a b h
    rw [hF]
    clear hF h
    by_cases hz : hi64 (absF a) (absF b) = 0
    · have hl : 9007199254740992 < lo64 (absF a) (absF b) := by omega
      clear hh
      go_enter Try.func88, Try.ntmps88
      go_wp2_with (first
        | (go_at_call 101; refine (num_size _ _ (by omega) (by omega)).mono ?_; rintro e w' ⟨rfl, rfl⟩)
        | (go_at_call 100; refine (bits_Mul64 _ _ _ (by omega) (by omega) (by omega) (by omega)).mono ?_; rintro e w' ⟨rfl, rfl⟩))
      go_ret2
      exact ⟨rfl, rfl⟩
    · clear hh
      have hz' : (hi64 (absF a) (absF b) != 0) = true := by simp [hz]
      clear hz
      go_enter Try.func88, Try.ntmps88
      go_wp2_with (first
        | (go_at_call 101; refine (num_size _ _ (by omega) (by omega)).mono ?_; rintro e w' ⟨rfl, rfl⟩)
        | (go_at_call 100; refine (bits_Mul64 _ _ _ (by omega) (by omega) (by omega) (by omega)).mono ?_; rintro e w' ⟨rfl, rfl⟩))
      go_ret2
      exact ⟨rfl, rfl⟩

def I64 (a : Int) : Prop := -9223372036854775808 ≤ a ∧ a ≤ 9223372036854775807
/-- The result of a sum, a difference, or (for every other operator) a product. -/
def compS (o a b : Int) : Int × Bool := if o = 14 then addF a b else if o = 15 then addF a (IntKind.i64.wrap (-b)) else mulF a b
theorem pr_compute (o a b : Int) (w : World) (ha : I64 a) (hb : I64 b) : Calls Try.prog 73 #[.int .i64 o, .int .i64 a, .int .i64 b] w fun r w' => r = .returned (.tuple #[.int .i64 (compS o a b).1, .bool (compS o a b).2]) ∧ w = w' := by
  obtain ⟨a1, a2⟩ := ha
  obtain ⟨b1, b2⟩ := hb
  by_cases h1 : o = 14
  · subst h1
    have e : compS 14 a b = addF a b := rfl
    rw [e]
    have H := Lib.hid (num_Add a b w a1 a2 b1 b2)
    generalize addF a b = R at *
    clear e
    go_enter Try.func73, Try.ntmps73
    go_wp2_with (go_at_call 72; (with_reducible refine H.out.mono ?_); rintro e w1 ⟨rfl, rfl⟩)
    go_ret2
    exact ⟨rfl, rfl⟩
  by_cases h2 : o = 15
  · subst h2
    have e : compS 15 a b = addF a (IntKind.i64.wrap (-b)) := rfl
    rw [e]
    obtain ⟨c, hc⟩ : ∃ c, IntKind.i64.wrap (-b) = c := ⟨_, rfl⟩
    rw [hc]
    have H := Lib.hid (num_Add a c w a1 a2 (by rw [IntKind.wrap_i64] at hc; omega) (by rw [IntKind.wrap_i64] at hc; omega))
    generalize addF a c = R at *
    clear e
    go_enter Try.func73, Try.ntmps73
    go_wp2_with (go_at_call 72; (with_reducible refine H.out.mono ?_); rintro e w1 ⟨rfl, rfl⟩)
    go_ret2
    exact ⟨rfl, rfl⟩
  have e : compS o a b = mulF a b := by unfold compS; rw [if_neg h1, if_neg h2]
  rw [e]
  have e1 : (o == 14) = false := by simp [h1]
  have e2 : (o == 15) = false := by simp [h2]
  have H := Lib.hid (num_Mul a b w a1 a2 b1 b2)
  generalize mulF a b = R at *
  clear e h1 h2
  go_enter Try.func73, Try.ntmps73
  go_wp2_with (go_at_call 88; (with_reducible refine H.out.mono ?_); rintro e w1 ⟨rfl, rfl⟩)
  go_ret2
  exact ⟨rfl, rfl⟩
end Go.Proofs.Ytcdpjodnbegepaa
