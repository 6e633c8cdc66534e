/- Contracts of the arithmetic functions of layer 1 (num) and of its specification, over the translation. -/
import Derived.Test.YtfikodeghjlhcaaRows
import Derived.WalkKit
import Derived.ProofKit
import Derived.OpenShut
import Derived.Handy
import Derived.Lib.Hide
import Derived.WalkLawsBesides
import Derived.PlainAid
namespace Go.Proofs.Ytfikodeghjlhcaa
open Go.RowKit

def addF (a b : Int) : Int × Bool := if -9007199254740992 ≤ a + b ∧ a + b ≤ 9007199254740992 then (a + b, true) else (0, false)
def absF (a : Int) : Int := if a < 0 then -a else a
def mulF (a b : Int) : Int × Bool := if -9007199254740992 ≤ a * b ∧ a * b ≤ 9007199254740992 then (a * b, true) else (0, false)
def nearF (n lo hi : Int) : Int := if n < lo then lo else if n > hi then hi else n

theorem ret_i {k : IntKind} {a b : Int} (h : a = b) : Ending.returned (.int k a) = .returned (.int k b) := by rw [h]
theorem ret_b {a b : Bool} (h : a = b) : Ending.returned (.bool a) = .returned (.bool b) := by rw [h]
theorem ret_ib {k : IntKind} {p : Int × Bool} {a : Int} {b : Bool} (h : p = (a, b)) : Ending.returned (.tuple #[.int k a, .bool b]) = .returned (.tuple #[.int k p.1, .bool p.2]) := by rw [h]

theorem num_Near (n lo hi : Int) (w : World) :
    Calls Try.prog 16 #[.int .i64 n, .int .i64 lo, .int .i64 hi] w fun r w' => r = .returned (.int .i64 (nearF n lo hi)) ∧ w = w' := by
  go_enter Try.func16, Try.ntmps16
  go_wp2
  all_goals
    go_ret
    exact ⟨ret_i (by unfold nearF; split <;> (try split) <;> omega), rfl⟩
theorem ref_Near (n lo hi : Int) (w : World) :
    Calls Try.prog 17 #[.int .i64 n, .int .i64 lo, .int .i64 hi] w fun r w' => r = .returned (.int .i64 (nearF n lo hi)) ∧ w = w' := by
  go_enter Try.func17, Try.ntmps17
  go_wp2
  all_goals
    go_ret
    exact ⟨ret_i (by unfold nearF; split <;> (try split) <;> omega), rfl⟩

theorem num_Add (a b : Int) (w : World) (a1 : -9223372036854775808 ≤ a) (a2 : a ≤ 9223372036854775807) (b1 : -9223372036854775808 ≤ b) (b2 : b ≤ 9223372036854775807) :
    Calls Try.prog 8 #[.int .i64 a, .int .i64 b] w fun r w' => r = .returned (.tuple #[.int .i64 (addF a b).1, .bool (addF a b).2]) ∧ w = w' := by
  by_cases h : -9223372036854775808 ≤ a + b ∧ a + b ≤ 9223372036854775807
  · obtain ⟨h1, h2⟩ := h
    by_cases c1 : a < 0 <;> by_cases c2 : b < 0 <;> by_cases c3 : a + b < 0
    all_goals
      go_enter Try.func8, Try.ntmps8
      go_wp2
    all_goals
      go_ret2
      refine ⟨ret_ib ?_, rfl⟩
      unfold addF
      first | (rw [if_pos (by omega)]; done) | (rw [if_neg (by omega)]; done)
  · have hF : addF a b = (0, false) := by unfold addF; rw [if_neg (by omega)]
    have hF := Lib.hid hF
    by_cases c1 : a < 0
    · obtain ⟨s, hs, s0⟩ : ∃ s, IntKind.i64.wrap (a + b) = s ∧ 0 ≤ s := ⟨_, rfl, by rw [IntKind.wrap_i64]; omega⟩
      have c2 : b < 0 := by omega
      clear h
      go_enter Try.func8, Try.ntmps8
      go_wp2
      all_goals
        go_ret2
        exact ⟨rfl, rfl⟩
    · obtain ⟨s, hs, s0⟩ : ∃ s, IntKind.i64.wrap (a + b) = s ∧ s < 0 := ⟨_, rfl, by rw [IntKind.wrap_i64]; omega⟩
      have c2 : ¬ b < 0 := by omega
      clear h
      go_enter Try.func8, Try.ntmps8
      go_wp2
      all_goals
        go_ret2
        exact ⟨rfl, rfl⟩

theorem num_size (a : Int) (w : World) (a1 : -9223372036854775808 ≤ a) (a2 : a ≤ 9223372036854775807) :
    Calls Try.prog 24 #[.int .i64 a] w fun r w' => r = .returned (.int .u64 (absF a)) ∧ w = w' := by
  by_cases c1 : a < 0
  · go_enter Try.func24, Try.ntmps24
    go_wp2
    go_ret
    exact ⟨ret_i (by unfold absF; rw [if_pos c1]; simp only [IntKind.wrap_u64]; omega), rfl⟩
  · go_enter Try.func24, Try.ntmps24
    go_wp2
    go_ret
    exact ⟨ret_i (by unfold absF; rw [if_neg (by omega)]; (try simp only [IntKind.wrap_u64]); try omega), rfl⟩
theorem ref_size (a : Int) (w : World) (a1 : -9223372036854775808 ≤ a) (a2 : a ≤ 9223372036854775807) :
    Calls Try.prog 22 #[.int .i64 a] w fun r w' => r = .returned (.int .u64 (absF a)) ∧ w = w' := by
  by_cases c1 : a < 0
  · go_enter Try.func22, Try.ntmps22
    go_wp2
    go_ret
    exact ⟨ret_i (by unfold absF; rw [if_pos (by omega)]; (try simp only [IntKind.wrap_u64]); omega), rfl⟩
  · go_enter Try.func22, Try.ntmps22
    go_wp2
    go_ret
    exact ⟨ret_i (by unfold absF; rw [if_neg (by omega)]; (try simp only [IntKind.wrap_u64]); try omega), rfl⟩
theorem abs_range {a : Int} (a1 : -9223372036854775808 ≤ a) (a2 : a ≤ 9223372036854775807) : 0 ≤ absF a ∧ absF a ≤ 9223372036854775808 := by
  unfold absF; split <;> omega

theorem ref_Add (a b : Int) (w : World) (a1 : -9223372036854775808 ≤ a) (a2 : a ≤ 9223372036854775807) (b1 : -9223372036854775808 ≤ b) (b2 : b ≤ 9223372036854775807) :
    Calls Try.prog 9 #[.int .i64 a, .int .i64 b] w fun r w' => r = .returned (.tuple #[.int .i64 (addF a b).1, .bool (addF a b).2]) ∧ w = w' := by
  have A : ∀ x : Int, (0 ≤ x ∧ absF x = x) ∨ (x < 0 ∧ absF x = -x) := fun x => by unfold absF; split <;> omega
  have pa := A a
  have pb := A b
  have ps := A (a + b)
  clear A
  have ha : 0 ≤ absF a := by omega
  have hb : 0 ≤ absF b := by omega
  have ha' : absF a ≤ 9223372036854775808 := by omega
  have hb' : absF b ≤ 9223372036854775808 := by omega
  have pa := Lib.hid pa
  have pb := Lib.hid pb
  have ps := Lib.hid ps
  by_cases c1 : 0 ≤ a
  · by_cases c2 : 0 ≤ b
    · go_enter Try.func9, Try.ntmps9
      go_wp2_with (first
        | (go_at_call 22; refine (ref_size _ _ (by omega) (by omega)).mono ?_; rintro e w' ⟨rfl, rfl⟩))
      all_goals
        go_ret2
        refine ⟨ret_ib ?_, rfl⟩
        have qa := pa.out
        have qb := pb.out
        unfold addF
        first | (rw [if_pos (by omega)]; done) | (rw [if_neg (by omega)]; done) | (rw [IntWalk.i64_in _ ⟨by omega, by omega⟩, if_pos (by omega)])
    · go_enter Try.func9, Try.ntmps9
      go_wp2_with (first
        | (go_at_call 22; refine (ref_size _ _ (by omega) (by omega)).mono ?_; rintro e w' ⟨rfl, rfl⟩))
      all_goals
        go_ret2
        refine ⟨ret_ib ?_, rfl⟩
        have qs := ps.out
        unfold addF
        first | (rw [if_pos (by omega)]; done) | (rw [if_neg (by omega)]; done)
  · by_cases c2 : 0 ≤ b
    · go_enter Try.func9, Try.ntmps9
      go_wp2_with (first
        | (go_at_call 22; refine (ref_size _ _ (by omega) (by omega)).mono ?_; rintro e w' ⟨rfl, rfl⟩))
      all_goals
        go_ret2
        refine ⟨ret_ib ?_, rfl⟩
        have qs := ps.out
        unfold addF
        first | (rw [if_pos (by omega)]; done) | (rw [if_neg (by omega)]; done)
    · go_enter Try.func9, Try.ntmps9
      go_wp2_with (first
        | (go_at_call 22; refine (ref_size _ _ (by omega) (by omega)).mono ?_; rintro e w' ⟨rfl, rfl⟩))
      all_goals
        go_ret2
        refine ⟨ret_ib ?_, rfl⟩
        have qa := pa.out
        have qb := pb.out
        unfold addF
        first | (rw [if_pos (by omega)]; done) | (rw [if_neg (by omega)]; done) | (rw [IntWalk.i64_in _ ⟨by omega, by omega⟩, if_pos (by omega)])

def dbl (k : Nat) : Int := 2 ^ k
theorem dbl_zero : dbl 0 = 1 := rfl
theorem dbl_succ (k : Nat) : dbl (k + 1) = 2 * dbl k := by unfold dbl; rw [Int.pow_succ]; omega
theorem dbl_pos (k : Nat) : 1 ≤ dbl k := by
  induction k with
  | zero => rw [dbl_zero]; omega
  | succ k ih => rw [dbl_succ]; omega
theorem dbl_le {j k : Nat} (h : j ≤ k) : dbl j ≤ dbl k := by
  induction h with
  | refl => omega
  | step _ ih => rw [dbl_succ]; have := dbl_pos j; omega
theorem dbl_53 : dbl 53 = 9007199254740992 := by decide
def pow2F (k : Int) : Int × Bool := if 0 ≤ k ∧ k ≤ 53 then (dbl k.toNat, true) else (0, false)

theorem num_Pow2 (k : Int) (w : World) :
    Calls Try.prog 12 #[.int .i64 k] w fun r w' => r = .returned (.tuple #[.int .i64 (pow2F k).1, .bool (pow2F k).2]) ∧ w = w' := by
  by_cases h : 0 ≤ k ∧ k ≤ 53
  · obtain ⟨n, rfl⟩ := Int.eq_ofNat_of_zero_le h.1
    have hF : pow2F (n : Int) = (dbl n, true) := by unfold pow2F; rw [if_pos h]; simp
    rw [hF]
    clear hF
    obtain ⟨h1, h2⟩ := h
    go_enter Try.func12, Try.ntmps12
    go_wp2
    go_loop [2, 11] (fun a i => ∃ j : Nat, j ≤ n ∧ i = .int .i64 j ∧ a = .int .i64 (dbl j)) (fun _ i => n - (intOf i).toNat)
    case atStart => exact ⟨0, Nat.zero_le _, rfl, by rw [dbl_zero]⟩
    case round =>
      obtain ⟨j, hj, rfl, rfl⟩ := hrel
      have hs := dbl_succ j
      have HS := Lib.hid hs
      have hp := dbl_pos j
      have hm := dbl_le (j := j) (k := 53) (by omega)
      rw [dbl_53] at hm
      clear hs
      by_cases hlt : j < n
      · go_wp2
        go_round
        case rel => exact ⟨j + 1, by omega, by go_num, by rw [HS.out]; go_num⟩
        case measure => simp [intOf]; omega
      · obtain rfl : j = n := by omega
        go_wp2
        go_ret2
        exact ⟨rfl, rfl⟩
  · have hF : pow2F k = (0, false) := by unfold pow2F; rw [if_neg h]
    rw [hF]
    clear hF
    by_cases h0 : k < 0
    · go_enter Try.func12, Try.ntmps12
      go_wp2
      go_ret2
      exact ⟨rfl, rfl⟩
    · have h1 : 53 < k := by omega
      clear h
      go_enter Try.func12, Try.ntmps12
      go_wp2
      go_ret2
      exact ⟨rfl, rfl⟩
theorem ref_Pow2 (k : Int) (w : World) :
    Calls Try.prog 13 #[.int .i64 k] w fun r w' => r = .returned (.tuple #[.int .i64 (pow2F k).1, .bool (pow2F k).2]) ∧ w = w' := by
  by_cases h : 0 ≤ k ∧ k ≤ 53
  · obtain ⟨n, rfl⟩ := Int.eq_ofNat_of_zero_le h.1
    have hF : pow2F (n : Int) = (dbl n, true) := by unfold pow2F; rw [if_pos h]; simp
    rw [hF]
    clear hF
    obtain ⟨h1, h2⟩ := h
    go_enter Try.func13, Try.ntmps13
    go_wp2
    go_loop [4, 5] (fun a i => ∃ j : Nat, j ≤ n ∧ i = .int .i64 j ∧ a = .int .i64 (dbl j)) (fun _ i => n - (intOf i).toNat)
    case atStart => exact ⟨0, Nat.zero_le _, rfl, by rw [dbl_zero]⟩
    case round =>
      obtain ⟨j, hj, rfl, rfl⟩ := hrel
      have hs := dbl_succ j
      have HS := Lib.hid hs
      have hp := dbl_pos j
      have hm := dbl_le (j := j) (k := 53) (by omega)
      rw [dbl_53] at hm
      clear hs
      by_cases hlt : j < n
      · go_wp2
        go_round
        case rel => exact ⟨j + 1, by omega, by go_num, by rw [HS.out]⟩
        case measure => simp [intOf]; omega
      · obtain rfl : j = n := by omega
        go_wp2
        go_ret2
        exact ⟨rfl, rfl⟩
  · have hF : pow2F k = (0, false) := by unfold pow2F; rw [if_neg h]
    rw [hF]
    clear hF
    by_cases h0 : k < 0
    · go_enter Try.func13, Try.ntmps13
      go_wp2
      go_ret2
      exact ⟨rfl, rfl⟩
    · have h1 : 53 < k := by omega
      clear h
      go_enter Try.func13, Try.ntmps13
      go_wp2
      go_ret2
      exact ⟨rfl, rfl⟩
end Go.Proofs.Ytfikodeghjlhcaa
