/- Contracts of Num of layer 2 (bits) and of its specification, over the translation. -/
import Derived.Test.YteoijhmaklocpaaBase
namespace Go.Proofs.Yteoijhmaklocpaa
open Go.RowKit

def numN (l : List Bool) : Nat → Nat
  | 0 => 0
  | k + 1 => numN l k + (if lb l k = true then 2 ^ k else 0)
theorem numN_lt (l : List Bool) (k : Nat) : numN l k < 2 ^ k := by
  induction k with
  | zero => show 0 < 1; omega
  | succ k ih => show numN l k + _ < 2 ^ (k + 1); rw [Nat.pow_succ]; split <;> omega
theorem numN_yes {l : List Bool} {k : Nat} (h : lb l k = true) : numN l (k + 1) = numN l k + 2 ^ k := by show numN l k + _ = _; rw [if_pos h]
theorem numN_no {l : List Bool} {k : Nat} (h : lb l k = false) : numN l (k + 1) = numN l k := by show numN l k + _ = _; rw [if_neg (by simp [h])]; rfl
theorem pow_le {j k : Nat} (h : j ≤ k) : (2 : Nat) ^ j ≤ 2 ^ k := Nat.pow_le_pow_right (by omega) h

theorem or_walk (l : List Bool) (k : Nat) (hk : k < 64) : bits BinOp.or IntKind.u64 (numN l k : Int) (IntKind.u64.wrap (2 ^ k)) = ((numN l k + 2 ^ k : Nat) : Int) := by
  have h1 := numN_lt l k
  have h2 := pow_le (j := k) (k := 63) (by omega)
  have e : ((2 : Int) ^ k) = ((2 ^ k : Nat) : Int) := by simp
  rw [e, IntKind.wrap_u64, Int.emod_eq_of_lt (by omega) (by omega), u64_or_nat _ _ (by omega) (by omega)]
  have h3 := Nat.two_pow_add_eq_or_of_lt h1 1
  rw [Nat.mul_one, Nat.or_comm] at h3
  rw [← h3, Nat.add_comm]
set_option maxHeartbeats 1000000 in
theorem bits_Num_le (A : Option Addr) (ca : Nat) (l : List Bool) (w : World) (h : RB w w.heap.size A l) (hl : l.length ≤ 64) :
    Calls Try.prog 12 #[.slice A l.length ca] w fun r w' => r = .returned (.int .u64 (numN l l.length)) ∧ w = w' := by
  have H := Lib.hid h
  clear h
  go_enter Try.func12, Try.ntmps12
  go_wp2
  go_loop [3, 8] (fun a i => ∃ k : Nat, k ≤ l.length ∧ a = .int .u64 (numN l k) ∧ i = .int .i64 k) (fun _ i => l.length - (intOf i).toNat)
  case atStart => exact ⟨0, Nat.zero_le _, rfl, rfl⟩
  case round =>
    obtain ⟨k, hk, rfl, rfl⟩ := hrel
    by_cases hlt : k < l.length
    · obtain ⟨g, o, rfl, hg, hc⟩ := H.out (by omega)
      have e1 := hc k hlt
      have h1' : (k : Int) < (l.length : Int) := by omega
      have h0' : (0 : Int) ≤ (k : Int) := by omega
      clear hc
      cases hv : lb l k
      · have HN := Lib.hid (numN_no hv)
        go_wp2
        go_round
        case rel => exact ⟨k + 1, by omega, by rw [HN.out], by go_num⟩
        case measure => simp [intOf]; omega
      · have HN := Lib.hid (numN_yes hv)
        have hor := or_walk l k (by omega)
        go_wp2
        go_round
        case rel => exact ⟨k + 1, by omega, by rw [HN.out]; simp, by go_num⟩
        case measure => simp [intOf]; omega
    · obtain rfl : k = l.length := by omega
      go_wp2
      go_ret
      exact ⟨rfl, rfl⟩
set_option maxHeartbeats 1000000 in
theorem bits_Num_gt (A : Option Addr) (ca : Nat) (l : List Bool) (w : World) (h : RB w w.heap.size A l) (hl : l.length ≤ 1000000000000) (h64 : 64 < l.length) :
    Calls Try.prog 12 #[.slice A l.length ca] w fun r w' => r = .returned (.int .u64 (numN l 64)) ∧ w = w' := by
  have H := Lib.hid h
  clear h
  go_enter Try.func12, Try.ntmps12
  go_wp2
  go_loop [3, 8] (fun a i => ∃ k : Nat, k ≤ 64 ∧ a = .int .u64 (numN l k) ∧ i = .int .i64 k) (fun _ i => 64 - (intOf i).toNat)
  case atStart => exact ⟨0, Nat.zero_le _, rfl, rfl⟩
  case round =>
    obtain ⟨k, hk, rfl, rfl⟩ := hrel
    by_cases hlt : k < 64
    · obtain ⟨g, o, rfl, hg, hc⟩ := H.out (by omega)
      have e1 := hc k (by omega)
      have h1' : (k : Int) < (l.length : Int) := by omega
      have h0' : (0 : Int) ≤ (k : Int) := by omega
      clear hc
      cases hv : lb l k
      · have HN := Lib.hid (numN_no hv)
        go_wp2
        go_round
        case rel => exact ⟨k + 1, by omega, by rw [HN.out], by go_num⟩
        case measure => simp [intOf]; omega
      · have HN := Lib.hid (numN_yes hv)
        have hor := or_walk l k (by omega)
        go_wp2
        go_round
        case rel => exact ⟨k + 1, by omega, by rw [HN.out]; simp, by go_num⟩
        case measure => simp [intOf]; omega
    · obtain rfl : k = 64 := by omega
      go_wp2
      go_ret
      exact ⟨rfl, rfl⟩

set_option maxHeartbeats 1000000 in
theorem ref_Num_le (A : Option Addr) (ca : Nat) (l : List Bool) (w : World) (h : RB w w.heap.size A l) (hl : l.length ≤ 64) :
    Calls Try.prog 13 #[.slice A l.length ca] w fun r w' => r = .returned (.int .u64 (numN l l.length)) ∧ w = w' := by
  have H := Lib.hid h
  clear h
  go_enter Try.func13, Try.ntmps13
  go_wp2
  go_loop [3, 4, 5] (fun a c i => ∃ k : Nat, k ≤ l.length ∧ a = .int .u64 (numN l k) ∧ c = .int .u64 (IntKind.u64.wrap (2 ^ k)) ∧ i = .int .i64 k) (fun _ _ i => l.length - (intOf i).toNat)
  case atStart => exact ⟨0, Nat.zero_le _, rfl, by rw [IntKind.wrap_u64]; rfl, rfl⟩
  case round =>
    obtain ⟨k, hk, rfl, rfl, rfl⟩ := hrel
    by_cases hlt : k < l.length
    · obtain ⟨g, o, rfl, hg, hc⟩ := H.out (by omega)
      have e1 := hc k (by omega)
      have h1' : (k : Int) < (l.length : Int) := by omega
      have h0' : (0 : Int) ≤ (k : Int) := by omega
      have hk64 : (k : Int) < 64 := by omega
      have h1 := numN_lt l k
      have h2 := pow_le (j := k) (k := 63) (by omega)
      have e : IntKind.u64.wrap ((2 : Int) ^ k) = ((2 ^ k : Nat) : Int) := by
        have : ((2 : Int) ^ k) = ((2 ^ k : Nat) : Int) := by simp
        rw [this, IntKind.wrap_u64, Int.emod_eq_of_lt (by omega) (by omega)]
      have hd : IntKind.u64.wrap (2 * ((2 ^ k : Nat) : Int)) = IntKind.u64.wrap (2 ^ (k + 1)) := by
        congr 1; rw [Int.pow_succ]; simp; omega
      have HD := Lib.hid hd
      rw [e]
      generalize hP : (2 : Nat) ^ k = P at *
      have HP := Lib.hid hP
      clear hc e hd hP
      cases hv : lb l k
      · have HN := Lib.hid (numN_no hv)
        go_wp2
        go_round
        case rel => exact ⟨k + 1, by omega, by rw [HN.out], by rw [← HD.out], by go_num⟩
        case measure => simp [intOf]; omega
      · have hy := numN_yes hv
        rw [HP.out] at hy
        have HN := Lib.hid hy
        clear hy
        go_wp2
        go_round
        case rel => exact ⟨k + 1, by omega, by rw [HN.out]; go_num, by rw [← HD.out], by go_num⟩
        case measure => simp [intOf]; omega
    · obtain rfl : k = l.length := by omega
      go_wp2
      go_ret
      exact ⟨rfl, rfl⟩

set_option maxHeartbeats 1000000 in
theorem ref_Num_gt (A : Option Addr) (ca : Nat) (l : List Bool) (w : World) (h : RB w w.heap.size A l) (hl : l.length ≤ 1000000000000) (h64 : 64 < l.length) :
    Calls Try.prog 13 #[.slice A l.length ca] w fun r w' => r = .returned (.int .u64 (numN l 64)) ∧ w = w' := by
  have H := Lib.hid h
  clear h
  go_enter Try.func13, Try.ntmps13
  go_wp2
  go_loop [3, 4, 5] (fun a c i => ∃ k : Nat, k ≤ 64 ∧ a = .int .u64 (numN l k) ∧ c = .int .u64 (IntKind.u64.wrap (2 ^ k)) ∧ i = .int .i64 k) (fun _ _ i => 64 - (intOf i).toNat)
  case atStart => exact ⟨0, Nat.zero_le _, rfl, by rw [IntKind.wrap_u64]; rfl, rfl⟩
  case round =>
    obtain ⟨k, hk, rfl, rfl, rfl⟩ := hrel
    by_cases hlt : k < 64
    · obtain ⟨g, o, rfl, hg, hc⟩ := H.out (by omega)
      have e1 := hc k (by omega)
      have h1' : (k : Int) < (l.length : Int) := by omega
      have h0' : (0 : Int) ≤ (k : Int) := by omega
      have hk64 : (k : Int) < 64 := by omega
      have h1 := numN_lt l k
      have h2 := pow_le (j := k) (k := 63) (by omega)
      have e : IntKind.u64.wrap ((2 : Int) ^ k) = ((2 ^ k : Nat) : Int) := by
        have : ((2 : Int) ^ k) = ((2 ^ k : Nat) : Int) := by simp
        rw [this, IntKind.wrap_u64, Int.emod_eq_of_lt (by omega) (by omega)]
      have hd : IntKind.u64.wrap (2 * ((2 ^ k : Nat) : Int)) = IntKind.u64.wrap (2 ^ (k + 1)) := by
        congr 1; rw [Int.pow_succ]; simp; omega
      have HD := Lib.hid hd
      rw [e]
      generalize hP : (2 : Nat) ^ k = P at *
      have HP := Lib.hid hP
      clear hc e hd hP
      cases hv : lb l k
      · have HN := Lib.hid (numN_no hv)
        go_wp2
        go_round
        case rel => exact ⟨k + 1, by omega, by rw [HN.out], by rw [← HD.out], by go_num⟩
        case measure => simp [intOf]; omega
      · have hy := numN_yes hv
        rw [HP.out] at hy
        have HN := Lib.hid hy
        clear hy
        go_wp2
        go_round
        case rel => exact ⟨k + 1, by omega, by rw [HN.out]; go_num, by rw [← HD.out], by go_num⟩
        case measure => simp [intOf]; omega
    · obtain rfl : k = 64 := by omega
      go_wp2
      go_ret
      exact ⟨rfl, rfl⟩
end Go.Proofs.Yteoijhmaklocpaa
