/- Contracts of Bits of layer 1 (num) and of its specification, over the translation. -/
import Derived.Test.YtfikodeghjlhcaaFns
namespace Go.Proofs.Ytfikodeghjlhcaa
open Go.RowKit

/-- The least k with 2^k ≥ n. -/
def bitsF (n : Int) : Nat := if n ≤ 1 then 0 else Nat.log2 (n.toNat - 1) + 1
theorem bits_iff (n : Int) (k : Nat) : n ≤ dbl k ↔ bitsF n ≤ k := by
  unfold bitsF
  split
  · have := dbl_pos k; omega
  · have h0 : n.toNat - 1 ≠ 0 := by omega
    have h := Nat.log2_lt (k := k) h0
    have e : dbl k = ((2 ^ k : Nat) : Int) := by unfold dbl; simp
    rw [e]
    constructor
    · intro hh; have := h.2 (by omega); omega
    · intro hh; have := h.1 (by omega); omega
theorem bits_half {m : Int} (h : 1 < m) : bitsF m = bitsF (m / 2 + m % 2) + 1 := by
  have key : ∀ k, bitsF m ≤ k + 1 ↔ bitsF (m / 2 + m % 2) ≤ k := fun k => by
    rw [← bits_iff, ← bits_iff, dbl_succ]; omega
  have h1 : 1 ≤ bitsF m := by
    have := bits_iff m 0
    rw [dbl_zero] at this
    omega
  have a := (key (bitsF m - 1)).1 (by omega)
  have b := (key (bitsF (m / 2 + m % 2))).2 (Nat.le_refl _)
  omega
theorem bits_small {m : Int} (h : m ≤ 1) : bitsF m = 0 := by unfold bitsF; rw [if_pos h]
theorem bits_le {n : Int} (h : n ≤ 9223372036854775807) : bitsF n ≤ 63 := by
  rw [← bits_iff]; have : dbl 63 = 9223372036854775808 := by decide
  omega

theorem ref_Bits (n : Int) (w : World) (n1 : -9223372036854775808 ≤ n) (n2 : n ≤ 9223372036854775807) :
    Calls Try.prog 15 #[.int .i64 n] w fun r w' => r = .returned (.int .i64 (bitsF n)) ∧ w = w' := by
  have hb := bits_le n2
  go_enter Try.func15, Try.ntmps15
  go_wp2
  go_loop [0, 3] (fun x k => ∃ (m : Int) (j : Nat), m ≤ 9223372036854775807 ∧ -9223372036854775808 ≤ m ∧ bitsF m + j = bitsF n ∧ x = .int .i64 m ∧ k = .int .i64 j) (fun _ k => bitsF n - (intOf k).toNat)
  case atStart => exact ⟨n, 0, n2, n1, by omega, rfl, rfl⟩
  case round =>
    obtain ⟨m, j, hm, hm0, hj, rfl, rfl⟩ := hrel
    by_cases hlt : 1 < m
    · have hh := bits_half hlt
      have HH := Lib.hid hh
      have HJ := Lib.hid hj
      have hj63 : j ≤ 63 := by omega
      clear hh hj
      go_wp2
      go_round
      case rel => exact ⟨m / 2 + m % 2, j + 1, by omega, by omega, by have := HH.out; have := HJ.out; omega, rfl, by go_num⟩
      case measure => have := HH.out; have := HJ.out; simp [intOf]; omega
    · have hs := bits_small (m := m) (by omega)
      have hjj : (j : Int) = (bitsF n : Int) := by omega
      have HJ := Lib.hid hjj
      clear hs hj hjj hb
      go_wp2
      go_ret
      exact ⟨ret_i HJ.out, rfl⟩
theorem num_Bits (n : Int) (w : World) (n1 : -9223372036854775808 ≤ n) (n2 : n ≤ 9223372036854775807) :
    Calls Try.prog 14 #[.int .i64 n] w fun r w' => r = .returned (.int .i64 (bitsF n)) ∧ w = w' := by
  have hb := bits_le n2
  go_enter Try.func14, Try.ntmps14
  go_wp2
  go_loop [4] (fun k => ∃ j : Nat, j ≤ 63 ∧ j ≤ bitsF n ∧ k = .int .i64 j) (fun k => 63 - (intOf k).toNat)
  case atStart => exact ⟨0, by omega, by omega, rfl⟩
  case round =>
    obtain ⟨j, hj, hj2, rfl⟩ := hrel
    have hi := bits_iff n j
    have hp := dbl_pos j
    by_cases hlt : j < 63
    · have hm := dbl_le (j := j) (k := 62) (by omega)
      have e62 : dbl 62 = 4611686018427387904 := by decide
      have hw : wrap64 (2 ^ j) = dbl j := IntWalk.wrap64_in _ ⟨by show _ ≤ dbl j; omega, by show dbl j ≤ _; omega⟩
      clear e62
      by_cases hd : n ≤ dbl j
      · have hjj : (j : Int) = (bitsF n : Int) := by have := hi.1 hd; omega
        have HJ := Lib.hid hjj
        clear hjj hi
        go_wp2
        go_ret
        exact ⟨ret_i HJ.out, rfl⟩
      · have hjj : ¬ bitsF n ≤ j := fun h => hd (hi.2 h)
        clear hi
        go_wp2
        go_round
        case rel => exact ⟨j + 1, by omega, by omega, by go_num⟩
        case measure => simp [intOf]; omega
    · have hjj : (63 : Int) = (bitsF n : Int) := by omega
      have HJ := Lib.hid hjj
      clear hjj hi
      go_wp2
      go_ret
      exact ⟨ret_i HJ.out, rfl⟩
end Go.Proofs.Ytfikodeghjlhcaa
