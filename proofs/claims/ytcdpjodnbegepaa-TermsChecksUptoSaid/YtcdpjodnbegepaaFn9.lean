/- Contracts of slices.Min and slices.Max over integers, of layer 30 (terms). -/
import Derived.Test.YtcdpjodnbegepaaFn8
import Derived.Test.YtcdpjodnbegepaaInts
namespace Go.Proofs.Ytcdpjodnbegepaa
open Go.RowKit

/-- The least of the first k + 1. -/
def mnN (l : List Int) : Nat → Int
  | 0 => li l 0
  | k + 1 => if mnN l k ≤ li l (k + 1) then mnN l k else li l (k + 1)
set_option maxHeartbeats 2000000 in
theorem pr_Min (l : List Int) (A : Option Addr) (c : Nat) (w : World) (hT : RI w w.heap.size A l) (h0 : 0 < l.length) (hl : l.length ≤ 1000000000) :
    Calls Try.prog 84 #[.slice A l.length c] w fun e w' => e = .returned (.int .i64 (mnN l (l.length - 1))) ∧ w = w' := by
  obtain ⟨b, f0, rfl, hbl, hc⟩ := hT h0
  have c0 : w.cell? ⟨b, f0, none⟩ = some (.int .i64 (li l 0)) := by have := hc 0 h0; simpa using this
  have hn1 : ¬ (l.length : Int) < 1 := by omega
  have l0 : (0 : Int) < (l.length : Int) := by omega
  have HC := Lib.hid hc
  obtain ⟨R, hR⟩ : ∃ R, mnN l (l.length - 1) = R := ⟨_, rfl⟩
  have HRR := Lib.hid hR
  rw [hR]
  clear hR
  clear hc hT
  go_enter Try.func84, Try.ntmps84
  go_wp2
  go_loopw [3, 4] (fun m i wr => ∃ k : Nat, k + 1 ≤ l.length ∧ i = .int .i64 ((k : Int) + 1) ∧ m = .int .i64 (mnN l k) ∧ w = wr) (fun _ i _ => l.length - (intOf i).toNat)
  case atStart => exact ⟨0, by omega, rfl, rfl, rfl⟩
  case round =>
    obtain ⟨k, hk, rfl, rfl, rfl⟩ := hrel
    by_cases hlt : k + 1 < l.length
    · have l1 : (k : Int) + 1 < (l.length : Int) := by omega
      have d0 := HC.out (k + 1) hlt
      have l2 : (0 : Int) ≤ (k : Int) + 1 := by omega
      have e1 : ((k : Int) + 1).toNat = k + 1 := by omega
      have hs : mnN l (k + 1) = if mnN l k ≤ li l (k + 1) then mnN l k else li l (k + 1) := rfl
      generalize mnN l k = m at *
      generalize li l (k + 1) = x at *
      have HS : Hid (mnN l (k + 1) = if m ≤ x then m else x) := Lib.hid hs
      clear hs
      by_cases q : m ≤ x
      · have hy : Hid (mnN l (k + 1) = m) := Lib.hid (by rw [HS.out, if_pos q])
        go_wp2
        all_goals
          go_roundw
          case rel => exact ⟨k + 1, by omega, by go_num, by rw [hy.out] <;> (try (congr 1; omega)), by first | trivial | rfl⟩
          case measure => simp [intOf]; try omega
      · have hy : Hid (mnN l (k + 1) = x) := Lib.hid (by rw [HS.out, if_neg q])
        go_wp2
        all_goals
          go_roundw
          case rel => exact ⟨k + 1, by omega, by go_num, by rw [hy.out] <;> (try (congr 1; omega)), by first | trivial | rfl⟩
          case measure => simp [intOf]; try omega
    · have l1 : ¬ (k : Int) + 1 < (l.length : Int) := by omega
      have e : l.length - 1 = k := by omega
      rw [e] at HRR
      go_wp2
      go_ret
      exact ⟨by first | rfl | (rw [HRR.out]; rfl), by first | rfl | trivial⟩
/-- The greatest of the first k + 1. -/
def mxN (l : List Int) : Nat → Int
  | 0 => li l 0
  | k + 1 => if li l (k + 1) ≤ mxN l k then mxN l k else li l (k + 1)
set_option maxHeartbeats 2000000 in
theorem pr_Max (l : List Int) (A : Option Addr) (c : Nat) (w : World) (hT : RI w w.heap.size A l) (h0 : 0 < l.length) (hl : l.length ≤ 1000000000) :
    Calls Try.prog 85 #[.slice A l.length c] w fun e w' => e = .returned (.int .i64 (mxN l (l.length - 1))) ∧ w = w' := by
  obtain ⟨b, f0, rfl, hbl, hc⟩ := hT h0
  have c0 : w.cell? ⟨b, f0, none⟩ = some (.int .i64 (li l 0)) := by have := hc 0 h0; simpa using this
  have hn1 : ¬ (l.length : Int) < 1 := by omega
  have l0 : (0 : Int) < (l.length : Int) := by omega
  have HC := Lib.hid hc
  obtain ⟨R, hR⟩ : ∃ R, mxN l (l.length - 1) = R := ⟨_, rfl⟩
  have HRR := Lib.hid hR
  rw [hR]
  clear hR
  clear hc hT
  go_enter Try.func85, Try.ntmps85
  go_wp2
  go_loopw [3, 4] (fun m i wr => ∃ k : Nat, k + 1 ≤ l.length ∧ i = .int .i64 ((k : Int) + 1) ∧ m = .int .i64 (mxN l k) ∧ w = wr) (fun _ i _ => l.length - (intOf i).toNat)
  case atStart => exact ⟨0, by omega, rfl, rfl, rfl⟩
  case round =>
    obtain ⟨k, hk, rfl, rfl, rfl⟩ := hrel
    by_cases hlt : k + 1 < l.length
    · have l1 : (k : Int) + 1 < (l.length : Int) := by omega
      have d0 := HC.out (k + 1) hlt
      have l2 : (0 : Int) ≤ (k : Int) + 1 := by omega
      have e1 : ((k : Int) + 1).toNat = k + 1 := by omega
      have hs : mxN l (k + 1) = if li l (k + 1) ≤ mxN l k then mxN l k else li l (k + 1) := rfl
      generalize mxN l k = m at *
      generalize li l (k + 1) = x at *
      have HS : Hid (mxN l (k + 1) = if x ≤ m then m else x) := Lib.hid hs
      clear hs
      by_cases q : x ≤ m
      · have hy : Hid (mxN l (k + 1) = m) := Lib.hid (by rw [HS.out, if_pos q])
        go_wp2
        all_goals
          go_roundw
          case rel => exact ⟨k + 1, by omega, by go_num, by rw [hy.out] <;> (try (congr 1; omega)), by first | trivial | rfl⟩
          case measure => simp [intOf]; try omega
      · have hy : Hid (mxN l (k + 1) = x) := Lib.hid (by rw [HS.out, if_neg q])
        go_wp2
        all_goals
          go_roundw
          case rel => exact ⟨k + 1, by omega, by go_num, by rw [hy.out] <;> (try (congr 1; omega)), by first | trivial | rfl⟩
          case measure => simp [intOf]; try omega
    · have l1 : ¬ (k : Int) + 1 < (l.length : Int) := by omega
      have e : l.length - 1 = k := by omega
      rw [e] at HRR
      go_wp2
      go_ret
      exact ⟨by first | rfl | (rw [HRR.out]; rfl), by first | rfl | trivial⟩
end Go.Proofs.Ytcdpjodnbegepaa
