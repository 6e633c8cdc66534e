/- Contracts of Ident of layer 5 (perm), whole, and of Right of its specification, over the translation. -/
import Derived.Test.YthbcjjodinnnfaaFn5
namespace Go.Proofs.Ythbcjjodinnnfaa
open Go.RowKit

set_option maxHeartbeats 1000000 in
theorem perm_Ident (m : Int) (w : World) :
    Calls Try.prog 11 #[.int .i64 m] w fun r w' => ∃ g, r = .returned (.slice (some ⟨g, 0, none⟩) (clampN m) (clampN m)) ∧ Blk w' g 3 (intRow (idL (clampN m))) ∧ w.heap.size ≤ g ∧ Below w.heap.size w w' := by
  by_cases h0 : m < 0
  · have e : clampN m = 0 := by unfold clampN; rw [if_pos h0]
    rw [e]
    clear e
    have hmk := run_mk 0 (by omega)
    have em : ((0 : Nat) : Int) = min (max m 0) 64 := by omega
    rw [em] at hmk
    have e0 : intRow (List.replicate 0 (0 : Int)) = intRow (idL 0) := rfl
    rw [e0] at hmk
    go_enter Try.func11, Try.ntmps11
    go_wp2
    go_loopw [11] (fun i wr => i = .int .i64 0 ∧ Blk wr w.heap.size 3 (intRow (idL 0)) ∧ Below w.heap.size w wr) (fun _ _ => 0)
    case atStart => exact ⟨rfl, Blk.new _ _ _, (Below.refl _ _).alloc (Nat.le_refl _) _⟩
    case round =>
      obtain ⟨rfl, hB, hb⟩ := hrel
      have HB := Lib.hid hB
      clear hB hmk
      go_wp2
      go_ret
      exact ⟨_, rfl, HB.out, Nat.le_refl _, hb⟩
  · by_cases h1 : 64 < m
    · have e : clampN m = 64 := by unfold clampN; rw [if_neg h0, if_pos h1]
      rw [e]
      clear e
      have hmk := run_mk 64 (by omega)
      have em : ((64 : Nat) : Int) = min (max m 0) 64 := by omega
      rw [em] at hmk
      go_enter Try.func11, Try.ntmps11
      go_wp2
      go_loopw [11] (fun i wr => ∃ k : Nat, k ≤ 64 ∧ i = .int .i64 k ∧ Blk wr w.heap.size 3 (intRow (ip 64 k)) ∧ Below w.heap.size w wr) (fun i _ => 64 - (intOf i).toNat)
      case atStart => exact ⟨0, Nat.zero_le _, rfl, by rw [ip_zero]; exact Blk.new _ _ _, (Below.refl _ _).alloc (Nat.le_refl _) _⟩
      case round =>
        obtain ⟨k, hk, rfl, hB, hb⟩ := hrel
        by_cases hlt : k < 64
        · have hcell : wr.cell? ⟨w.heap.size, k, none⟩ = some (.int .i64 (li (ip 64 k) k)) := by rw [hB.cell]; exact intRow_at (by rw [ip_len hk]; exact hlt)
          have hfz := hB.frozen k
          have HB : Hid (Blk (wr.setCell ⟨w.heap.size, k, none⟩ (.int .i64 k)) w.heap.size 3 (intRow (ip 64 (k + 1)))) := by
            have := hB.set_ k (.int .i64 k); rw [intRow_set, ip_set hlt] at this; exact this
          have hlt2 : w.heap.size < wr.heap.size := hB.lt
          clear hB hmk
          go_wp2
          go_roundw
          case rel => exact ⟨k + 1, by omega, by go_num, HB.out, hb.setCell (p := ⟨w.heap.size, k, none⟩) (Nat.le_refl _) _⟩
          case measure => simp [intOf]; omega
        · obtain rfl : k = 64 := by omega
          rw [ip_all] at hB
          have HB := Lib.hid hB
          clear hB hmk
          go_wp2
          go_ret
          exact ⟨_, rfl, HB.out, Nat.le_refl _, hb⟩
    · obtain ⟨K, rfl⟩ := Int.eq_ofNat_of_zero_le (by omega : 0 ≤ m)
      have e : clampN (K : Int) = K := by unfold clampN; rw [if_neg h0, if_neg h1]; simp
      rw [e]
      exact perm_Ident_in K w (by omega)
end Go.Proofs.Ythbcjjodinnnfaa
