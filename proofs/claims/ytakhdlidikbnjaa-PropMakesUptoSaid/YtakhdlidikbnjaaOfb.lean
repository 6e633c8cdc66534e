/- Contracts of Of of layer 2 (bits), over the translation. -/
import Derived.Test.YtakhdlidikbnjaaBls
namespace Go.Proofs.Ytakhdlidikbnjaa
open Go.RowKit

def bitN (n i : Nat) : Bool := decide (n / 2 ^ i % 2 = 1)
def ofL (n k : Nat) : List Bool := (List.range k).map (bitN n)
theorem ofL_len (n k : Nat) : (ofL n k).length = k := by unfold ofL; simp
theorem ofL_succ (n k : Nat) : ofL n (k + 1) = ofL n k ++ [bitN n k] := by unfold ofL; rw [List.range_succ]; simp
def part (n K k : Nat) : List Bool := ofL n k ++ List.replicate (K - k) false
theorem part_zero (n K : Nat) : part n K 0 = List.replicate K false := by unfold part ofL; simp
theorem part_all (n K : Nat) : part n K K = ofL n K := by unfold part; simp
theorem part_len {n K k : Nat} (h : k ≤ K) : (part n K k).length = K := by unfold part; rw [List.length_append, ofL_len, List.length_replicate]; omega
theorem part_set {n K k : Nat} (h : k < K) : (part n K k).set k (bitN n k) = part n K (k + 1) := by
  unfold part
  rw [ofL_succ, show K - k = (K - (k + 1)) + 1 by omega, List.replicate_succ, List.set_append]
  simp [ofL_len]

theorem bit_walk (n k : Nat) (hn : n ≤ 18446744073709551615) : (bits BinOp.and IntKind.u64 ((n : Int) / 2 ^ k) 1 == 1) = bitN n k := by
  have e : ((n : Int) / 2 ^ k) = ((n / 2 ^ k : Nat) : Int) := by rw [Int.natCast_ediv]; simp
  have hle : n / 2 ^ k ≤ n := Nat.div_le_self _ _
  have h := u64_and_nat (n / 2 ^ k) 1 (by omega) (by omega)
  rw [e]
  have e1 : ((1 : Nat) : Int) = 1 := rfl
  rw [e1] at h
  rw [h, Nat.and_one_is_mod]
  unfold bitN
  apply Bool.eq_iff_iff.2
  simp
  omega
set_option maxHeartbeats 1000000 in
theorem bits_Of_in (n K : Nat) (w : World) (hn : n ≤ 18446744073709551615) (hK : K ≤ 64) :
    Calls Try.prog 54 #[.int .u64 (n : Int), .int .i64 (K : Int)] w fun r w' => ∃ g, r = .returned (.slice (some ⟨g, 0, none⟩) K K) ∧ Blk w' g 4 (boolRow (ofL n K)) ∧ w.heap.size ≤ g ∧ Below w.heap.size w w' := by
  have hmk := run_mkB K (by omega)
  go_enter Try.func54, Try.ntmps54
  go_wp2
  go_loopw [13] (fun i wr => ∃ k : Nat, k ≤ K ∧ i = .int .i64 k ∧ Blk wr w.heap.size 4 (boolRow (part n K k)) ∧ Below w.heap.size w wr) (fun i _ => K - (intOf i).toNat)
  case atStart => exact ⟨0, Nat.zero_le _, rfl, by rw [part_zero]; exact Blk.new _ _ _, (Below.refl _ _).alloc (Nat.le_refl _) _⟩
  case round =>
    obtain ⟨k, hk, rfl, hB, hb⟩ := hrel
    by_cases hlt : k < K
    · have hcell : wr.cell? ⟨w.heap.size, k, none⟩ = some (.bool (lb (part n K k) k)) := by rw [hB.cell]; exact boolRow_at (by rw [part_len hk]; exact hlt)
      have hfz := hB.frozen k
      have HB : Hid (Blk (wr.setCell ⟨w.heap.size, k, none⟩ (.bool (bitN n k))) w.heap.size 4 (boolRow (part n K (k + 1)))) := by
        have := hB.set_ k (.bool (bitN n k)); rw [boolRow_set, part_set hlt] at this; exact this
      have hlt2 : w.heap.size < wr.heap.size := hB.lt
      have hbit := bit_walk n k hn
      clear hB hmk
      go_wp2
      go_roundw
      case rel => exact ⟨k + 1, by omega, by go_num, HB.out, hb.setCell (p := ⟨w.heap.size, k, none⟩) (Nat.le_refl _) _⟩
      case measure => simp [intOf]; omega
    · obtain rfl : k = K := by omega
      rw [part_all] at hB
      have HB := Lib.hid hB
      clear hB hmk
      go_wp2
      go_ret
      exact ⟨_, rfl, HB.out, Nat.le_refl _, hb⟩

def clampN (m : Int) : Nat := if m < 0 then 0 else if 64 < m then 64 else m.toNat
theorem clampN_le (m : Int) : clampN m ≤ 64 := by unfold clampN; split; omega; split <;> omega
set_option maxHeartbeats 1000000 in
theorem bits_Of (n : Nat) (m : Int) (w : World) (hn : n ≤ 18446744073709551615) :
    Calls Try.prog 54 #[.int .u64 (n : Int), .int .i64 m] w fun r w' => ∃ g, r = .returned (.slice (some ⟨g, 0, none⟩) (clampN m) (clampN m)) ∧ Blk w' g 4 (boolRow (ofL n (clampN m))) ∧ w.heap.size ≤ g ∧ Below w.heap.size w w' := by
  by_cases h0 : m < 0
  · have e : clampN m = 0 := by unfold clampN; rw [if_pos h0]
    rw [e]
    clear e
    have hmk := run_mkB 0 (by omega)
    simp only [Int.natCast_zero] at hmk
    have e0 : boolRow (List.replicate 0 false) = boolRow (ofL n 0) := rfl
    rw [e0] at hmk
    go_enter Try.func54, Try.ntmps54
    go_wp2
    go_loopw [13] (fun i wr => i = .int .i64 0 ∧ Blk wr w.heap.size 4 (boolRow (ofL n 0)) ∧ Below w.heap.size w wr) (fun _ _ => 0)
    case atStart => exact ⟨rfl, Blk.new _ _ _, (Below.refl _ _).alloc (Nat.le_refl _) _⟩
    case round =>
      obtain ⟨rfl, hB, hb⟩ := hrel
      have HB := Lib.hid hB
      clear hB hmk
      go_wp2
      go_ret
      exact ⟨_, rfl, HB.out, Nat.le_refl _, hb⟩
  · by_cases h1 : 64 < m
    · have e : clampN m = 64 := by unfold clampN; rw [if_neg h0, if_pos h1]
      rw [e]
      clear e
      have hmk := run_mkB 64 (by omega)
      have e64 : ((64 : Nat) : Int) = 64 := rfl
      rw [e64] at hmk
      go_enter Try.func54, Try.ntmps54
      go_wp2
      go_loopw [13] (fun i wr => ∃ k : Nat, k ≤ 64 ∧ i = .int .i64 k ∧ Blk wr w.heap.size 4 (boolRow (part n 64 k)) ∧ Below w.heap.size w wr) (fun i _ => 64 - (intOf i).toNat)
      case atStart => exact ⟨0, Nat.zero_le _, rfl, by rw [part_zero]; exact Blk.new _ _ _, (Below.refl _ _).alloc (Nat.le_refl _) _⟩
      case round =>
        obtain ⟨k, hk, rfl, hB, hb⟩ := hrel
        by_cases hlt : k < 64
        · have hcell : wr.cell? ⟨w.heap.size, k, none⟩ = some (.bool (lb (part n 64 k) k)) := by rw [hB.cell]; exact boolRow_at (by rw [part_len hk]; exact hlt)
          have hfz := hB.frozen k
          have HB : Hid (Blk (wr.setCell ⟨w.heap.size, k, none⟩ (.bool (bitN n k))) w.heap.size 4 (boolRow (part n 64 (k + 1)))) := by
            have := hB.set_ k (.bool (bitN n k)); rw [boolRow_set, part_set hlt] at this; exact this
          have hlt2 : w.heap.size < wr.heap.size := hB.lt
          have hbit := bit_walk n k hn
          clear hB hmk
          go_wp2
          go_roundw
          case rel => exact ⟨k + 1, by omega, by go_num, HB.out, hb.setCell (p := ⟨w.heap.size, k, none⟩) (Nat.le_refl _) _⟩
          case measure => simp [intOf]; omega
        · obtain rfl : k = 64 := by omega
          rw [part_all] at hB
          have HB := Lib.hid hB
          clear hB hmk
          go_wp2
          go_ret
          exact ⟨_, rfl, HB.out, Nat.le_refl _, hb⟩
    · obtain ⟨K, rfl⟩ := Int.eq_ofNat_of_zero_le (by omega : 0 ≤ m)
      have e : clampN (K : Int) = K := by unfold clampN; rw [if_neg h0, if_neg h1]; simp
      rw [e]
      exact bits_Of_in n K w hn (by omega)
end Go.Proofs.Ytakhdlidikbnjaa
