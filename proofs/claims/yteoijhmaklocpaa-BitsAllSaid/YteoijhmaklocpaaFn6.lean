/- Contracts of Parse of layer 2 (bits), over the translation. -/
import Derived.Test.YteoijhmaklocpaaBase
namespace Go.Proofs.Yteoijhmaklocpaa
open Go.RowKit Go.PlainAid

/-- The first k bytes are 0 or 1. -/
def BinTo (s : ByteArray) (k : Nat) : Prop := ∀ i, i < k → bt s i = 48 ∨ bt s i = 49
def binL (s : ByteArray) (k : Nat) : List Bool := (List.range k).map fun i => bt s i == 49
theorem binL_len (s : ByteArray) (k : Nat) : (binL s k).length = k := by unfold binL; simp
theorem binL_succ (s : ByteArray) (k : Nat) : binL s (k + 1) = binL s k ++ [bt s k == 49] := by unfold binL; rw [List.range_succ]; simp
def bp (s : ByteArray) (k : Nat) : List Bool := binL s k ++ List.replicate (s.size - k) false
theorem bp_zero (s : ByteArray) : bp s 0 = List.replicate s.size false := by unfold bp binL; simp
theorem bp_all (s : ByteArray) : bp s s.size = binL s s.size := by unfold bp; simp
theorem bp_len {s : ByteArray} {k : Nat} (h : k ≤ s.size) : (bp s k).length = s.size := by unfold bp; rw [List.length_append, binL_len, List.length_replicate]; omega
theorem bp_set {s : ByteArray} {k : Nat} (h : k < s.size) : (bp s k).set k (bt s k == 49) = bp s (k + 1) := by
  unfold bp
  rw [binL_succ, show s.size - k = (s.size - (k + 1)) + 1 by omega, List.replicate_succ, List.set_append]
  simp [binL_len]

set_option maxHeartbeats 1000000 in
theorem bits_Parse_ok (s : ByteArray) (w : World) (hs : s.size ≤ 4096) (hbin : BinTo s s.size) :
    Calls Try.prog 20 #[.string s] w fun r w' => ∃ g, r = .returned (.tuple #[.slice (some ⟨g, 0, none⟩) s.size s.size, .int .i64 0]) ∧ Blk w' g 4 (boolRow (binL s s.size)) ∧ w.heap.size ≤ g ∧ Below w.heap.size w w' := by
  have hmk := run_mk s.size (by omega)
  have hb := get_bt s
  have HBIN := Lib.hid hbin
  clear hbin
  go_enter Try.func20, Try.ntmps20
  go_wp2
  go_loopw [2, 13] (fun v i wr => ∃ k : Nat, k ≤ s.size ∧ v = .slice (some ⟨w.heap.size, 0, none⟩) s.size s.size ∧ i = .int .i64 k ∧ Blk wr w.heap.size 4 (boolRow (bp s k)) ∧ Below w.heap.size w wr) (fun _ i _ => s.size - (intOf i).toNat)
  case atStart => exact ⟨0, Nat.zero_le _, rfl, rfl, by rw [bp_zero]; exact Blk.new _ _ _, (Below.refl _ _).alloc (Nat.le_refl _) _⟩
  case round =>
    obtain ⟨k, hk, rfl, rfl, hB, hbw⟩ := hrel
    by_cases hlt : k < s.size
    · have hcell : wr.cell? ⟨w.heap.size, k, none⟩ = some (.bool (lb (bp s k) k)) := by rw [hB.cell, boolRow_at (by rw [bp_len hk]; exact hlt)]
      have hfz := hB.frozen k
      have hlt2 : w.heap.size < wr.heap.size := hB.lt
      have HB : Hid (Blk (wr.setCell ⟨w.heap.size, k, none⟩ (.bool (bt s k == 49))) w.heap.size 4 (boolRow (bp s (k + 1)))) := by
        have := hB.set_ k (.bool (bt s k == 49)); rw [boolRow_set, bp_set hlt] at this; exact this
      have hlt' : (k : Int) < (s.size : Int) := by omega
      clear hB hmk
      rcases HBIN.out k hlt with hv | hv
      · have h48 : (bt s k == 48) = true := by simp [hv]
        have h48n : (bt s k != 48) = false := by simp [hv]
        have h49 : (bt s k == 49) = false := by simp [hv]
        have h49n : (bt s k != 49) = true := by simp [hv]
        rw [h49] at HB
        clear hv
        go_wp2
        go_roundw
        case rel => exact ⟨k + 1, by omega, rfl, by go_num, HB.out, hbw.setCell (p := ⟨w.heap.size, k, none⟩) (Nat.le_refl _) _⟩
        case measure => simp [intOf]; omega
      · have h48 : (bt s k == 48) = false := by simp [hv]
        have h48n : (bt s k != 48) = true := by simp [hv]
        have h49 : (bt s k == 49) = true := by simp [hv]
        have h49n : (bt s k != 49) = false := by simp [hv]
        rw [h49] at HB
        clear hv
        go_wp2
        go_roundw
        case rel => exact ⟨k + 1, by omega, rfl, by go_num, HB.out, hbw.setCell (p := ⟨w.heap.size, k, none⟩) (Nat.le_refl _) _⟩
        case measure => simp [intOf]; omega
    · obtain rfl : k = s.size := by omega
      rw [bp_all] at hB
      have HB := Lib.hid hB
      clear hB hmk
      go_wp2
      go_ret2
      exact ⟨_, rfl, HB.out, Nat.le_refl _, hbw⟩
set_option maxHeartbeats 1000000 in
theorem bits_Parse_bad (s : ByteArray) (w : World) (hs : s.size ≤ 4096) (hbin : ¬ BinTo s s.size) :
    Calls Try.prog 20 #[.string s] w fun r w' => r = .returned (.tuple #[.slice none 0 0, .int .i64 3]) ∧ Below w.heap.size w w' := by
  have hmk := run_mk s.size (by omega)
  have hb := get_bt s
  have HBIN := Lib.hid hbin
  clear hbin
  go_enter Try.func20, Try.ntmps20
  go_wp2
  go_loopw [2, 13] (fun v i wr => ∃ k : Nat, k ≤ s.size ∧ BinTo s k ∧ v = .slice (some ⟨w.heap.size, 0, none⟩) s.size s.size ∧ i = .int .i64 k ∧ Blk wr w.heap.size 4 (boolRow (bp s k)) ∧ Below w.heap.size w wr) (fun _ i _ => s.size - (intOf i).toNat)
  case atStart => exact ⟨0, Nat.zero_le _, fun _ h => absurd h (by omega), rfl, rfl, by rw [bp_zero]; exact Blk.new _ _ _, (Below.refl _ _).alloc (Nat.le_refl _) _⟩
  case round =>
    obtain ⟨k, hk, hpre, rfl, rfl, hB, hbw⟩ := hrel
    have HP := Lib.hid hpre
    clear hpre
    by_cases hlt : k < s.size
    · have hcell : wr.cell? ⟨w.heap.size, k, none⟩ = some (.bool (lb (bp s k) k)) := by rw [hB.cell, boolRow_at (by rw [bp_len hk]; exact hlt)]
      have hfz := hB.frozen k
      have hlt2 : w.heap.size < wr.heap.size := hB.lt
      have HB : Hid (Blk (wr.setCell ⟨w.heap.size, k, none⟩ (.bool (bt s k == 49))) w.heap.size 4 (boolRow (bp s (k + 1)))) := by
        have := hB.set_ k (.bool (bt s k == 49)); rw [boolRow_set, bp_set hlt] at this; exact this
      have hlt' : (k : Int) < (s.size : Int) := by omega
      clear hB hmk
      have h3 : bt s k = 48 ∨ bt s k = 49 ∨ (bt s k ≠ 48 ∧ bt s k ≠ 49) := by omega
      have HP2 : bt s k = 48 ∨ bt s k = 49 → Hid (BinTo s (k + 1)) := fun h i hi => by
        by_cases e : i = k
        · rw [e]; exact h
        · exact HP.out i (by omega)
      rcases h3 with hv | hv | ⟨hv, hv2⟩
      · have HP2 := HP2 (.inl hv)
        have h48 : (bt s k == 48) = true := by simp [hv]
        have h48n : (bt s k != 48) = false := by simp [hv]
        have h49 : (bt s k == 49) = false := by simp [hv]
        have h49n : (bt s k != 49) = true := by simp [hv]
        rw [h49] at HB
        clear hv
        go_wp2
        go_roundw
        case rel => exact ⟨k + 1, by omega, HP2.out, rfl, by go_num, HB.out, hbw.setCell (p := ⟨w.heap.size, k, none⟩) (Nat.le_refl _) _⟩
        case measure => simp [intOf]; omega
      · have HP2 := HP2 (.inr hv)
        have h48 : (bt s k == 48) = false := by simp [hv]
        have h48n : (bt s k != 48) = true := by simp [hv]
        have h49 : (bt s k == 49) = true := by simp [hv]
        have h49n : (bt s k != 49) = false := by simp [hv]
        rw [h49] at HB
        clear hv
        go_wp2
        go_roundw
        case rel => exact ⟨k + 1, by omega, HP2.out, rfl, by go_num, HB.out, hbw.setCell (p := ⟨w.heap.size, k, none⟩) (Nat.le_refl _) _⟩
        case measure => simp [intOf]; omega
      · have h48 : (bt s k == 48) = false := by simp [hv]
        have h48n : (bt s k != 48) = true := by simp [hv]
        have h49 : (bt s k == 49) = false := by simp [hv2]
        have h49n : (bt s k != 49) = true := by simp [hv2]
        clear hv hv2 HP2 HB
        go_wp2
        go_ret2
        exact ⟨rfl, hbw⟩
    · obtain rfl : k = s.size := by omega
      exact absurd HP.out HBIN.out

theorem bits_Parse_long (s : ByteArray) (w : World) (hs : 4096 < s.size) (hs2 : s.size ≤ 9223372036854775807) :
    Calls Try.prog 20 #[.string s] w fun r w' => r = .returned (.tuple #[.slice none 0 0, .int .i64 4]) ∧ Below w.heap.size w w' := by
  go_enter Try.func20, Try.ntmps20
  go_wp2
  go_ret2
  exact ⟨rfl, Below.refl _ _⟩
end Go.Proofs.Yteoijhmaklocpaa
