/- Contracts of Text of layer 2 (bits), over the translation. -/
import Derived.Test.YteoijhmaklocpaaBase
namespace Go.Proofs.Yteoijhmaklocpaa
open Go.RowKit

theorem info5 : (Try.prog.info? 5).map (fun i => (i.zero, i.size, i.bytes)) = some (some (.int .u8 0), 1, 1) := by kernel_rfl
def byteRow (l : List Int) : Array Value := (l.map (Value.int .u8)).toArray
theorem byteRow_at {l : List Int} {i : Nat} (h : i < l.length) : (byteRow l)[i]? = some (.int .u8 (l.getD i 0)) := by
  unfold byteRow; simp [h]
theorem byteRow_set (l : List Int) (i : Nat) (b : Int) : (byteRow l).setIfInBounds i (.int .u8 b) = byteRow (l.set i b) := by
  unfold byteRow; simp
theorem made_bytes (n : Nat) : madeCells #[Value.int .u8 0] n = byteRow (List.replicate n 0) := by
  unfold madeCells byteRow
  apply Array.ext
  · simp
  · intro i h1 h2
    simp
    rw [Nat.mod_one]; rfl
theorem run_mk8 (n : Nat) (hn : n ≤ 1000000000000) (w : World) : (Instr.makeSlice 46 (.int .i64 (n : Int)) (.int .i64 (n : Int))).run Try.prog w = .ok (.slice (some ⟨w.heap.size, 0, none⟩) n n) (w.alloc (.cells (byteRow (List.replicate n 0)) 5)) := by
  obtain ⟨i, hi, hz0, hz1, hz2⟩ := info_parts info5
  have h := run_make (P := Try.prog) w 46 5 i _ Try.underlying46 hi hz0 .i64 .i64 n n (by omega) (by omega) (by rw [hz2]; omega) (by omega)
  rw [hz1] at h
  simp only [Int.toNat_natCast, Nat.mul_one] at h
  rw [h]
  have e : (Value.int .u8 0).cells = #[Value.int .u8 0] := rfl
  rw [e, made_bytes]
theorem run_str (w : World) (g : Nat) (ds : List Int) (c : Nat) (hB : Blk w g 5 (byteRow ds)) :
    (convert 46 9 (.slice (some ⟨g, 0, none⟩) ds.length c)).run Try.prog w = .ok (.string (strOfNums ds)) w :=
  run_convert_bytes_arg w 46 5 Try.underlying46 Try.underlying5 g 0 ds.length c ds rfl (fun i hi => by rw [hB.cell, Nat.zero_add, byteRow_at hi]) 9 Try.underlying9

def ch (b : Bool) : Int := if b = true then 49 else 48
def textL (l : List Bool) : List Int := l.map ch
def tx (l : List Bool) (k : Nat) : List Int := textL (l.take k) ++ List.replicate (l.length - k) 0
theorem textL_len (l : List Bool) : (textL l).length = l.length := by unfold textL; simp
theorem tx_zero (l : List Bool) : tx l 0 = List.replicate l.length 0 := by unfold tx textL; simp
theorem tx_all (l : List Bool) : tx l l.length = textL l := by unfold tx; simp
theorem tx_len {l : List Bool} {k : Nat} (h : k ≤ l.length) : (tx l k).length = l.length := by unfold tx; rw [List.length_append, textL_len, List.length_take, List.length_replicate]; omega
theorem tx_set {l : List Bool} {k : Nat} (h : k < l.length) : (tx l k).set k (ch (lb l k)) = tx l (k + 1) := by
  unfold tx
  have e : l.take (k + 1) = l.take k ++ [lb l k] := by
    rw [List.take_succ_eq_append_getElem h]; unfold lb; simp [List.getD, List.getElem?_eq_getElem h]
  rw [e, show l.length - k = (l.length - (k + 1)) + 1 by omega, List.replicate_succ, List.set_append]
  simp [textL, Nat.min_eq_left (Nat.le_of_lt h)]
theorem tx_set2 (l : List Bool) (k : Nat) (a b : Int) : ((tx l k).set k a).set k b = (tx l k).set k b := by simp

set_option maxHeartbeats 1000000 in
theorem bits_Text (A : Option Addr) (ca : Nat) (l : List Bool) (w : World) (h : RB w w.heap.size A l) (hl : l.length ≤ 1000000000000) :
    Calls Try.prog 16 #[.slice A l.length ca] w fun r w' => r = .returned (.string (strOfNums (textL l))) ∧ Below w.heap.size w w' := by
  have H := Lib.hid h
  have hmk := run_mk8 l.length hl
  clear h
  go_enter Try.func16, Try.ntmps16
  go_wp2
  go_loopw [11] (fun i wr => ∃ k : Nat, k ≤ l.length ∧ i = .int .i64 k ∧ Blk wr w.heap.size 5 (byteRow (tx l k)) ∧ Below w.heap.size w wr) (fun i _ => l.length - (intOf i).toNat)
  case atStart => exact ⟨0, Nat.zero_le _, rfl, by rw [tx_zero]; exact Blk.new _ _ _, (Below.refl _ _).alloc (Nat.le_refl _) _⟩
  case round =>
    obtain ⟨k, hk, rfl, hB, hb⟩ := hrel
    by_cases hlt : k < l.length
    · obtain ⟨g, o, rfl, hg, hc⟩ := (H.out.below hb) (by omega)
      have e1 := hc k hlt
      have hcell : wr.cell? ⟨w.heap.size, k, none⟩ = some (.int .u8 ((tx l k).getD k 0)) := by rw [hB.cell, byteRow_at (by rw [tx_len hk]; exact hlt)]
      have hfz := hB.frozen k
      have hlt2 : w.heap.size < wr.heap.size := hB.lt
      have hlt' : (k : Int) < (l.length : Int) := by omega
      have hset := tx_set hlt
      clear hc
      cases hv : lb l k
      · have HB : Hid (Blk (wr.setCell ⟨w.heap.size, k, none⟩ (.int .u8 48)) w.heap.size 5 (byteRow (tx l (k + 1)))) := by
          have := hB.set_ k (.int .u8 48); rw [byteRow_set] at this; rw [← hset, hv]; exact this
        rw [hv] at e1
        clear hB hset hmk
        go_wp2
        go_roundw
        case rel => exact ⟨k + 1, by omega, by go_num, HB.out, hb.setCell (p := ⟨w.heap.size, k, none⟩) (Nat.le_refl _) _⟩
        case measure => simp [intOf]; omega
      · have hB2 := hB.set_ k (.int .u8 48)
        rw [byteRow_set] at hB2
        have hB3 := hB2.set_ k (.int .u8 49)
        rw [byteRow_set, tx_set2] at hB3
        have HB : Hid (Blk ((wr.setCell ⟨w.heap.size, k, none⟩ (.int .u8 48)).setCell ⟨w.heap.size, k, none⟩ (.int .u8 49)) w.heap.size 5 (byteRow (tx l (k + 1)))) := by
          rw [← hset, hv]; exact hB3
        have hcell2 : (wr.setCell ⟨w.heap.size, k, none⟩ (.int .u8 48)).cell? ⟨w.heap.size, k, none⟩ = some (.int .u8 48) := by
          rw [hB2.cell, byteRow_at (by rw [List.length_set, tx_len hk]; exact hlt)]
          simp [List.getD, List.getElem?_set, tx_len hk, hlt]
        rw [hv] at e1
        clear hB hset hB2 hB3 hmk
        go_wp2
        go_roundw
        case rel => exact ⟨k + 1, by omega, by go_num, HB.out, (hb.setCell (p := ⟨w.heap.size, k, none⟩) (Nat.le_refl _) _).setCell (p := ⟨w.heap.size, k, none⟩) (Nat.le_refl _) _⟩
        case measure => simp [intOf]; omega
    · obtain rfl : k = l.length := by omega
      rw [tx_all] at hB
      have hst := run_str wr w.heap.size (textL l) l.length hB
      rw [textL_len] at hst
      clear hB hmk
      go_wp2
      go_ret
      exact ⟨rfl, hb⟩
end Go.Proofs.Yteoijhmaklocpaa
