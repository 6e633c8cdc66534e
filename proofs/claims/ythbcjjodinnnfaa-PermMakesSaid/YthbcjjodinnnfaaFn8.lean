/- Contracts of Right of layer 5 (perm), over the translation. -/
import Derived.Test.YthbcjjodinnnfaaFn7
import Derived.RegionTactic
import Derived.ChangeAlike
import Derived.BigRegion
namespace Go.Proofs.Ythbcjjodinnnfaa
open Go.RowKit

def lb (l : List Bool) (i : Nat) : Bool := l.getD i false
def boolRow (l : List Bool) : Array Value := (l.map Value.bool).toArray
theorem boolRow_at {l : List Bool} {i : Nat} (h : i < l.length) : (boolRow l)[i]? = some (.bool (lb l i)) := by
  unfold boolRow lb; simp [h]
theorem boolRow_set (l : List Bool) (i : Nat) (b : Bool) : (boolRow l).setIfInBounds i (.bool b) = boolRow (l.set i b) := by
  unfold boolRow; simp
theorem made_bools (n : Nat) : madeCells #[Value.bool false] n = boolRow (List.replicate n false) := by
  unfold madeCells boolRow
  apply Array.ext
  · simp
  · intro i h1 h2
    simp
    rw [Nat.mod_one]; rfl
theorem info4 : (Try.prog.info? 4).map (fun i => (i.zero, i.size, i.bytes)) = some (some (.bool false), 1, 1) := by kernel_rfl
theorem run_mkb (n : Nat) (hn : n ≤ 1000000000000) (w : World) : (Instr.makeSlice 38 (.int .i64 (n : Int)) (.int .i64 (n : Int))).run Try.prog w = .ok (.slice (some ⟨w.heap.size, 0, none⟩) n n) (w.alloc (.cells (boolRow (List.replicate n false)) 4)) := by
  obtain ⟨i, hi, hz0, hz1, hz2⟩ := info_parts info4
  have h := run_make (P := Try.prog) w 38 4 i _ Try.underlying38 hi hz0 .i64 .i64 n n (by omega) (by omega) (by rw [hz2]; omega) (by omega)
  rw [hz1] at h
  simp only [Int.toNat_natCast, Nat.mul_one] at h
  rw [h]
  have e : (Value.bool false).cells = #[Value.bool false] := rfl
  rw [e, made_bools]

/-- Which of 0 .. N-1 are among the first k numbers of l. -/
def seenL (l : List Int) (N k : Nat) : List Bool := (List.range N).map fun (x : Nat) => (List.range k).any fun j => li l j == (x : Int)
theorem seen_len (l : List Int) (N k : Nat) : (seenL l N k).length = N := by unfold seenL; simp
theorem seen_at {l : List Int} {N k x : Nat} (h : x < N) : lb (seenL l N k) x = (List.range k).any fun j => li l j == (x : Int) := by
  unfold lb seenL; simp [h, List.getD]
theorem seen_zero (l : List Int) (N : Nat) : seenL l N 0 = List.replicate N false := by
  unfold seenL
  apply List.ext_getElem
  · simp
  · intro i h1 h2; simp
theorem seen_set {l : List Int} {N k x : Nat} (e : li l k = (x : Int)) : (seenL l N k).set x true = seenL l N (k + 1) := by
  unfold seenL
  apply List.ext_getElem
  · simp
  · intro i h1 h2
    simp only [List.length_set, List.length_map, List.length_range] at h1
    rw [List.getElem_set]
    simp only [List.getElem_map, List.getElem_range, List.range_succ, List.any_append, List.any_cons, List.any_nil, Bool.or_false, e]
    by_cases c : x = i
    · subst c; simp
    · rw [if_neg c]
      have : ((x : Int) == (i : Int)) = false := by simp; omega
      rw [this, Bool.or_false]
theorem seen_no {l : List Int} {k x : Nat} (e : li l k = (x : Int)) (h : ((List.range k).any fun j => li l j == (x : Int)) = false) : ∀ i, i < k → li l i ≠ li l k := fun i hi he => by
  rw [List.any_eq_false] at h
  exact h i (by simpa using hi) (by simp [he, e])
theorem seen_yes {l : List Int} {k x : Nat} (e : li l k = (x : Int)) (h : ((List.range k).any fun j => li l j == (x : Int)) = true) : ¬ ∀ i, i < k → li l i ≠ li l k := fun f => by
  rw [List.any_eq_true] at h
  obtain ⟨i, hi, he⟩ := h
  exact f i (by simpa using hi) (by rw [e]; simpa using he)
theorem array_bools : (#[Value.bool false, Value.bool false, Value.bool false, Value.bool false, Value.bool false, Value.bool false, Value.bool false, Value.bool false, Value.bool false, Value.bool false, Value.bool false, Value.bool false, Value.bool false, Value.bool false, Value.bool false, Value.bool false, Value.bool false, Value.bool false, Value.bool false, Value.bool false, Value.bool false, Value.bool false, Value.bool false, Value.bool false, Value.bool false, Value.bool false, Value.bool false, Value.bool false, Value.bool false, Value.bool false, Value.bool false, Value.bool false, Value.bool false, Value.bool false, Value.bool false, Value.bool false, Value.bool false, Value.bool false, Value.bool false, Value.bool false, Value.bool false, Value.bool false, Value.bool false, Value.bool false, Value.bool false, Value.bool false, Value.bool false, Value.bool false, Value.bool false, Value.bool false, Value.bool false, Value.bool false, Value.bool false, Value.bool false, Value.bool false, Value.bool false, Value.bool false, Value.bool false, Value.bool false, Value.bool false, Value.bool false, Value.bool false, Value.bool false, Value.bool false] : Array Value) = boolRow (List.replicate 64 false) := rfl
theorem size_alloc1 (w : World) (o : Obj) : (w.alloc o).heap.size = w.heap.size + 1 := by simp
theorem Blk.new2 (w : World) (o : Obj) (t : TypeId) (cs : Array Value) : Blk ((w.alloc o).alloc (.cells cs t)) (w.heap.size + 1) t cs := by
  have := Blk.new (w.alloc o) t cs
  rw [size_alloc1] at this; exact this

set_option maxHeartbeats 2000000 in
theorem perm_Right_s (A : Option Addr) (ca : Nat) (l : List Int) (w : World) (h : RI w w.heap.size A l) (hl : l.length ≤ 64) :
    Calls Try.prog 8 #[.slice A l.length ca] w fun r w' => r = .returned (.bool (rightB l)) ∧ Below w.heap.size w w' := by
  have H := Lib.hid h
  clear h
  have hl' : ¬ (64 : Int) < (l.length : Int) := by omega
  go_enter Try.func8, Try.ntmps8
  go_wp2
  go_loopw [18] (fun i wr => ∃ k : Nat, k ≤ l.length ∧ Hid (okTo l k) ∧ i = .int .i64 k ∧ Blk wr w.heap.size 37 (boolRow (seenL l 64 k)) ∧ Below w.heap.size w wr) (fun i _ => l.length - (intOf i).toNat)
  case atStart => exact ⟨0, Nat.zero_le _, okTo_zero l, rfl, by rw [seen_zero]; first | exact Blk.new _ _ _ | exact Blk.new2 _ _ _ _ | (rw [← array_bools]; exact Blk.new _ _ _), (Below.refl _ _).alloc (Nat.le_refl _) _⟩
  case round =>
    obtain ⟨k, hk, HV, rfl, hB, hb⟩ := hrel
    have HB := Lib.hid hB
    by_cases hlt : k < l.length
    · obtain ⟨b, o, rfl, hg, hc⟩ := H.out (by omega)
      have e1 := (hb.cell (p := ⟨b, o + k, none⟩) hg).trans (hc k hlt)
      have h1' : (k : Int) < (l.length : Int) := by omega
      clear hc
      by_cases c1 : li l k < 0
      · have HN := Lib.hid (right_no hlt (fun h => by omega))
        clear hB
        go_wp2
        go_ret
        exact ⟨by rw [HN.out]; rfl, hb⟩
      · by_cases c2 : (l.length : Int) ≤ li l k
        · have HN := Lib.hid (right_no hlt (fun h => by omega))
          clear hB
          go_wp2
          go_ret
          exact ⟨by rw [HN.out]; rfl, hb⟩
        · obtain ⟨x, hx⟩ := Int.eq_ofNat_of_zero_le (by omega : 0 ≤ li l k)
          have HX := Lib.hid hx
          rw [hx] at e1 c1 c2
          have hxl : x < l.length := by omega
          have hxl' : (x : Int) < (l.length : Int) := by omega
          have hx64 : (x : Int) < (64 : Int) := by omega
          have hcell : wr.cell? ⟨w.heap.size, x, none⟩ = some (.bool ((List.range k).any fun j => li l j == (x : Int))) := by rw [hB.cell, boolRow_at (by rw [seen_len]; omega), seen_at (by omega)]
          have hfz := hB.frozen x
          have hlt2 : w.heap.size < wr.heap.size := hB.lt
          have HB2 : Hid (Blk (wr.setCell ⟨w.heap.size, x, none⟩ (.bool true)) w.heap.size 37 (boolRow (seenL l 64 (k + 1)))) := by
            have := hB.set_ x (.bool true); rw [boolRow_set, seen_set hx] at this; exact this
          clear hB hx
          cases hs : ((List.range k).any fun j => li l j == (x : Int)) with
          | true =>
            have HN := Lib.hid (right_no hlt (fun h => seen_yes HX.out hs h.2))
            rw [hs] at hcell
            go_wp2
            go_ret
            exact ⟨by rw [HN.out]; rfl, hb⟩
          | false =>
            have HN := Lib.hid (okTo_succ HV.out (by rw [HX.out]; omega) (by rw [HX.out]; omega) (seen_no HX.out hs))
            rw [hs] at hcell
            go_wp2
            go_roundw
            case rel => exact ⟨k + 1, by omega, HN, by go_num, HB2.out, hb.setCell (p := ⟨w.heap.size, x, none⟩) (Nat.le_refl _) _⟩
            case measure => simp [intOf]; omega
    · obtain rfl : k = l.length := by omega
      have HP := Lib.hid (right_yes HV.out)
      clear hB
      go_wp2
      go_ret
      exact ⟨by rw [HP.out]; rfl, hb⟩

set_option maxHeartbeats 2000000 in
theorem perm_Right_b (A : Option Addr) (ca : Nat) (l : List Int) (w : World) (h : RI w w.heap.size A l) (hl : 64 < l.length) (hl2 : l.length ≤ 1000000000000) :
    Calls Try.prog 8 #[.slice A l.length ca] w fun r w' => r = .returned (.bool (rightB l)) ∧ Below w.heap.size w w' := by
  have H := Lib.hid h
  clear h
  have hl' : (64 : Int) < (l.length : Int) := by omega
  have hmk := run_mkb l.length hl2
  go_enter Try.func8, Try.ntmps8
  go_wp2
  go_loopw [18] (fun i wr => ∃ k : Nat, k ≤ l.length ∧ Hid (okTo l k) ∧ i = .int .i64 k ∧ Blk wr (w.heap.size + 1) 4 (boolRow (seenL l l.length k)) ∧ Below w.heap.size w wr) (fun i _ => l.length - (intOf i).toNat)
  case atStart => exact ⟨0, Nat.zero_le _, okTo_zero l, rfl, by rw [seen_zero]; first | exact Blk.new _ _ _ | exact Blk.new2 _ _ _ _ | (rw [← array_bools]; exact Blk.new _ _ _), ((Below.refl _ _).alloc (Nat.le_refl _) _).alloc (by rw [size_alloc1]; omega) _⟩
  case round =>
    obtain ⟨k, hk, HV, rfl, hB, hb⟩ := hrel
    have HB := Lib.hid hB
    clear hmk
    by_cases hlt : k < l.length
    · obtain ⟨b, o, rfl, hg, hc⟩ := H.out (by omega)
      have e1 := (hb.cell (p := ⟨b, o + k, none⟩) hg).trans (hc k hlt)
      have h1' : (k : Int) < (l.length : Int) := by omega
      clear hc
      by_cases c1 : li l k < 0
      · have HN := Lib.hid (right_no hlt (fun h => by omega))
        clear hB
        go_wp2
        go_ret
        exact ⟨by rw [HN.out]; rfl, hb⟩
      · by_cases c2 : (l.length : Int) ≤ li l k
        · have HN := Lib.hid (right_no hlt (fun h => by omega))
          clear hB
          go_wp2
          go_ret
          exact ⟨by rw [HN.out]; rfl, hb⟩
        · obtain ⟨x, hx⟩ := Int.eq_ofNat_of_zero_le (by omega : 0 ≤ li l k)
          have HX := Lib.hid hx
          rw [hx] at e1 c1 c2
          have hxl : x < l.length := by omega
          have hxl' : (x : Int) < (l.length : Int) := by omega
          have hcell : wr.cell? ⟨(w.heap.size + 1), x, none⟩ = some (.bool ((List.range k).any fun j => li l j == (x : Int))) := by rw [hB.cell, boolRow_at (by rw [seen_len]; omega), seen_at (by omega)]
          have hfz := hB.frozen x
          have hlt2 : (w.heap.size + 1) < wr.heap.size := hB.lt
          have HB2 : Hid (Blk (wr.setCell ⟨(w.heap.size + 1), x, none⟩ (.bool true)) (w.heap.size + 1) 4 (boolRow (seenL l l.length (k + 1)))) := by
            have := hB.set_ x (.bool true); rw [boolRow_set, seen_set hx] at this; exact this
          clear hB hx
          cases hs : ((List.range k).any fun j => li l j == (x : Int)) with
          | true =>
            have HN := Lib.hid (right_no hlt (fun h => seen_yes HX.out hs h.2))
            rw [hs] at hcell
            go_wp2
            go_ret
            exact ⟨by rw [HN.out]; rfl, hb⟩
          | false =>
            have HN := Lib.hid (okTo_succ HV.out (by rw [HX.out]; omega) (by rw [HX.out]; omega) (seen_no HX.out hs))
            rw [hs] at hcell
            go_wp2
            go_roundw
            case rel => exact ⟨k + 1, by omega, HN, by go_num, HB2.out, hb.setCell (p := ⟨(w.heap.size + 1), x, none⟩) (by show w.heap.size ≤ w.heap.size + 1; omega) _⟩
            case measure => simp [intOf]; omega
    · obtain rfl : k = l.length := by omega
      have HP := Lib.hid (right_yes HV.out)
      clear hB
      go_wp2
      go_ret
      exact ⟨by rw [HP.out]; rfl, hb⟩

theorem perm_Right (A : Option Addr) (ca : Nat) (l : List Int) (w : World) (h : RI w w.heap.size A l) (hl : l.length ≤ 1000000000000) :
    Calls Try.prog 8 #[.slice A l.length ca] w fun r w' => r = .returned (.bool (rightB l)) ∧ Below w.heap.size w w' := by
  by_cases c : l.length ≤ 64
  · exact perm_Right_s A ca l w h (by omega)
  · exact perm_Right_b A ca l w h (by omega) hl
end Go.Proofs.Ythbcjjodinnnfaa
