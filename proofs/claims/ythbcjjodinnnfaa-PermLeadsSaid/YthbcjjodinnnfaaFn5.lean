/- Contracts of Turn of layer 5 (perm) and of its specification, over the translation. -/
import Derived.Test.YthbcjjodinnnfaaFn4
import Derived.Shelf.Slices.Reverse
import Derived.Shelf.Lay
import Derived.Ground.NamesProg
import Derived.Lib.Agree
import Derived.KernelRfl
import GoSem.Claim
namespace Go.Proofs.Ythbcjjodinnnfaa
open Go.RowKit
open Go.Shelf

def Try.laysReverse_ren : Go.Shelf.Ren := ⟨fun | 112 => 27 | n => n, fun | 28 => 22 | 3 => 3 | 4 => 4 | 0 => 0 | n => n, fun | n => n⟩
theorem Try.laysReverse : Go.Proofs.Lays.n112 Try.prog Try.laysReverse_ren := {
  mixed := by kernel_rfl
  f112 := Try.func27.trans (congrArg some (by kernel_rfl))
  t0 := Try.underlying0
  a0 := Try.isAgg0
  z0 := Try.sizeOf0
  v0 := Try.zeroValue0
  t3 := Try.underlying3
  a3 := Try.isAgg3
  z3 := Try.sizeOf3
  v3 := Try.zeroValue3
  t4 := Try.underlying4
  a4 := Try.isAgg4
  z4 := Try.sizeOf4
  v4 := Try.zeroValue4
  t28 := Try.underlying22
  a28 := Try.isAgg22
  z28 := Try.sizeOf22
  v28 := Try.zeroValue22 }

theorem take_rev {l : List Int} {k : Nat} (h : k < l.length) : l.reverse.take (k + 1) = l.reverse.take k ++ [li l (l.length - 1 - k)] := by
  have h2 : k < l.reverse.length := by simpa using h
  rw [List.take_succ_eq_append_getElem h2]
  congr 1
  simp only [List.getElem_reverse]
  unfold li
  have h3 : l.length - 1 - k < l.length := by omega
  simp [List.getD, List.getElem?_eq_getElem h3]

set_option maxHeartbeats 1000000 in
theorem ref_Turn (A : Option Addr) (ca : Nat) (l : List Int) (w : World) (h : RI w w.heap.size A l) (hl : l.length ≤ 1000000) :
    Calls Try.prog 20 #[.slice A l.length ca] w fun r w' => ∃ v, r = .returned v ∧ Own w' w.heap.size v l.reverse ∧ Below w.heap.size w w' := by
  obtain ⟨i0, hi0, hz0, hz1, hz2⟩ := info_parts info3
  have H := Lib.hid h
  clear h
  go_enter Try.func20, Try.ntmps20
  go_wp2
  go_loopw [3, 4] (fun v i wr => ∃ k : Nat, k ≤ l.length ∧ i = .int .i64 ((l.length : Int) - 1 - k) ∧ Own wr w.heap.size v (l.reverse.take k) ∧ Below w.heap.size w wr) (fun _ i _ => (intOf i + 1).toNat)
  case atStart => exact ⟨0, Nat.zero_le _, by simp, Own.empty w, (Below.refl _ _).alloc (Nat.le_refl _) _⟩
  case round =>
    obtain ⟨k, hk, rfl, hO, hbw⟩ := hrel
    have HO := Lib.hid hO
    clear hO
    have hlen : (l.reverse.take k).length = k := by simp; omega
    by_cases hlt : k < l.length
    · obtain ⟨b, off, rfl, hb, hc⟩ := H.out (by omega)
      obtain ⟨j, hj⟩ : ∃ j : Nat, l.length = j + 1 + k := ⟨l.length - 1 - k, by omega⟩
      have ej : ((l.length : Int) - 1 - k) = (j : Int) := by omega
      have hw := (hbw.cell (p := ⟨b, off + j, none⟩) hb).trans (hc j (by omega))
      have hjl : (j : Int) < (l.length : Int) := by omega
      have ht := take_rev hlt
      rw [show l.length - 1 - k = j by omega] at ht
      rw [ej]
      have HT := Lib.hid ht
      have HJ := Lib.hid hj
      have HOP : ∀ v' w', World.ownsRow w' w.heap.size 3 1 v' ((l.reverse.take k).length + 1) ((l.reverse.take k).map (Value.int .i64) ++ [.int .i64 (li l j)]) → Hid (Own w' w.heap.size v' (l.reverse.take (k + 1))) := fun v' w' h => by
        show Own _ _ _ _; rw [HT.out]; exact Own.push h
      clear hc hj ej ht
      go_wp2_with (at_builtin; refine wpList_append_own _ rfl _ _ 22 rfl w.heap.size 3 i0 _ 1 8 Try.underlying22 hi0 hz0 hz1 hz2 rfl (by decide) _ _ _ rfl (World.ownsRow.alloc HO.out _) ⟨wr.heap.size, 0, none⟩ 1 1 [.int .i64 (li l j)] rfl rfl (cell_one_new _ _ _) (by simp [Value.oneCell']) (max_ok (by omega)) (by omega) (by have := hbw.size; simp; omega) ?_; intro v2 w1 hown hg1 _)
      go_roundw
      case rel => exact ⟨k + 1, by omega, by have := HJ.out; congr 1; omega, (HOP _ _ hown).out, HO.out.grow hbw hg1⟩
      case measure => simp [intOf]
    · obtain rfl : k = l.length := by omega
      have ej : ((l.length : Int) - 1 - l.length) = -1 := by omega
      rw [ej]
      have HT : Hid (l.reverse.take l.length = l.reverse) := by show _ = _; apply List.take_of_length_le; simp
      go_wp2
      go_ret
      exact ⟨_, rfl, by rw [← HT.out]; exact HO.out, hbw⟩

theorem holds_blk {w : World} {g : Nat} {l : List Int} (h : Blk w g 3 (intRow l)) : Sort.Holds (Value.int .i64) w g 0 l.toArray := fun j hj => by
  have hj' : j < l.length := by simpa using hj
  refine ⟨?_, by rw [Nat.zero_add]; exact h.frozen j⟩
  rw [Nat.zero_add, h.cell, intRow_at hj']
  unfold li
  have e : l.toArray[j]! = l[j] := by simp [hj']
  rw [e]
  simp [List.getD, List.getElem?_eq_getElem hj']
theorem blk_put {w : World} {g n : Nat} {l m : List Int} (h : Blk w g 3 (intRow l)) (hl : m.length = l.length) : Blk (Sort.putRow (Value.int .i64) (Sort.ahead w n) g 0 m.toArray) g 3 (intRow m) := by
  have h1 : (Sort.ahead w n).heap[g]? = some (.cells (intRow l) 3 (0, 0)) := h
  have h2 : (Sort.putRow (Value.int .i64) (Sort.ahead w n) g 0 m.toArray).heap[g]? = some (.cells (Sort.putCells (Value.int .i64) 0 m.toArray (intRow l)) 3 (0, 0)) := by
    unfold Sort.putRow Sort.mapBlock
    simp only [Array.getElem?_modify, if_true, h1, Option.map_some]
    rfl
  have h3 : Sort.putCells (Value.int .i64) 0 m.toArray (intRow l) = intRow m := by
    apply Array.ext_getElem?
    intro i
    by_cases hi : i < m.length
    · rw [intRow_at hi]
      unfold Sort.putCells
      rw [Array.getElem?_mapIdx, intRow_at (by omega)]
      have e : m.toArray[i]! = li m i := by unfold li; simp [hi, List.getD]
      simp [hi]
      unfold li; simp [List.getD, hi]
    · have s1 : (intRow m).size = m.length := by unfold intRow; simp
      have s2 : (Sort.putCells (Value.int .i64) 0 m.toArray (intRow l)).size = l.length := by unfold Sort.putCells intRow; simp
      rw [Array.getElem?_eq_none (by omega), Array.getElem?_eq_none (by omega)]
  unfold Blk
  rw [h2, h3]
theorem below_put {w : World} {B g n : Nat} {m : List Int} (hg : B ≤ g) : Below B w (Sort.putRow (Value.int .i64) (Sort.ahead w n) g 0 m.toArray) := by
  refine ⟨rfl, rfl, rfl, ?_, fun k hk => ?_⟩
  · unfold Sort.putRow Sort.mapBlock; simp [Sort.ahead]
  · unfold Sort.putRow Sort.mapBlock
    simp only [Array.getElem?_modify]
    rw [if_neg (by omega)]
    rfl

set_option maxHeartbeats 1000000 in
theorem perm_Turn (A : Option Addr) (ca : Nat) (l : List Int) (w : World) (h : RI w w.heap.size A l) (hl : l.length ≤ 1000000000000) :
    Calls Try.prog 19 #[.slice A l.length ca] w fun r w' => ∃ g, r = .returned (.slice (some ⟨g, 0, none⟩) l.length l.length) ∧ Blk w' g 3 (intRow l.reverse) ∧ w.heap.size ≤ g ∧ Below w.heap.size w w' := by
  have H := Lib.hid h
  clear h
  go_enter Try.func19, Try.ntmps19
  go_wp2_with (first
    | (go_at_call 25; refine (perm_clone _ _ _ _ H.out (by omega)).mono ?_; rintro e w1 ⟨g, rfl, B1, hg, hb1⟩; have HB := Lib.hid B1; clear B1))
  have hr := Any.slices_Reverse_int Try.laysReverse g 0 l.length l w1 (holds_blk HB.out) (by omega)
  refine hr.mono ?_
  rintro e w2 ⟨rfl, n, rfl⟩
  have HB2 := Lib.hid (blk_put (n := n) (m := l.reverse) HB.out (by simp))
  have HW := Lib.hid (hb1.trans (below_put (w := w1) (n := n) (m := l.reverse) hg))
  clear hr
  go_wp2
  go_ret
  exact ⟨g, rfl, HB2.out, hg, HW.out⟩
end Go.Proofs.Ythbcjjodinnnfaa
