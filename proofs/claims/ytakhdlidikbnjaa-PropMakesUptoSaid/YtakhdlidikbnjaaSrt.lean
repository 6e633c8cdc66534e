/- A block that begins with a list of integers; Sort and Compact of a list of the call's own. -/
import Derived.Test.YtakhdlidikbnjaaInts
import Derived.Test.YtakhdlidikbnjaaSmath
import Derived.Shelf.Slices.CompactI
import Derived.Shelf.Sort.Plain
import Derived.Shelf.Slices.In.SortNone
import Derived.Shelf.Lay
import Derived.Ground.NamesProg
import Derived.Ground.Names2Prog
namespace Go.Proofs.Ytakhdlidikbnjaa
open Go.RowKit
open Go.Shelf

def Try.laysCompact_ren : Go.Shelf.Ren := ⟨fun | 20 => 33 | n => n, fun | 22 => 33 | 3 => 3 | 4 => 4 | 0 => 0 | n => n, fun | n => n⟩
theorem Try.laysCompact : Go.Proofs.Lays2.n20 Try.prog Try.laysCompact_ren := {
  mixed := by kernel_rfl
  f20 := Try.func33.trans (congrArg some (by kernel_rfl))
  t0 := Try.underlying0
  a0 := Try.isAgg0
  z0 := Try.sizeOf0
  v0 := Try.zeroValue0
  t3 := Try.underlying3
  a3 := Try.isAgg3
  z3 := Try.sizeOf3
  v3 := Try.zeroValue3
  t4 := Try.underlying4
  a4 := Try.isAgg4
  z4 := Try.sizeOf4
  v4 := Try.zeroValue4
  t22 := Try.underlying33
  a22 := Try.isAgg33
  z22 := Try.sizeOf33
  v22 := Try.zeroValue33
  i3 := by kernel_rfl }
def Try.laysSort_ren : Go.Shelf.Ren := ⟨fun | 189 => 32 | 125 => 45 | 257 => 44 | 128 => 64 | 129 => 65 | 294 => 55 | 295 => 56 | 296 => 57 | 297 => 58 | 298 => 59 | 299 => 60 | 216 => 61 | 300 => 62 | 301 => 63 | 328 => 67 | 329 => 68 | 330 => 69 | 331 => 70 | 332 => 71 | 215 => 72 | 343 => 73 | n => n, fun | 28 => 33 | 3 => 3 | 46 => 63 | 0 => 0 | 51 => 87 | 53 => 75 | 4 => 4 | 183 => 79 | 182 => 78 | 131 => 84 | 5 => 5 | 9 => 9 | 218 => 90 | 222 => 68 | 228 => 95 | 229 => 28 | n => n, fun | n => n⟩
theorem Try.laysSort : Go.Proofs.Lays.n189 Try.prog Try.laysSort_ren := {
  mixed := by kernel_rfl
  f125 := Try.func45.trans (congrArg some (by kernel_rfl))
  f128 := Try.func64.trans (congrArg some (by kernel_rfl))
  f129 := Try.func65.trans (congrArg some (by kernel_rfl))
  f189 := Try.func32.trans (congrArg some (by kernel_rfl))
  f215 := Try.func72.trans (congrArg some (by kernel_rfl))
  f216 := Try.func61.trans (congrArg some (by kernel_rfl))
  f257 := Try.func44.trans (congrArg some (by kernel_rfl))
  f294 := Try.func55.trans (congrArg some (by kernel_rfl))
  f295 := Try.func56.trans (congrArg some (by kernel_rfl))
  f296 := Try.func57.trans (congrArg some (by kernel_rfl))
  f297 := Try.func58.trans (congrArg some (by kernel_rfl))
  f298 := Try.func59.trans (congrArg some (by kernel_rfl))
  f299 := Try.func60.trans (congrArg some (by kernel_rfl))
  f300 := Try.func62.trans (congrArg some (by kernel_rfl))
  f301 := Try.func63.trans (congrArg some (by kernel_rfl))
  f328 := Try.func67.trans (congrArg some (by kernel_rfl))
  f329 := Try.func68.trans (congrArg some (by kernel_rfl))
  f330 := Try.func69.trans (congrArg some (by kernel_rfl))
  f331 := Try.func70.trans (congrArg some (by kernel_rfl))
  f332 := Try.func71.trans (congrArg some (by kernel_rfl))
  f343 := Try.func73.trans (congrArg some (by kernel_rfl))
  t0 := Try.underlying0
  a0 := Try.isAgg0
  z0 := Try.sizeOf0
  v0 := Try.zeroValue0
  t3 := Try.underlying3
  a3 := Try.isAgg3
  z3 := Try.sizeOf3
  v3 := Try.zeroValue3
  t4 := Try.underlying4
  a4 := Try.isAgg4
  z4 := Try.sizeOf4
  v4 := Try.zeroValue4
  t5 := Try.underlying5
  a5 := Try.isAgg5
  z5 := Try.sizeOf5
  v5 := Try.zeroValue5
  t9 := Try.underlying9
  a9 := Try.isAgg9
  z9 := Try.sizeOf9
  v9 := Try.zeroValue9
  t28 := Try.underlying33
  a28 := Try.isAgg33
  z28 := Try.sizeOf33
  v28 := Try.zeroValue33
  t46 := Try.underlying63
  a46 := Try.isAgg63
  z46 := Try.sizeOf63
  v46 := Try.zeroValue63
  t51 := Try.underlying87
  a51 := Try.isAgg87
  z51 := Try.sizeOf87
  v51 := Try.zeroValue87
  t53 := Try.underlying75
  a53 := Try.isAgg75
  z53 := Try.sizeOf75
  v53 := Try.zeroValue75
  t131 := Try.underlying84
  a131 := Try.isAgg84
  z131 := Try.sizeOf84
  v131 := Try.zeroValue84
  t182 := Try.underlying78
  a182 := Try.isAgg78
  z182 := Try.sizeOf78
  v182 := Try.zeroValue78
  t183 := Try.underlying79
  a183 := Try.isAgg79
  z183 := Try.sizeOf79
  v183 := Try.zeroValue79
  t218 := Try.underlying90
  a218 := Try.isAgg90
  z218 := Try.sizeOf90
  v218 := Try.zeroValue90
  t222 := Try.underlying68
  a222 := Try.isAgg68
  z222 := Try.sizeOf68
  v222 := Try.zeroValue68
  t228 := Try.underlying95
  a228 := Try.isAgg95
  z228 := Try.sizeOf95
  v228 := Try.zeroValue95
  t229 := Try.underlying28
  a229 := Try.isAgg28
  z229 := Try.sizeOf28
  v229 := Try.zeroValue28 }

/-- Block g begins with the integers l. -/
def PreB (w : World) (g : Nat) (l : List Int) : Prop := ∃ tl : List Value, Blk w g 3 (l.map (Value.int .i64) ++ tl).toArray
section
variable {w w' : World} {g : Nat} {l m : List Int}
theorem PreB.cell (h : PreB w g l) {i : Nat} (hi : i < l.length) : w.cell? ⟨g, i, none⟩ = some (.int .i64 (li l i)) := by
  obtain ⟨tl, h⟩ := h
  rw [h.cell]
  unfold li
  simp [List.getElem?_append, hi, List.getD]
theorem PreB.lt (h : PreB w g l) : g < w.heap.size := by obtain ⟨tl, h⟩ := h; exact h.lt
theorem PreB.frozen (h : PreB w g l) (i : Nat) : w.frozen? ⟨g, i, none⟩ = false := by obtain ⟨tl, h⟩ := h; exact h.frozen i
theorem PreB.ri (h : PreB w g l) : RI w w.heap.size (some ⟨g, 0, none⟩) l := fun _ => ⟨g, 0, rfl, h.lt, fun i hi => by rw [Nat.zero_add]; exact h.cell hi⟩
theorem PreB.holds (h : PreB w g l) : Sort.Holds (Value.int .i64) w g 0 l.toArray := fun j hj => by
  have hj' : j < l.length := by simpa using hj
  refine ⟨?_, by rw [Nat.zero_add]; exact h.frozen j⟩
  rw [Nat.zero_add, h.cell hj']
  unfold li
  have e : l.toArray[j]! = l[j] := by simp [hj']
  rw [e]
  simp [List.getD, List.getElem?_eq_getElem hj']
theorem PreB.short {a b : List Int} (h : PreB w g (a ++ b)) : PreB w g a := by
  obtain ⟨tl, h⟩ := h
  exact ⟨b.map (Value.int .i64) ++ tl, by simpa using h⟩
theorem PreB.drewN (h : PreB w g l) (n : Nat) : PreB (w.drewN n) g l := h
theorem PreB.below {B : Nat} (h : PreB w g l) (hb : Below B w w') (hg : g < B) : PreB w' g l := by
  obtain ⟨tl, h⟩ := h
  exact ⟨tl, h.below hb hg⟩
theorem PreB.put (h : PreB w g l) (hl : m.length = l.length) (n : Nat) : PreB (Sort.putRow (Value.int .i64) (Sort.ahead w n) g 0 m.toArray) g m := by
  obtain ⟨tl, h⟩ := h
  refine ⟨tl, ?_⟩
  have h1 : (Sort.ahead w n).heap[g]? = some (.cells (l.map (Value.int .i64) ++ tl).toArray 3 (0, 0)) := h
  have h2 : (Sort.putRow (Value.int .i64) (Sort.ahead w n) g 0 m.toArray).heap[g]? = some (.cells (Sort.putCells (Value.int .i64) 0 m.toArray (l.map (Value.int .i64) ++ tl).toArray) 3 (0, 0)) := by
    unfold Sort.putRow Sort.mapBlock
    simp only [Array.getElem?_modify, if_true, h1, Option.map_some]
    rfl
  have h3 : Sort.putCells (Value.int .i64) 0 m.toArray (l.map (Value.int .i64) ++ tl).toArray = (m.map (Value.int .i64) ++ tl).toArray := by
    apply Array.ext_getElem?
    intro i
    unfold Sort.putCells
    rw [Array.getElem?_mapIdx]
    simp only [List.getElem?_toArray, List.getElem?_append, List.length_map, hl]
    by_cases hm : i < l.length
    · have e : m.toArray[i]! = m[i] := by simp [show i < m.length by omega]
      simp [hm, hl]
    · simp [hm, hl]
  unfold Blk
  rw [h2, h3]
end
theorem PreB.grow {w : World} {g : Nat} {l : List Int} (h : PreB w g l) (os : Array Obj) : PreB (Sort.grow w os) g l := by
  obtain ⟨tl, h⟩ := h
  refine ⟨tl, ?_⟩
  unfold Blk at h ⊢
  rw [← h]
  have hlt : g < w.heap.size := Blk.lt h
  unfold Sort.grow
  simp [Array.getElem?_append, hlt]
theorem below_grow {B : Nat} {w w1 : World} (h : Below B w w1) (os : Array Obj) (hB : B ≤ w1.heap.size) : Below B w (Sort.grow w1 os) := by
  refine h.trans ⟨rfl, rfl, rfl, ?_, fun k hk => ?_⟩
  · unfold Sort.grow; simp
  · unfold Sort.grow
    simp [Array.getElem?_append, show k < w1.heap.size by omega]
theorem Own.pre {w : World} {base : Nat} {v : Value} {l : List Int} (h : Own w base v l) : (v = .slice none 0 0 ∧ l = []) ∨ ∃ g cap, v = .slice (some ⟨g, 0, none⟩) l.length cap ∧ base ≤ g ∧ l.length ≤ cap ∧ cap ≤ maxLen ∧ PreB w g l := by
  rcases h.2 with ⟨rfl, h0⟩ | ⟨g, cap, cur, rfl, hg, hh, hn, hc, hsz, htk⟩
  · exact .inl ⟨rfl, List.eq_nil_of_length_eq_zero h0⟩
  · refine .inr ⟨g, cap, rfl, hg, hn, hc, cur.toList.drop l.length, ?_⟩
    rw [Nat.mul_one] at htk
    rw [← htk, List.take_append_drop]
    exact hh

theorem frm_put {w : World} {g n : Nat} {m : List Int} : Frm (fun k => k = g) w (Sort.putRow (Value.int .i64) (Sort.ahead w n) g 0 m.toArray) := by
  refine ⟨rfl, rfl, rfl, ?_, fun k hk hs => ?_⟩
  · rw [put_size]; exact Nat.le_refl _
  · unfold Sort.putRow Sort.mapBlock
    simp only [Array.getElem?_modify]
    rw [if_neg (fun e => hs e.symm)]
    rfl
theorem frm_grow {S : Nat → Prop} {w w1 : World} (h : Frm S w w1) (os : Array Obj) : Frm S w (Sort.grow w1 os) := by
  refine h.trans ⟨rfl, rfl, rfl, ?_, fun k hk _ => ?_⟩
  · unfold Sort.grow; simp
  · unfold Sort.grow
    simp [Array.getElem?_append, hk]
theorem Own.pre0 {w : World} {v : Value} {l : List Int} (h : Own w 0 v l) : (v = .slice none 0 0 ∧ l = []) ∨ ∃ g cap, v = .slice (some ⟨g, 0, none⟩) l.length cap ∧ v.ownBlock = some g ∧ l.length ≤ cap ∧ cap ≤ maxLen ∧ PreB w g l := by
  rcases h.pre with ⟨h1, h2⟩ | ⟨g, cap, h1, _, h3, h4, h5⟩
  · exact .inl ⟨h1, h2⟩
  · exact .inr ⟨g, cap, h1, by rw [h1]; rfl, h3, h4, h5⟩
set_option maxHeartbeats 1000000 in
/-- Sort of a block that begins with l. -/
theorem sort_pre (g cap : Nat) (l : List Int) (w : World) (h : PreB w g l) (hl : l.length ≤ 1000000000) :
    Calls Try.prog 32 #[.slice (some ⟨g, 0, none⟩) l.length cap] w fun e w' => e = .returned (.tuple #[]) ∧ PreB w' g (srt l) ∧ Frm (fun k => k = g) w w' := by
  refine (Any.slices_Sort_int Try.laysSort g 0 cap l w h.holds h.lt (by omega)).mono fun e w' ⟨he, n, os, hw⟩ => ?_
  refine ⟨he, ?_, ?_⟩
  · rw [hw]; exact (h.put (m := srt l) (srt_len l) n).grow os
  · rw [hw]; exact frm_grow frm_put os
theorem sort_nil (w : World) : Calls Try.prog 32 #[.slice none 0 0] w fun e w' => e = .returned (.tuple #[]) ∧ w = w' :=
  (Any.slices_Sort_int_none Try.laysSort none 0 w).mono fun e w' ⟨he, hw⟩ => ⟨he, hw.symm⟩
set_option maxHeartbeats 1000000 in
theorem compact_pre (g cap : Nat) (l : List Int) (w : World) (h : PreB w g (srt l)) (hcap : l.length ≤ cap) (hl : l.length ≤ 1000000000) :
    Calls Try.prog 33 #[.slice (some ⟨g, 0, none⟩) l.length cap] w fun e w' => e = .returned (.slice (some ⟨g, 0, none⟩) (setL l).length cap) ∧ PreB w' g (setL l) ∧ Frm (fun k => k = g) w w' := by
  have hC := Any.slices_Compact_int Try.laysCompact g 0 cap (srt l) w h.holds (by rw [srt_len]; omega) (by rw [srt_len]; exact hcap)
  rw [srt_len] at hC
  have HC : Hid (Calls Try.prog 33 #[.slice (some ⟨g, 0, none⟩) l.length cap] w fun e w' => e = .returned (.slice (some ⟨g, 0, none⟩) (setL l).length cap) ∧ ∃ q, w' = Sort.putRow (Value.int .i64) (Sort.ahead w q) g 0 (setL l ++ List.replicate (l.length - (setL l).length) 0).toArray) := hC
  have hsl := set_le l
  refine HC.out.mono fun e w' ⟨he, q, hw⟩ => ⟨he, ?_, ?_⟩
  · rw [hw]
    exact (h.put (m := setL l ++ List.replicate (l.length - (setL l).length) 0) (by rw [List.length_append, List.length_replicate, srt_len]; omega) q).short
  · rw [hw]; exact frm_put
theorem compact_nil (w : World) : Calls Try.prog 33 #[.slice none 0 0] w fun e w' => e = .returned (.slice none 0 0) ∧ w = w' :=
  (Any.slices_Compact_int_empty Try.laysCompact none 0 w).mono fun e w' ⟨he, hw⟩ => ⟨he, hw.symm⟩
end Go.Proofs.Ytakhdlidikbnjaa
