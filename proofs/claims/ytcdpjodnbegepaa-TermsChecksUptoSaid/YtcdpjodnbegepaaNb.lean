/- Rows of texts in memory; Sort and Compact of a row of the call's own; layer 30 (terms). -/
import Derived.Test.YtcdpjodnbegepaaInts
import Derived.Test.YtcdpjodnbegepaaNa
import Derived.Shelf.Slices.CompactS
import Derived.Shelf.Sort.Plain
import Derived.Shelf.Slices.In.SortNone
import Derived.Shelf.Lay
import Derived.Ground.NamesProg
import Derived.Ground.Names2Prog
namespace Go.Proofs.Ytcdpjodnbegepaa
open Go.RowKit
open Go.Shelf

def Try.laysSortS_ren : Go.Shelf.Ren := ⟨fun | 190 => 56 | 125 => 81 | 258 => 80 | 128 => 98 | 129 => 99 | 302 => 89 | 303 => 90 | 304 => 91 | 305 => 92 | 306 => 93 | 307 => 94 | 308 => 95 | 309 => 96 | 310 => 97 | 333 => 102 | 329 => 103 | 330 => 104 | 334 => 105 | 335 => 106 | 336 => 107 | 344 => 108 | n => n, fun | 31 => 27 | 9 => 9 | 3 => 3 | 46 => 102 | 0 => 0 | 51 => 117 | 53 => 119 | 4 => 4 | 183 => 110 | 182 => 109 | 131 => 46 | 5 => 5 | 218 => 123 | 222 => 79 | 228 => 129 | 229 => 30 | n => n, fun | n => n⟩
theorem Try.laysSortS : Go.Proofs.Lays.n190 Try.prog Try.laysSortS_ren := {
  mixed := by kernel_rfl
  f125 := Try.func81.trans (congrArg some (by kernel_rfl))
  f128 := Try.func98.trans (congrArg some (by kernel_rfl))
  f129 := Try.func99.trans (congrArg some (by kernel_rfl))
  f190 := Try.func56.trans (congrArg some (by kernel_rfl))
  f258 := Try.func80.trans (congrArg some (by kernel_rfl))
  f302 := Try.func89.trans (congrArg some (by kernel_rfl))
  f303 := Try.func90.trans (congrArg some (by kernel_rfl))
  f304 := Try.func91.trans (congrArg some (by kernel_rfl))
  f305 := Try.func92.trans (congrArg some (by kernel_rfl))
  f306 := Try.func93.trans (congrArg some (by kernel_rfl))
  f307 := Try.func94.trans (congrArg some (by kernel_rfl))
  f308 := Try.func95.trans (congrArg some (by kernel_rfl))
  f309 := Try.func96.trans (congrArg some (by kernel_rfl))
  f310 := Try.func97.trans (congrArg some (by kernel_rfl))
  f329 := Try.func103.trans (congrArg some (by kernel_rfl))
  f330 := Try.func104.trans (congrArg some (by kernel_rfl))
  f333 := Try.func102.trans (congrArg some (by kernel_rfl))
  f334 := Try.func105.trans (congrArg some (by kernel_rfl))
  f335 := Try.func106.trans (congrArg some (by kernel_rfl))
  f336 := Try.func107.trans (congrArg some (by kernel_rfl))
  f344 := Try.func108.trans (congrArg some (by kernel_rfl))
  t0 := Try.underlying0
  a0 := Try.isAgg0
  z0 := Try.sizeOf0
  v0 := Try.zeroValue0
  t3 := Try.underlying3
  a3 := Try.isAgg3
  z3 := Try.sizeOf3
  v3 := Try.zeroValue3
  t4 := Try.underlying4
  a4 := Try.isAgg4
  z4 := Try.sizeOf4
  v4 := Try.zeroValue4
  t5 := Try.underlying5
  a5 := Try.isAgg5
  z5 := Try.sizeOf5
  v5 := Try.zeroValue5
  t9 := Try.underlying9
  a9 := Try.isAgg9
  z9 := Try.sizeOf9
  v9 := Try.zeroValue9
  t31 := Try.underlying27
  a31 := Try.isAgg27
  z31 := Try.sizeOf27
  v31 := Try.zeroValue27
  t46 := Try.underlying102
  a46 := Try.isAgg102
  z46 := Try.sizeOf102
  v46 := Try.zeroValue102
  t51 := Try.underlying117
  a51 := Try.isAgg117
  z51 := Try.sizeOf117
  v51 := Try.zeroValue117
  t53 := Try.underlying119
  a53 := Try.isAgg119
  z53 := Try.sizeOf119
  v53 := Try.zeroValue119
  t131 := Try.underlying46
  a131 := Try.isAgg46
  z131 := Try.sizeOf46
  v131 := Try.zeroValue46
  t182 := Try.underlying109
  a182 := Try.isAgg109
  z182 := Try.sizeOf109
  v182 := Try.zeroValue109
  t183 := Try.underlying110
  a183 := Try.isAgg110
  z183 := Try.sizeOf110
  v183 := Try.zeroValue110
  t218 := Try.underlying123
  a218 := Try.isAgg123
  z218 := Try.sizeOf123
  v218 := Try.zeroValue123
  t222 := Try.underlying79
  a222 := Try.isAgg79
  z222 := Try.sizeOf79
  v222 := Try.zeroValue79
  t228 := Try.underlying129
  a228 := Try.isAgg129
  z228 := Try.sizeOf129
  v228 := Try.zeroValue129
  t229 := Try.underlying30
  a229 := Try.isAgg30
  z229 := Try.sizeOf30
  v229 := Try.zeroValue30 }
def Try.laysCompactS_ren : Go.Shelf.Ren := ⟨fun | 194 => 57 | n => n, fun | 31 => 27 | 9 => 9 | 3 => 3 | 4 => 4 | 0 => 0 | n => n, fun | n => n⟩
theorem Try.laysCompactS : Go.Proofs.Lays.n194 Try.prog Try.laysCompactS_ren := {
  mixed := by kernel_rfl
  f194 := Try.func57.trans (congrArg some (by kernel_rfl))
  t0 := Try.underlying0
  a0 := Try.isAgg0
  z0 := Try.sizeOf0
  v0 := Try.zeroValue0
  t3 := Try.underlying3
  a3 := Try.isAgg3
  z3 := Try.sizeOf3
  v3 := Try.zeroValue3
  t4 := Try.underlying4
  a4 := Try.isAgg4
  z4 := Try.sizeOf4
  v4 := Try.zeroValue4
  t9 := Try.underlying9
  a9 := Try.isAgg9
  z9 := Try.sizeOf9
  v9 := Try.zeroValue9
  t31 := Try.underlying27
  a31 := Try.isAgg27
  z31 := Try.sizeOf27
  v31 := Try.zeroValue27 }
abbrev encT : Bs → Value := fun l => .string ⟨l.toArray⟩
def tx (l : List Bs) (k : Nat) : Bs := l.getD k []
/-- The slice whose address is A reads as the texts l, below block B. -/
def RT (w : World) (B : Nat) (A : Option Addr) (l : List Bs) : Prop :=
  0 < l.length → ∃ b off, A = some ⟨b, off, none⟩ ∧ b < B ∧ ∀ i, i < l.length → w.cell? ⟨b, off + i, none⟩ = some (.string (bs (tx l i)))
section
variable {w w' : World} {B B' : Nat} {A : Option Addr} {l : List Bs}
theorem RT.below (h : RT w B A l) (hb : Below B w w') : RT w' B A l := fun hl => by
  obtain ⟨b, off, e, hB, hc⟩ := h hl
  exact ⟨b, off, e, hB, fun i hi => (hb.cell (p := ⟨b, off + i, none⟩) hB).trans (hc i hi)⟩
theorem RT.more (h : RT w B A l) (hB : B ≤ B') : RT w B' A l := fun hl => by
  obtain ⟨b, off, e, hb, hc⟩ := h hl
  exact ⟨b, off, e, by omega, hc⟩
theorem RT.step (h : RT w w.heap.size A l) (hb : Below w.heap.size w w') : RT w' w'.heap.size A l := (h.below hb).more hb.size
theorem RT.nil : RT w B A [] := fun h => absurd h (by simp)
end
theorem info9 : (Try.prog.info? 9).map (fun i => (i.zero, i.size, i.bytes)) = some (some (.string ⟨#[]⟩), 1, 16) := by kernel_rfl
def OwnX (w : World) (base : Nat) (v : Value) (l : List Bs) : Prop := w.ownsRow base 9 1 v l.length (l.map encT)
theorem OwnX.form {w : World} {base : Nat} {v : Value} {l : List Bs} (h : OwnX w base v l) : ∃ A c, v = .slice A l.length c ∧ RT w w.heap.size A l ∧ (A = none → c = 0) := by
  rcases h.2 with ⟨rfl, h0⟩ | ⟨g, cap, cur, rfl, hg, hh, hn, hc, hsz, htk⟩
  · have : l = [] := List.eq_nil_of_length_eq_zero h0
    subst this
    exact ⟨none, 0, rfl, RT.nil, fun _ => rfl⟩
  · refine ⟨_, cap, rfl, fun hp => ⟨g, 0, rfl, ?_, fun i hi => ?_⟩, fun e => by cases e⟩
    · rcases Nat.lt_or_ge g w.heap.size with hlt | hge
      · exact hlt
      · rw [Array.getElem?_eq_none hge] at hh; cases hh
    · rw [Nat.zero_add, cell_of_row w g i cur 9 (0, 0) hh]
      have h2 : (l.map encT)[i]? = some (.string (bs (tx l i))) := by unfold tx bs; simp [hi]
      rw [← htk, List.getElem?_take] at h2
      split at h2
      · simpa using h2
      · cases h2
theorem OwnX.push {w : World} {base : Nat} {v : Value} {l : List Bs} {b : Bs} (h : w.ownsRow base 9 1 v (l.length + 1) (l.map encT ++ [encT b])) : OwnX w base v (l ++ [b]) := by
  unfold OwnX; simpa using h
theorem OwnX.keep {w w' : World} {base : Nat} {v : Value} {l : List Bs} (h : OwnX w base v l) (hb : Below w.heap.size w w') : OwnX w' base v l := by
  obtain ⟨h1, h2⟩ := h
  refine ⟨h1, ?_⟩
  rcases h2 with h2 | ⟨g, cap, cur, e, hg, hh, r⟩
  · exact .inl h2
  · have hlt : g < w.heap.size := by
      rcases Nat.lt_or_ge g w.heap.size with q | q
      · exact q
      · rw [Array.getElem?_eq_none q] at hh; cases hh
    exact .inr ⟨g, cap, cur, e, hg, (hb.block g hlt).trans hh, r⟩
theorem OwnX.lt {w : World} {B : Nat} {v : Value} {l : List Bs} (h : OwnX w B v l) (k : Nat) (e : v.ownBlock = some k) : k < w.heap.size := by
  rcases h.2 with ⟨rfl, _⟩ | ⟨g, cap, cur, rfl, hg, hh, _⟩
  · simp [Value.ownBlock] at e
  · simp [Value.ownBlock] at e
    subst e
    rcases Nat.lt_or_ge g w.heap.size with q | q
    · exact q
    · rw [Array.getElem?_eq_none q] at hh; cases hh
theorem put_sizeT {w : World} {g n : Nat} {m : List Bs} : (Sort.putRow encT (Sort.ahead w n) g 0 m.toArray).heap.size = w.heap.size := by
  unfold Sort.putRow Sort.mapBlock; simp [Sort.ahead]
theorem OwnX.frm {w w' : World} {B : Nat} {v : Value} {l : List Bs} {S : Nat → Prop} (h : OwnX w B v l) (hf : Frm S w w') (hn : ∀ k, v.ownBlock = some k → ¬ S k) : OwnX w' B v l := by
  obtain ⟨h1, h2⟩ := h
  refine ⟨h1, ?_⟩
  rcases h2 with h2 | ⟨g, cap, cur, e, hg, hh, r⟩
  · exact .inl h2
  · have hlt : g < w.heap.size := by
      rcases Nat.lt_or_ge g w.heap.size with q | q
      · exact q
      · rw [Array.getElem?_eq_none q] at hh; cases hh
    exact .inr ⟨g, cap, cur, e, hg, (hf.block g hlt (hn g (by rw [e]; rfl))).trans hh, r⟩

/-- Block g begins with the texts l. -/
def PreT (w : World) (g : Nat) (l : List Bs) : Prop := ∃ tl : List Value, Blk w g 9 (l.map encT ++ tl).toArray
section
variable {w w' : World} {g : Nat} {l m : List Bs}
theorem PreT.cell (h : PreT w g l) {i : Nat} (hi : i < l.length) : w.cell? ⟨g, i, none⟩ = some (.string (bs (tx l i))) := by
  obtain ⟨tl, h⟩ := h
  rw [h.cell]
  unfold tx bs
  simp [List.getElem?_append, hi, List.getD]
theorem PreT.lt (h : PreT w g l) : g < w.heap.size := by obtain ⟨tl, h⟩ := h; exact h.lt
theorem PreT.frozen (h : PreT w g l) (i : Nat) : w.frozen? ⟨g, i, none⟩ = false := by obtain ⟨tl, h⟩ := h; exact h.frozen i
theorem PreT.ri (h : PreT w g l) : RT w w.heap.size (some ⟨g, 0, none⟩) l := fun _ => ⟨g, 0, rfl, h.lt, fun i hi => by rw [Nat.zero_add]; exact h.cell hi⟩
theorem PreT.holds (h : PreT w g l) : Sort.Holds encT w g 0 l.toArray := fun j hj => by
  have hj' : j < l.length := by simpa using hj
  refine ⟨?_, by rw [Nat.zero_add]; exact h.frozen j⟩
  rw [Nat.zero_add, h.cell hj']
  have e : l.toArray[j]! = l[j] := by simp [hj']
  rw [e]
  have e2 : tx l j = l[j] := by unfold tx; simp [List.getD, List.getElem?_eq_getElem hj']
  rw [e2]; rfl
theorem PreT.short {a b : List Bs} (h : PreT w g (a ++ b)) : PreT w g a := by
  obtain ⟨tl, h⟩ := h
  exact ⟨b.map encT ++ tl, by simpa using h⟩
theorem PreT.drewN (h : PreT w g l) (n : Nat) : PreT (w.drewN n) g l := h
theorem PreT.below {B : Nat} (h : PreT w g l) (hb : Below B w w') (hg : g < B) : PreT w' g l := by
  obtain ⟨tl, h⟩ := h
  exact ⟨tl, h.below hb hg⟩
theorem PreT.put (h : PreT w g l) (hl : m.length = l.length) (n : Nat) : PreT (Sort.putRow encT (Sort.ahead w n) g 0 m.toArray) g m := by
  obtain ⟨tl, h⟩ := h
  refine ⟨tl, ?_⟩
  have h1 : (Sort.ahead w n).heap[g]? = some (.cells (l.map encT ++ tl).toArray 9 (0, 0)) := h
  have h2 : (Sort.putRow encT (Sort.ahead w n) g 0 m.toArray).heap[g]? = some (.cells (Sort.putCells encT 0 m.toArray (l.map encT ++ tl).toArray) 9 (0, 0)) := by
    unfold Sort.putRow Sort.mapBlock
    simp only [Array.getElem?_modify, if_true, h1, Option.map_some]
    rfl
  have h3 : Sort.putCells encT 0 m.toArray (l.map encT ++ tl).toArray = (m.map encT ++ tl).toArray := by
    apply Array.ext_getElem?
    intro i
    unfold Sort.putCells
    rw [Array.getElem?_mapIdx]
    simp only [List.getElem?_toArray, List.getElem?_append, List.length_map, hl]
    by_cases hm : i < l.length
    · have e : m.toArray[i]! = m[i] := by simp [show i < m.length by omega]
      simp [hm, hl]
    · simp [hm, hl]
  unfold Blk
  rw [h2, h3]
end
theorem PreT.grow {w : World} {g : Nat} {l : List Bs} (h : PreT w g l) (os : Array Obj) : PreT (Sort.grow w os) g l := by
  obtain ⟨tl, h⟩ := h
  refine ⟨tl, ?_⟩
  unfold Blk at h ⊢
  rw [← h]
  have hlt : g < w.heap.size := Blk.lt h
  unfold Sort.grow
  simp [Array.getElem?_append, hlt]
theorem below_growT {B : Nat} {w w1 : World} (h : Below B w w1) (os : Array Obj) (hB : B ≤ w1.heap.size) : Below B w (Sort.grow w1 os) := by
  refine h.trans ⟨rfl, rfl, rfl, ?_, fun k hk => ?_⟩
  · unfold Sort.grow; simp
  · unfold Sort.grow
    simp [Array.getElem?_append, show k < w1.heap.size by omega]
theorem OwnX.pre {w : World} {base : Nat} {v : Value} {l : List Bs} (h : OwnX w base v l) : (v = .slice none 0 0 ∧ l = []) ∨ ∃ g cap, v = .slice (some ⟨g, 0, none⟩) l.length cap ∧ base ≤ g ∧ l.length ≤ cap ∧ cap ≤ maxLen ∧ PreT w g l := by
  rcases h.2 with ⟨rfl, h0⟩ | ⟨g, cap, cur, rfl, hg, hh, hn, hc, hsz, htk⟩
  · exact .inl ⟨rfl, List.eq_nil_of_length_eq_zero h0⟩
  · refine .inr ⟨g, cap, rfl, hg, hn, hc, cur.toList.drop l.length, ?_⟩
    rw [Nat.mul_one] at htk
    rw [← htk, List.take_append_drop]
    exact hh

theorem frm_putT {w : World} {g n : Nat} {m : List Bs} : Frm (fun k => k = g) w (Sort.putRow encT (Sort.ahead w n) g 0 m.toArray) := by
  refine ⟨rfl, rfl, rfl, ?_, fun k hk hs => ?_⟩
  · rw [put_sizeT]; exact Nat.le_refl _
  · unfold Sort.putRow Sort.mapBlock
    simp only [Array.getElem?_modify]
    rw [if_neg (fun e => hs e.symm)]
    rfl
theorem frm_growT {S : Nat → Prop} {w w1 : World} (h : Frm S w w1) (os : Array Obj) : Frm S w (Sort.grow w1 os) := by
  refine h.trans ⟨rfl, rfl, rfl, ?_, fun k hk _ => ?_⟩
  · unfold Sort.grow; simp
  · unfold Sort.grow
    simp [Array.getElem?_append, hk]
theorem OwnX.pre0 {w : World} {v : Value} {l : List Bs} (h : OwnX w 0 v l) : (v = .slice none 0 0 ∧ l = []) ∨ ∃ g cap, v = .slice (some ⟨g, 0, none⟩) l.length cap ∧ v.ownBlock = some g ∧ l.length ≤ cap ∧ cap ≤ maxLen ∧ PreT w g l := by
  rcases h.pre with ⟨h1, h2⟩ | ⟨g, cap, h1, _, h3, h4, h5⟩
  · exact .inl ⟨h1, h2⟩
  · exact .inr ⟨g, cap, h1, by rw [h1]; rfl, h3, h4, h5⟩
set_option maxHeartbeats 1000000 in
/-- Sort of a block that begins with l. -/
theorem sort_preT (g cap : Nat) (l : List Bs) (w : World) (h : PreT w g l) (hl : l.length ≤ 1000000000) :
    Calls Try.prog 56 #[.slice (some ⟨g, 0, none⟩) l.length cap] w fun e w' => e = .returned (.tuple #[]) ∧ PreT w' g (srtK l) ∧ Frm (fun k => k = g) w w' := by
  refine (Any.slices_Sort_string Try.laysSortS g 0 cap l w h.holds h.lt (by omega)).mono fun e w' ⟨he, n, os, hw⟩ => ?_
  refine ⟨he, ?_, ?_⟩
  · rw [hw]; exact (h.put (m := srtK l) (srtK_len l) n).grow os
  · rw [hw]; exact frm_growT frm_putT os
theorem sort_nilT (w : World) : Calls Try.prog 56 #[.slice none 0 0] w fun e w' => e = .returned (.tuple #[]) ∧ w = w' :=
  (Any.slices_Sort_string_none Try.laysSortS none 0 w).mono fun _e _w' ⟨he, hw⟩ => ⟨he, hw.symm⟩
set_option maxHeartbeats 1000000 in
theorem compact_preT (g cap : Nat) (l : List Bs) (w : World) (h : PreT w g (srtK l)) (hcap : l.length ≤ cap) (hl : l.length ≤ 1000000000) :
    Calls Try.prog 57 #[.slice (some ⟨g, 0, none⟩) l.length cap] w fun e w' => e = .returned (.slice (some ⟨g, 0, none⟩) (setK l).length cap) ∧ PreT w' g (setK l) ∧ Frm (fun k => k = g) w w' := by
  have hC := Any.slices_Compact_string Try.laysCompactS g 0 cap (srtK l) w h.holds (by rw [srtK_len]; omega) (by rw [srtK_len]; exact hcap)
  rw [srtK_len] at hC
  have HC : Hid (Calls Try.prog 57 #[.slice (some ⟨g, 0, none⟩) l.length cap] w fun e w' => e = .returned (.slice (some ⟨g, 0, none⟩) (setK l).length cap) ∧ ∃ q, w' = Sort.putRow encT (Sort.ahead w q) g 0 (setK l ++ List.replicate (l.length - (setK l).length) []).toArray) := hC
  have hsl := setK_le l
  refine HC.out.mono fun e w' ⟨he, q, hw⟩ => ⟨he, ?_, ?_⟩
  · rw [hw]
    exact (h.put (m := setK l ++ List.replicate (l.length - (setK l).length) []) (by rw [List.length_append, List.length_replicate, srtK_len]; omega) q).short
  · rw [hw]; exact frm_putT
theorem compact_nilT (w : World) : Calls Try.prog 57 #[.slice none 0 0] w fun e w' => e = .returned (.slice none 0 0) ∧ w = w' :=
  (Any.slices_Compact_string_empty Try.laysCompactS none 0 w).mono fun _e _w' ⟨he, hw⟩ => ⟨he, hw.symm⟩
end Go.Proofs.Ytcdpjodnbegepaa
