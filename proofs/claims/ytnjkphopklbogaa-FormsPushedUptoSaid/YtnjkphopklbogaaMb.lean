/- Rows of texts in memory; Sort and Compact of a row of the call's own; layer 30 (terms). The contracts of distinct, Names$1 and Names, of layer 30 (terms). The contracts of distinct and Names, of layer 30 (terms). Contracts of the specification's Kids and Part, of layer 30 (terms). Contracts of the specification's check and Check, of layer 30 (terms). Contracts of Check$1 and Check of layer 30 (terms). hasNext, kids, Kids, nothing, flawOfTerm; layer 32 (forms). nothing, flawOfTerm, flaw of layer 32 (forms). flaw of layer 32 (forms). -/
import Derived.Test.YtnjkphopklbogaaMa
import Derived.Shelf.Slices.CompactS
import Derived.Shelf.Sort.Plain
import Derived.Shelf.Slices.In.SortNone
import Derived.Shelf.Lay
import Derived.Ground.NamesProg
import Derived.Ground.Names2Prog
import Derived.Deep.RegionWith
namespace Go.Proofs.Ytnjkphopklbogaa
open Go.RowKit
open Go.Shelf

def Try.laysSortS_ren : Go.Shelf.Ren := ⟨fun | 190 => 37 | 125 => 64 | 258 => 63 | 128 => 92 | 129 => 93 | 302 => 83 | 303 => 84 | 304 => 85 | 305 => 86 | 306 => 87 | 307 => 88 | 308 => 89 | 309 => 90 | 310 => 91 | 333 => 101 | 329 => 102 | 330 => 103 | 334 => 104 | 335 => 105 | 336 => 106 | 344 => 113 | n => n, fun | 31 => 34 | 9 => 9 | 3 => 3 | 46 => 75 | 0 => 0 | 51 => 98 | 53 => 100 | 4 => 4 | 183 => 90 | 182 => 89 | 131 => 95 | 5 => 5 | 218 => 106 | 222 => 63 | 228 => 114 | 229 => 49 | n => n, fun | n => n⟩
theorem Try.laysSortS : Go.Proofs.Lays.n190 Try.prog Try.laysSortS_ren := {
  mixed := by kernel_rfl
  f125 := Try.func64.trans (congrArg some (by kernel_rfl))
  f128 := Try.func92.trans (congrArg some (by kernel_rfl))
  f129 := Try.func93.trans (congrArg some (by kernel_rfl))
  f190 := Try.func37.trans (congrArg some (by kernel_rfl))
  f258 := Try.func63.trans (congrArg some (by kernel_rfl))
  f302 := Try.func83.trans (congrArg some (by kernel_rfl))
  f303 := Try.func84.trans (congrArg some (by kernel_rfl))
  f304 := Try.func85.trans (congrArg some (by kernel_rfl))
  f305 := Try.func86.trans (congrArg some (by kernel_rfl))
  f306 := Try.func87.trans (congrArg some (by kernel_rfl))
  f307 := Try.func88.trans (congrArg some (by kernel_rfl))
  f308 := Try.func89.trans (congrArg some (by kernel_rfl))
  f309 := Try.func90.trans (congrArg some (by kernel_rfl))
  f310 := Try.func91.trans (congrArg some (by kernel_rfl))
  f329 := Try.func102.trans (congrArg some (by kernel_rfl))
  f330 := Try.func103.trans (congrArg some (by kernel_rfl))
  f333 := Try.func101.trans (congrArg some (by kernel_rfl))
  f334 := Try.func104.trans (congrArg some (by kernel_rfl))
  f335 := Try.func105.trans (congrArg some (by kernel_rfl))
  f336 := Try.func106.trans (congrArg some (by kernel_rfl))
  f344 := Try.func113.trans (congrArg some (by kernel_rfl))
  t0 := Try.underlying0
  a0 := Try.isAgg0
  z0 := Try.sizeOf0
  v0 := Try.zeroValue0
  t3 := Try.underlying3
  a3 := Try.isAgg3
  z3 := Try.sizeOf3
  v3 := Try.zeroValue3
  t4 := Try.underlying4
  a4 := Try.isAgg4
  z4 := Try.sizeOf4
  v4 := Try.zeroValue4
  t5 := Try.underlying5
  a5 := Try.isAgg5
  z5 := Try.sizeOf5
  v5 := Try.zeroValue5
  t9 := Try.underlying9
  a9 := Try.isAgg9
  z9 := Try.sizeOf9
  v9 := Try.zeroValue9
  t31 := Try.underlying34
  a31 := Try.isAgg34
  z31 := Try.sizeOf34
  v31 := Try.zeroValue34
  t46 := Try.underlying75
  a46 := Try.isAgg75
  z46 := Try.sizeOf75
  v46 := Try.zeroValue75
  t51 := Try.underlying98
  a51 := Try.isAgg98
  z51 := Try.sizeOf98
  v51 := Try.zeroValue98
  t53 := Try.underlying100
  a53 := Try.isAgg100
  z53 := Try.sizeOf100
  v53 := Try.zeroValue100
  t131 := Try.underlying95
  a131 := Try.isAgg95
  z131 := Try.sizeOf95
  v131 := Try.zeroValue95
  t182 := Try.underlying89
  a182 := Try.isAgg89
  z182 := Try.sizeOf89
  v182 := Try.zeroValue89
  t183 := Try.underlying90
  a183 := Try.isAgg90
  z183 := Try.sizeOf90
  v183 := Try.zeroValue90
  t218 := Try.underlying106
  a218 := Try.isAgg106
  z218 := Try.sizeOf106
  v218 := Try.zeroValue106
  t222 := Try.underlying63
  a222 := Try.isAgg63
  z222 := Try.sizeOf63
  v222 := Try.zeroValue63
  t228 := Try.underlying114
  a228 := Try.isAgg114
  z228 := Try.sizeOf114
  v228 := Try.zeroValue114
  t229 := Try.underlying49
  a229 := Try.isAgg49
  z229 := Try.sizeOf49
  v229 := Try.zeroValue49 }
def Try.laysCompactS_ren : Go.Shelf.Ren := ⟨fun | 194 => 38 | n => n, fun | 31 => 34 | 9 => 9 | 3 => 3 | 4 => 4 | 0 => 0 | n => n, fun | n => n⟩
theorem Try.laysCompactS : Go.Proofs.Lays.n194 Try.prog Try.laysCompactS_ren := {
  mixed := by kernel_rfl
  f194 := Try.func38.trans (congrArg some (by kernel_rfl))
  t0 := Try.underlying0
  a0 := Try.isAgg0
  z0 := Try.sizeOf0
  v0 := Try.zeroValue0
  t3 := Try.underlying3
  a3 := Try.isAgg3
  z3 := Try.sizeOf3
  v3 := Try.zeroValue3
  t4 := Try.underlying4
  a4 := Try.isAgg4
  z4 := Try.sizeOf4
  v4 := Try.zeroValue4
  t9 := Try.underlying9
  a9 := Try.isAgg9
  z9 := Try.sizeOf9
  v9 := Try.zeroValue9
  t31 := Try.underlying34
  a31 := Try.isAgg34
  z31 := Try.sizeOf34
  v31 := Try.zeroValue34 }
abbrev encT : Bs → Value := fun l => .string ⟨l.toArray⟩
def tx (l : List Bs) (k : Nat) : Bs := l.getD k []
/-- The slice whose address is A reads as the texts l, below block B. -/
def RT (w : World) (B : Nat) (A : Option Addr) (l : List Bs) : Prop :=
  0 < l.length → ∃ b off, A = some ⟨b, off, none⟩ ∧ b < B ∧ ∀ i, i < l.length → w.cell? ⟨b, off + i, none⟩ = some (.string (bs (tx l i)))
section
variable {w w' : World} {B B' : Nat} {A : Option Addr} {l : List Bs}
theorem RT.below (h : RT w B A l) (hb : Below B w w') : RT w' B A l := fun hl => by
  obtain ⟨b, off, e, hB, hc⟩ := h hl
  exact ⟨b, off, e, hB, fun i hi => (hb.cell (p := ⟨b, off + i, none⟩) hB).trans (hc i hi)⟩
theorem RT.more (h : RT w B A l) (hB : B ≤ B') : RT w B' A l := fun hl => by
  obtain ⟨b, off, e, hb, hc⟩ := h hl
  exact ⟨b, off, e, by omega, hc⟩
theorem RT.step (h : RT w w.heap.size A l) (hb : Below w.heap.size w w') : RT w' w'.heap.size A l := (h.below hb).more hb.size
theorem RT.nil : RT w B A [] := fun h => absurd h (by simp)
end
theorem info9 : (Try.prog.info? 9).map (fun i => (i.zero, i.size, i.bytes)) = some (some (.string ⟨#[]⟩), 1, 16) := by kernel_rfl
def OwnX (w : World) (base : Nat) (v : Value) (l : List Bs) : Prop := w.ownsRow base 9 1 v l.length (l.map encT)
theorem OwnX.form {w : World} {base : Nat} {v : Value} {l : List Bs} (h : OwnX w base v l) : ∃ A c, v = .slice A l.length c ∧ RT w w.heap.size A l ∧ (A = none → c = 0) := by
  rcases h.2 with ⟨rfl, h0⟩ | ⟨g, cap, cur, rfl, hg, hh, hn, hc, hsz, htk⟩
  · have : l = [] := List.eq_nil_of_length_eq_zero h0
    subst this
    exact ⟨none, 0, rfl, RT.nil, fun _ => rfl⟩
  · refine ⟨_, cap, rfl, fun hp => ⟨g, 0, rfl, ?_, fun i hi => ?_⟩, fun e => by cases e⟩
    · rcases Nat.lt_or_ge g w.heap.size with hlt | hge
      · exact hlt
      · rw [Array.getElem?_eq_none hge] at hh; cases hh
    · rw [Nat.zero_add, cell_of_row w g i cur 9 (0, 0) hh]
      have h2 : (l.map encT)[i]? = some (.string (bs (tx l i))) := by unfold tx bs; simp [hi]
      rw [← htk, List.getElem?_take] at h2
      split at h2
      · simpa using h2
      · cases h2
theorem OwnX.push {w : World} {base : Nat} {v : Value} {l : List Bs} {b : Bs} (h : w.ownsRow base 9 1 v (l.length + 1) (l.map encT ++ [encT b])) : OwnX w base v (l ++ [b]) := by
  unfold OwnX; simpa using h
theorem OwnX.keep {w w' : World} {base : Nat} {v : Value} {l : List Bs} (h : OwnX w base v l) (hb : Below w.heap.size w w') : OwnX w' base v l := by
  obtain ⟨h1, h2⟩ := h
  refine ⟨h1, ?_⟩
  rcases h2 with h2 | ⟨g, cap, cur, e, hg, hh, r⟩
  · exact .inl h2
  · have hlt : g < w.heap.size := by
      rcases Nat.lt_or_ge g w.heap.size with q | q
      · exact q
      · rw [Array.getElem?_eq_none q] at hh; cases hh
    exact .inr ⟨g, cap, cur, e, hg, (hb.block g hlt).trans hh, r⟩
theorem OwnX.lt {w : World} {B : Nat} {v : Value} {l : List Bs} (h : OwnX w B v l) (k : Nat) (e : v.ownBlock = some k) : k < w.heap.size := by
  rcases h.2 with ⟨rfl, _⟩ | ⟨g, cap, cur, rfl, hg, hh, _⟩
  · simp [Value.ownBlock] at e
  · simp [Value.ownBlock] at e
    subst e
    rcases Nat.lt_or_ge g w.heap.size with q | q
    · exact q
    · rw [Array.getElem?_eq_none q] at hh; cases hh
theorem put_sizeT {w : World} {g n : Nat} {m : List Bs} : (Sort.putRow encT (Sort.ahead w n) g 0 m.toArray).heap.size = w.heap.size := by
  unfold Sort.putRow Sort.mapBlock; simp [Sort.ahead]
theorem OwnX.frm {w w' : World} {B : Nat} {v : Value} {l : List Bs} {S : Nat → Prop} (h : OwnX w B v l) (hf : Frm S w w') (hn : ∀ k, v.ownBlock = some k → ¬ S k) : OwnX w' B v l := by
  obtain ⟨h1, h2⟩ := h
  refine ⟨h1, ?_⟩
  rcases h2 with h2 | ⟨g, cap, cur, e, hg, hh, r⟩
  · exact .inl h2
  · have hlt : g < w.heap.size := by
      rcases Nat.lt_or_ge g w.heap.size with q | q
      · exact q
      · rw [Array.getElem?_eq_none q] at hh; cases hh
    exact .inr ⟨g, cap, cur, e, hg, (hf.block g hlt (hn g (by rw [e]; rfl))).trans hh, r⟩

/-- Block g begins with the texts l. -/
def PreT (w : World) (g : Nat) (l : List Bs) : Prop := ∃ tl : List Value, Blk w g 9 (l.map encT ++ tl).toArray
section
variable {w w' : World} {g : Nat} {l m : List Bs}
theorem PreT.cell (h : PreT w g l) {i : Nat} (hi : i < l.length) : w.cell? ⟨g, i, none⟩ = some (.string (bs (tx l i))) := by
  obtain ⟨tl, h⟩ := h
  rw [h.cell]
  unfold tx bs
  simp [List.getElem?_append, hi, List.getD]
theorem PreT.lt (h : PreT w g l) : g < w.heap.size := by obtain ⟨tl, h⟩ := h; exact h.lt
theorem PreT.frozen (h : PreT w g l) (i : Nat) : w.frozen? ⟨g, i, none⟩ = false := by obtain ⟨tl, h⟩ := h; exact h.frozen i
theorem PreT.ri (h : PreT w g l) : RT w w.heap.size (some ⟨g, 0, none⟩) l := fun _ => ⟨g, 0, rfl, h.lt, fun i hi => by rw [Nat.zero_add]; exact h.cell hi⟩
theorem PreT.holds (h : PreT w g l) : Sort.Holds encT w g 0 l.toArray := fun j hj => by
  have hj' : j < l.length := by simpa using hj
  refine ⟨?_, by rw [Nat.zero_add]; exact h.frozen j⟩
  rw [Nat.zero_add, h.cell hj']
  have e : l.toArray[j]! = l[j] := by simp [hj']
  rw [e]
  have e2 : tx l j = l[j] := by unfold tx; simp [List.getD, List.getElem?_eq_getElem hj']
  rw [e2]; rfl
theorem PreT.short {a b : List Bs} (h : PreT w g (a ++ b)) : PreT w g a := by
  obtain ⟨tl, h⟩ := h
  exact ⟨b.map encT ++ tl, by simpa using h⟩
theorem PreT.drewN (h : PreT w g l) (n : Nat) : PreT (w.drewN n) g l := h
theorem PreT.below {B : Nat} (h : PreT w g l) (hb : Below B w w') (hg : g < B) : PreT w' g l := by
  obtain ⟨tl, h⟩ := h
  exact ⟨tl, h.below hb hg⟩
theorem PreT.put (h : PreT w g l) (hl : m.length = l.length) (n : Nat) : PreT (Sort.putRow encT (Sort.ahead w n) g 0 m.toArray) g m := by
  obtain ⟨tl, h⟩ := h
  refine ⟨tl, ?_⟩
  have h1 : (Sort.ahead w n).heap[g]? = some (.cells (l.map encT ++ tl).toArray 9 (0, 0)) := h
  have h2 : (Sort.putRow encT (Sort.ahead w n) g 0 m.toArray).heap[g]? = some (.cells (Sort.putCells encT 0 m.toArray (l.map encT ++ tl).toArray) 9 (0, 0)) := by
    unfold Sort.putRow Sort.mapBlock
    simp only [Array.getElem?_modify, if_true, h1, Option.map_some]
    rfl
  have h3 : Sort.putCells encT 0 m.toArray (l.map encT ++ tl).toArray = (m.map encT ++ tl).toArray := by
    apply Array.ext_getElem?
    intro i
    unfold Sort.putCells
    rw [Array.getElem?_mapIdx]
    simp only [List.getElem?_toArray, List.getElem?_append, List.length_map, hl]
    by_cases hm : i < l.length
    · have e : m.toArray[i]! = m[i] := by simp [show i < m.length by omega]
      simp [hm, hl]
    · simp [hm, hl]
  unfold Blk
  rw [h2, h3]
end
theorem PreT.grow {w : World} {g : Nat} {l : List Bs} (h : PreT w g l) (os : Array Obj) : PreT (Sort.grow w os) g l := by
  obtain ⟨tl, h⟩ := h
  refine ⟨tl, ?_⟩
  unfold Blk at h ⊢
  rw [← h]
  have hlt : g < w.heap.size := Blk.lt h
  unfold Sort.grow
  simp [Array.getElem?_append, hlt]
theorem below_growT {B : Nat} {w w1 : World} (h : Below B w w1) (os : Array Obj) (hB : B ≤ w1.heap.size) : Below B w (Sort.grow w1 os) := by
  refine h.trans ⟨rfl, rfl, rfl, ?_, fun k hk => ?_⟩
  · unfold Sort.grow; simp
  · unfold Sort.grow
    simp [Array.getElem?_append, show k < w1.heap.size by omega]
theorem OwnX.pre {w : World} {base : Nat} {v : Value} {l : List Bs} (h : OwnX w base v l) : (v = .slice none 0 0 ∧ l = []) ∨ ∃ g cap, v = .slice (some ⟨g, 0, none⟩) l.length cap ∧ base ≤ g ∧ l.length ≤ cap ∧ cap ≤ maxLen ∧ PreT w g l := by
  rcases h.2 with ⟨rfl, h0⟩ | ⟨g, cap, cur, rfl, hg, hh, hn, hc, hsz, htk⟩
  · exact .inl ⟨rfl, List.eq_nil_of_length_eq_zero h0⟩
  · refine .inr ⟨g, cap, rfl, hg, hn, hc, cur.toList.drop l.length, ?_⟩
    rw [Nat.mul_one] at htk
    rw [← htk, List.take_append_drop]
    exact hh

theorem frm_putT {w : World} {g n : Nat} {m : List Bs} : Frm (fun k => k = g) w (Sort.putRow encT (Sort.ahead w n) g 0 m.toArray) := by
  refine ⟨rfl, rfl, rfl, ?_, fun k hk hs => ?_⟩
  · rw [put_sizeT]; exact Nat.le_refl _
  · unfold Sort.putRow Sort.mapBlock
    simp only [Array.getElem?_modify]
    rw [if_neg (fun e => hs e.symm)]
    rfl
theorem frm_growT {S : Nat → Prop} {w w1 : World} (h : Frm S w w1) (os : Array Obj) : Frm S w (Sort.grow w1 os) := by
  refine h.trans ⟨rfl, rfl, rfl, ?_, fun k hk _ => ?_⟩
  · unfold Sort.grow; simp
  · unfold Sort.grow
    simp [Array.getElem?_append, hk]
theorem OwnX.pre0 {w : World} {v : Value} {l : List Bs} (h : OwnX w 0 v l) : (v = .slice none 0 0 ∧ l = []) ∨ ∃ g cap, v = .slice (some ⟨g, 0, none⟩) l.length cap ∧ v.ownBlock = some g ∧ l.length ≤ cap ∧ cap ≤ maxLen ∧ PreT w g l := by
  rcases h.pre with ⟨h1, h2⟩ | ⟨g, cap, h1, _, h3, h4, h5⟩
  · exact .inl ⟨h1, h2⟩
  · exact .inr ⟨g, cap, h1, by rw [h1]; rfl, h3, h4, h5⟩
set_option maxHeartbeats 1000000 in
/-- Sort of a block that begins with l. -/
theorem sort_preT (g cap : Nat) (l : List Bs) (w : World) (h : PreT w g l) (hl : l.length ≤ 1000000000) :
    Calls Try.prog 37 #[.slice (some ⟨g, 0, none⟩) l.length cap] w fun e w' => e = .returned (.tuple #[]) ∧ PreT w' g (srtK l) ∧ Frm (fun k => k = g) w w' := by
  refine (Any.slices_Sort_string Try.laysSortS g 0 cap l w h.holds h.lt (by omega)).mono fun e w' ⟨he, n, os, hw⟩ => ?_
  refine ⟨he, ?_, ?_⟩
  · rw [hw]; exact (h.put (m := srtK l) (srtK_len l) n).grow os
  · rw [hw]; exact frm_growT frm_putT os
theorem sort_nilT (w : World) : Calls Try.prog 37 #[.slice none 0 0] w fun e w' => e = .returned (.tuple #[]) ∧ w = w' :=
  (Any.slices_Sort_string_none Try.laysSortS none 0 w).mono fun _e _w' ⟨he, hw⟩ => ⟨he, hw.symm⟩
set_option maxHeartbeats 1000000 in
theorem compact_preT (g cap : Nat) (l : List Bs) (w : World) (h : PreT w g (srtK l)) (hcap : l.length ≤ cap) (hl : l.length ≤ 1000000000) :
    Calls Try.prog 38 #[.slice (some ⟨g, 0, none⟩) l.length cap] w fun e w' => e = .returned (.slice (some ⟨g, 0, none⟩) (setK l).length cap) ∧ PreT w' g (setK l) ∧ Frm (fun k => k = g) w w' := by
  have hC := Any.slices_Compact_string Try.laysCompactS g 0 cap (srtK l) w h.holds (by rw [srtK_len]; omega) (by rw [srtK_len]; exact hcap)
  rw [srtK_len] at hC
  have HC : Hid (Calls Try.prog 38 #[.slice (some ⟨g, 0, none⟩) l.length cap] w fun e w' => e = .returned (.slice (some ⟨g, 0, none⟩) (setK l).length cap) ∧ ∃ q, w' = Sort.putRow encT (Sort.ahead w q) g 0 (setK l ++ List.replicate (l.length - (setK l).length) []).toArray) := hC
  have hsl := setK_le l
  refine HC.out.mono fun e w' ⟨he, q, hw⟩ => ⟨he, ?_, ?_⟩
  · rw [hw]
    exact (h.put (m := setK l ++ List.replicate (l.length - (setK l).length) []) (by rw [List.length_append, List.length_replicate, srtK_len]; omega) q).short
  · rw [hw]; exact frm_putT
theorem compact_nilT (w : World) : Calls Try.prog 38 #[.slice none 0 0] w fun e w' => e = .returned (.slice none 0 0) ∧ w = w' :=
  (Any.slices_Compact_string_empty Try.laysCompactS none 0 w).mono fun _e _w' ⟨he, hw⟩ => ⟨he, hw.symm⟩
end Go.Proofs.Ytnjkphopklbogaa
namespace Go.Proofs.Ytnjkphopklbogaa
open Go.RowKit

abbrev St2 := List Bs × List Bs
def stN (s : St2) (t : Ex) (_d : Int) : St2 × Bool := ((if t.op = 3 then s.1 ++ [key t.nm] else s.1, if t.op = 4 then s.2 ++ [key t.nm] else s.2), true)
theorem stN_mu (s : St2) (t : Ex) (d : Int) : (stN s t d).1.1.length + (stN s t d).1.2.length ≤ s.1.length + s.2.length + 1 := by
  show (if t.op = 3 then s.1 ++ [key t.nm] else s.1).length + (if t.op = 4 then s.2 ++ [key t.nm] else s.2).length ≤ _
  split
  · rename_i h
    rw [if_neg (by omega)]
    simp; omega
  · split <;> simp
    omega
mutual
theorem vis_n : ∀ (t : Ex) (d : Int) (s : St2), vis stN t d s = ((s.1 ++ occ 3 t, s.2 ++ occ 4 t), true)
  | .mk o v m ks, d, s => by
    show visL stN ks (d + 1) (if o = 3 then s.1 ++ [key m] else s.1, if o = 4 then s.2 ++ [key m] else s.2) = ((s.1 ++ ((if o = 3 then [key m] else []) ++ occL 3 ks), s.2 ++ ((if o = 4 then [key m] else []) ++ occL 4 ks)), true)
    rw [visL_n]
    by_cases h3 : o = 3
    · rw [if_pos h3, if_pos h3, if_neg (by omega), if_neg (by omega)]; simp
    · rw [if_neg h3, if_neg h3]
      by_cases h4 : o = 4
      · rw [if_pos h4, if_pos h4]; simp
      · rw [if_neg h4, if_neg h4]; simp
theorem visL_n : ∀ (l : List Ex) (d : Int) (s : St2), visL stN l d s = ((s.1 ++ occL 3 l, s.2 ++ occL 4 l), true)
  | [], d, s => by
    show (s, true) = ((s.1 ++ [], s.2 ++ []), true)
    simp
  | t :: r, d, s => by
    show (if (vis stN t d s).2 then visL stN r d (vis stN t d s).1 else ((vis stN t d s).1, false)) = ((s.1 ++ (occ 3 t ++ occL 3 r), s.2 ++ (occ 4 t ++ occL 4 r)), true)
    rw [vis_n t d s]
    show visL stN r d (s.1 ++ occ 3 t, s.2 ++ occ 4 t) = _
    rw [visL_n]
    simp
end
theorem OwnX.eqb {w w' : World} {B : Nat} {v : Value} {l : List Bs} (h : OwnX w B v l) (hb : ∀ k, v.ownBlock = some k → k < w.heap.size → w'.heap[k]? = w.heap[k]?) : OwnX w' B v l := by
  have hl := h.lt
  obtain ⟨h1, h2⟩ := h
  refine ⟨h1, ?_⟩
  rcases h2 with h2 | ⟨g, cap, cur, e, hg, hh, r⟩
  · exact .inl h2
  · have e2 : v.ownBlock = some g := by rw [e]; rfl
    exact .inr ⟨g, cap, cur, e, hg, (hb g e2 (hl g e2)).trans hh, r⟩
theorem set_blk1 (w : World) {g x : Nat} (i : Nat) (v : Value) (h : x ≠ g) : (w.setCell ⟨g, i, none⟩ v).heap[x]? = w.heap[x]? := by
  have h2 : g ≠ x := fun e => h e.symm
  simp [World.setCell, Array.getElem?_modify, h2]
theorem grown_frm {S : Nat → Prop} {w w1 : World} {row : Option Nat} (hg : w.grownBy w1 row) (hr : ∀ k, row = some k → S k) : Frm S w w1 :=
  ⟨hg.os, hg.tape, hg.output, hg.size, fun k hk hs => hg.block k hk (fun e => hs (hr k e.symm))⟩
theorem rowAt {v2 v : Value} {h : Nat} (hat : v2.ownBlock = v.ownBlock ∨ v2.ownBlock = some h) : ∀ k, v2.ownBlock = some k → v.ownBlock = some k ∨ k = h := fun k hk => by
  rcases hat with e | e
  · exact .inl (by rw [← e]; exact hk)
  · exact .inr (by rw [e] at hk; exact (Option.some.inj hk).symm)
structure InD (bp bq : Nat) (S : Nat → Prop) (s : St2) (w : World) : Prop where
  sp : S bp
  sq : S bq
  ne : bp ≠ bq
  rows : ∃ v u, Blk w bp 34 #[v] ∧ Blk w bq 34 #[u] ∧ OwnX w 0 v s.1 ∧ OwnX w 0 u s.2 ∧ (∀ k, v.ownBlock = some k → S k ∧ k ≠ bp ∧ k ≠ bq ∧ u.ownBlock ≠ some k) ∧ (∀ k, u.ownBlock = some k → S k ∧ k ≠ bp ∧ k ≠ bq)
theorem InD.kept (bp bq : Nat) : KeptI (InD bp bq) where
  step := fun S s w w' ⟨h1, h2, h3, v, u, p1, p2, p3, p4, p5, p6⟩ hb => ⟨h1, h2, h3, v, u, p1.below hb p1.lt, p2.below hb p2.lt, p3.keep hb, p4.keep hb, p5, p6⟩
  narrow := fun S s w h ⟨h1, h2, h3, v, u, p1, p2, p3, p4, p5, p6⟩ hh => ⟨⟨h1, fun e => by have := p1.lt; omega⟩, ⟨h2, fun e => by have := p2.lt; omega⟩, h3, v, u, p1, p2, p3, p4, fun k hk => ⟨⟨(p5 k hk).1, fun e => by have := p3.lt k hk; omega⟩, (p5 k hk).2⟩, fun k hk => ⟨⟨(p6 k hk).1, fun e => by have := p4.lt k hk; omega⟩, (p6 k hk).2⟩⟩
  widen := fun S S' s w ⟨h1, h2, h3, v, u, p1, p2, p3, p4, p5, p6⟩ hs => ⟨hs _ h1, hs _ h2, h3, v, u, p1, p2, p3, p4, fun k hk => ⟨hs _ (p5 k hk).1, (p5 k hk).2⟩, fun k hk => ⟨hs _ (p6 k hk).1, (p6 k hk).2⟩⟩
/-- The same with the two rows in each other's place. -/
theorem InD.turn {bp bq : Nat} {S : Nat → Prop} {s : St2} {w : World} (h : InD bp bq S s w) : InD bq bp S (s.2, s.1) w := by
  obtain ⟨h1, h2, h3, v, u, p1, p2, p3, p4, p5, p6⟩ := h
  exact ⟨h2, h1, fun e => h3 e.symm, u, v, p2, p1, p4, p3, fun k hk => ⟨(p6 k hk).1, (p6 k hk).2.2, (p6 k hk).2.1, fun e => (p5 k e).2.2.2 hk⟩, fun k hk => ⟨(p5 k hk).1, (p5 k hk).2.2.1, (p5 k hk).2.1⟩⟩
/-- One row has grown by a text and is stored anew. -/
theorem InD.push {bp bq : Nat} {S : Nat → Prop} {s : St2} {w W w1 : World} {v u v2 : Value} {x : Bs} (hF : ∀ b, w.heap.size ≤ b → S b) (h1 : S bp) (h2 : S bq) (h3 : bp ≠ bq) (p1 : Blk w bp 34 #[v]) (p2 : Blk w bq 34 #[u]) (p4 : OwnX w 0 u s.2)
    (p5 : ∀ k, v.ownBlock = some k → S k ∧ k ≠ bp ∧ k ≠ bq ∧ u.ownBlock ≠ some k) (p6 : ∀ k, u.ownBlock = some k → S k ∧ k ≠ bp ∧ k ≠ bq) (hW : Below w.heap.size w W) (hg : W.grownBy w1 v.ownBlock) (ho : OwnX w1 0 v2 (s.1 ++ [x]))
    (hat : ∀ k, v2.ownBlock = some k → v.ownBlock = some k ∨ k = W.heap.size) : InD bp bq S (s.1 ++ [x], s.2) (w1.setCell ⟨bp, 0, none⟩ v2) ∧ Frm S w (w1.setCell ⟨bp, 0, none⟩ v2) := by
  have hz := hW.size
  have hv2 : ∀ k, v2.ownBlock = some k → S k ∧ k ≠ bp ∧ k ≠ bq ∧ u.ownBlock ≠ some k := fun k hk => by
    rcases hat k hk with e | e
    · exact p5 k e
    · have l1 := p1.lt
      have l2 := p2.lt
      exact ⟨hF k (by omega), by omega, by omega, fun e2 => by have := p4.lt k e2; omega⟩
  have keep : ∀ k, k < w.heap.size → v.ownBlock ≠ some k → w1.heap[k]? = w.heap[k]? := fun k hk hn => (hg.block k (by omega) (fun e => hn e.symm)).trans (hW.block k hk)
  have q1 : Blk w1 bp 34 #[v] := (keep bp p1.lt (fun e => (p5 bp e).2.1 rfl)).trans p1
  have q2 : Blk w1 bq 34 #[u] := (keep bq p2.lt (fun e => (p5 bq e).2.2.1 rfl)).trans p2
  refine ⟨⟨h1, h2, h3, v2, u, q1.set_ 0 v2, (set_blk1 _ _ _ (fun e => h3 e.symm)).trans q2, ho.eqb (fun k hk _ => set_blk1 _ _ _ (hv2 k hk).2.1), p4.eqb (fun k hk hl => (set_blk1 _ _ _ (p6 k hk).2.1).trans (keep k hl (fun e => (p5 k e).2.2.2 hk))), hv2, p6⟩, ?_⟩
  exact (((Frm.of_below hW).trans (grown_frm hg (fun k hk => (p5 k hk).1)))).set h1 _ _
set_option maxRecDepth 100000 in
set_option maxHeartbeats 4000000 in
theorem pr_Names1 (bp bq : Nat) (S : Nat → Prop) (s : St2) (w : World) (t : Ex) (A : Option Addr) (c : Nat) (d : Int) (hI : InD bp bq S s w) (hF : ∀ b, w.heap.size ≤ b → S b) (hm : s.1.length + s.2.length + 1 ≤ 1000000000) :
    Calls Try.prog 61 #[exV t A c, .int .i64 d, .pointer (some ⟨bp, 0, none⟩), .pointer (some ⟨bq, 0, none⟩)] w (VisP (InD bp bq) S w (stN s t d)) := by
  obtain ⟨i0, hi0, hz0, hz1, hz2⟩ := info_parts info9
  have hK := InD.kept bp bq
  have HAL : Hid (∀ ob, Below w.heap.size w (w.alloc ob)) := Lib.hid (fun ob => (Below.refl _ _).alloc (Nat.le_refl _) ob)
  by_cases ho : t.op = 3
  · obtain ⟨R, hR⟩ : ∃ R, stN s t d = R := ⟨_, rfl⟩
    have HR : Hid (R = ((s.1 ++ [key t.nm], s.2), true)) := Lib.hid (by rw [← hR]; unfold stN; rw [if_pos ho, if_neg (by omega)])
    rw [hR]
    have hob : (t.op == 3) = true := by simp [ho]
    have hob2 : (t.op == 3) = true := by simp [ho]
    obtain ⟨h1, h2, h3, v, u, p1, p2, p3, p4, p5, p6⟩ := hI
    show Calls Try.prog 61 #[.agg #[.int .i64 t.op, .int .i64 t.vr, .string t.nm, .slice A t.ks.length c], .int .i64 d, .pointer (some ⟨bp, 0, none⟩), .pointer (some ⟨bq, 0, none⟩)] w (VisP (InD bp bq) S w R)
    have HP : Hid (∀ w1 v2, (((w.alloc (.cells #[.int .i64 t.op, .int .i64 t.vr, .string t.nm, .slice A t.ks.length c] 24)).alloc (.cells #[.string t.nm] 9)).grownBy w1 v.ownBlock) → OwnX w1 0 v2 (s.1 ++ [key t.nm]) → (∀ k, v2.ownBlock = some k → v.ownBlock = some k ∨ k = ((w.alloc (.cells #[.int .i64 t.op, .int .i64 t.vr, .string t.nm, .slice A t.ks.length c] 24)).alloc (.cells #[.string t.nm] 9)).heap.size) → InD bp bq S (s.1 ++ [key t.nm], s.2) (w1.setCell ⟨bp, 0, none⟩ v2) ∧ Frm S w (w1.setCell ⟨bp, 0, none⟩ v2)) := Lib.hid (fun w1 v2 hg ho hat => InD.push hF h1 h2 h3 p1 p2 p4 p5 p6 (al (al (Below.refl _ _) _) _) hg ho hat)
    have HB : Hid (∀ w1, (((w.alloc (.cells #[.int .i64 t.op, .int .i64 t.vr, .string t.nm, .slice A t.ks.length c] 24)).alloc (.cells #[.string t.nm] 9)).grownBy w1 v.ownBlock) → Blk w1 bp 34 #[v]) := Lib.hid (fun w1 hg => by
      have hl := p1.lt
      exact (hg.block bp (by simp; omega) (fun e => (p5 bp e.symm).2.1 rfl)).trans ((al (al (Below.refl _ _) _) _ : Below w.heap.size w _).block _ hl |>.trans p1))
    have HO : Hid (OwnX w 0 v s.1) := Lib.hid p3
    have e0 : w.cell? ⟨bp, 0, none⟩ = some v := p1.cell 0
    have hlt := p1.lt
    clear hR h1 h2 h3 p1 p2 p3 p4 p5 p6 hF ho
    obtain ⟨Av, cv, rfl⟩ : ∃ A c, v = .slice A s.1.length c := by obtain ⟨A, c, h, _⟩ := HO.out.form; exact ⟨A, c, h⟩
    go_enter Try.func61, Try.ntmps61
    go_wp2_with (at_builtin; refine wpList_append_own_at _ rfl _ _ 34 rfl 0 9 i0 _ 1 16 Try.underlying34 hi0 hz0 hz1 hz2 rfl (by decide) _ _ _ rfl (World.ownsRow.alloc (World.ownsRow.alloc HO.out _) _) ⟨w.heap.size + 1, 0, none⟩ 1 1 [.string t.nm] rfl rfl (by have h := cell_one_new (w.alloc (.cells #[.int .i64 t.op, .int .i64 t.vr, .string t.nm, .slice A t.ks.length c] 24)) (.string t.nm) 9; simpa using h) (by simp [Value.oneCell']) (max_ok (by omega)) (by omega) (Nat.zero_le _) ?_; intro v2 w1 hown hg1 _ hat; have ho2 : OwnX w1 0 v2 (s.1 ++ [key t.nm]) := OwnX.push (b := key t.nm) hown; obtain ⟨A2, c2, e2, _⟩ := ho2.form; subst e2; have hkb := HB.out w1 hg1; have f1 := hkb.frozen 0; have f2 : w1.cell? ⟨bp, 0, none⟩ = some (.slice Av s.1.length cv) := hkb.cell 0; have f3 := hkb.lt; have HF := Lib.hid (HP.out w1 _ hg1 ho2 (rowAt hat)); clear hown hg1 hat ho2 hkb)
    go_ret
    rw [HR.out]
    exact ⟨rfl, by have h := HF.out; simpa using h.1, by have h := HF.out; simpa using h.2⟩
  by_cases ho4 : t.op = 4
  · obtain ⟨R, hR⟩ : ∃ R, stN s t d = R := ⟨_, rfl⟩
    have HR : Hid (R = ((s.1, s.2 ++ [key t.nm]), true)) := Lib.hid (by rw [← hR]; unfold stN; rw [if_neg ho, if_pos ho4])
    rw [hR]
    have hob : (t.op == 4) = true := by simp [ho4]
    have hob2 : (t.op == 3) = false := by simp [ho4]
    obtain ⟨h1, h2, h3, v, u, p1, p2, p3, p4, p5, p6⟩ := hI.turn
    show Calls Try.prog 61 #[.agg #[.int .i64 t.op, .int .i64 t.vr, .string t.nm, .slice A t.ks.length c], .int .i64 d, .pointer (some ⟨bp, 0, none⟩), .pointer (some ⟨bq, 0, none⟩)] w (VisP (InD bp bq) S w R)
    have HP : Hid (∀ w1 v2, (((w.alloc (.cells #[.int .i64 t.op, .int .i64 t.vr, .string t.nm, .slice A t.ks.length c] 24)).alloc (.cells #[.string t.nm] 9)).grownBy w1 v.ownBlock) → OwnX w1 0 v2 (s.2 ++ [key t.nm]) → (∀ k, v2.ownBlock = some k → v.ownBlock = some k ∨ k = ((w.alloc (.cells #[.int .i64 t.op, .int .i64 t.vr, .string t.nm, .slice A t.ks.length c] 24)).alloc (.cells #[.string t.nm] 9)).heap.size) → InD bp bq S (s.1, s.2 ++ [key t.nm]) (w1.setCell ⟨bq, 0, none⟩ v2) ∧ Frm S w (w1.setCell ⟨bq, 0, none⟩ v2)) := Lib.hid (fun w1 v2 hg ho hat => by
      have h := InD.push (s := (s.2, s.1)) hF h1 h2 h3 p1 p2 p4 p5 p6 (al (al (Below.refl _ _) _) _) hg ho hat
      exact ⟨h.1.turn, h.2⟩)
    have HB : Hid (∀ w1, (((w.alloc (.cells #[.int .i64 t.op, .int .i64 t.vr, .string t.nm, .slice A t.ks.length c] 24)).alloc (.cells #[.string t.nm] 9)).grownBy w1 v.ownBlock) → Blk w1 bq 34 #[v]) := Lib.hid (fun w1 hg => by
      have hl := p1.lt
      exact (hg.block bq (by simp; omega) (fun e => (p5 bq e.symm).2.1 rfl)).trans ((al (al (Below.refl _ _) _) _ : Below w.heap.size w _).block _ hl |>.trans p1))
    have HO : Hid (OwnX w 0 v s.2) := Lib.hid p3
    have e0 : w.cell? ⟨bq, 0, none⟩ = some v := p1.cell 0
    have hlt := p1.lt
    clear hR h1 h2 h3 p1 p2 p3 p4 p5 p6 hF ho ho4
    obtain ⟨Av, cv, rfl⟩ : ∃ A c, v = .slice A s.2.length c := by obtain ⟨A, c, h, _⟩ := HO.out.form; exact ⟨A, c, h⟩
    go_enter Try.func61, Try.ntmps61
    go_wp2_with (at_builtin; refine wpList_append_own_at _ rfl _ _ 34 rfl 0 9 i0 _ 1 16 Try.underlying34 hi0 hz0 hz1 hz2 rfl (by decide) _ _ _ rfl (World.ownsRow.alloc (World.ownsRow.alloc HO.out _) _) ⟨w.heap.size + 1, 0, none⟩ 1 1 [.string t.nm] rfl rfl (by have h := cell_one_new (w.alloc (.cells #[.int .i64 t.op, .int .i64 t.vr, .string t.nm, .slice A t.ks.length c] 24)) (.string t.nm) 9; simpa using h) (by simp [Value.oneCell']) (max_ok (by omega)) (by omega) (Nat.zero_le _) ?_; intro v2 w1 hown hg1 _ hat; have ho2 : OwnX w1 0 v2 (s.2 ++ [key t.nm]) := OwnX.push (b := key t.nm) hown; obtain ⟨A2, c2, e2, _⟩ := ho2.form; subst e2; have hkb := HB.out w1 hg1; have f1 := hkb.frozen 0; have f2 : w1.cell? ⟨bq, 0, none⟩ = some (.slice Av s.2.length cv) := hkb.cell 0; have f3 := hkb.lt; have HF := Lib.hid (HP.out w1 _ hg1 ho2 (rowAt hat)); clear hown hg1 hat ho2 hkb)
    go_ret
    rw [HR.out]
    exact ⟨rfl, by have h := HF.out; simpa using h.1, by have h := HF.out; simpa using h.2⟩
  · obtain ⟨R, hR⟩ : ∃ R, stN s t d = R := ⟨_, rfl⟩
    have HR : Hid (R = (s, true)) := Lib.hid (by rw [← hR]; unfold stN; rw [if_neg ho, if_neg ho4])
    rw [hR]
    have hob : (t.op == 3) = false := by simp [ho]
    have hob4 : (t.op == 4) = false := by simp [ho4]
    have HI := Lib.hid (hK.step _ _ _ _ hI (HAL.out (.cells (exC t A c) 24)))
    clear hR hI hF hK ho ho4
    go_enter Try.func61, Try.ntmps61
    go_wp2
    go_ret
    rw [HR.out]
    exact ⟨rfl, HI.out, Frm.of_below (HAL.out _)⟩
end Go.Proofs.Ytnjkphopklbogaa
namespace Go.Proofs.Ytnjkphopklbogaa
open Go.RowKit

theorem RT.frm {w w' : World} {B : Nat} {A : Option Addr} {l : List Bs} {S : Nat → Prop} (h : RT w B A l) (hf : Frm S w w') (hB : B ≤ w.heap.size) (hS : ∀ b f, A = some ⟨b, f, none⟩ → ¬ S b) : RT w' B A l := fun hl => by
  obtain ⟨b, off, e, hb, hc⟩ := h hl
  exact ⟨b, off, e, hb, fun i hi => (World.cell?_of_block (a := ⟨b, off + i, none⟩) (hf.block b (by omega) (hS b off e))).trans (hc i hi)⟩
def DisP (v : Value) (l : List Bs) (w : World) (e : Ending) (w' : World) : Prop := ∃ A c, e = .returned (.slice A (setK l).length c) ∧ RT w' w'.heap.size A (setK l) ∧ (∀ b f, A = some ⟨b, f, none⟩ → v.ownBlock = some b) ∧ Frm (fun k => v.ownBlock = some k) w w'
set_option maxRecDepth 100000 in
set_option maxHeartbeats 2000000 in
theorem pr_distinct (v : Value) (l : List Bs) (w : World) (h : OwnX w 0 v l) (hl : l.length ≤ 1000000000) : Calls Try.prog 62 #[v] w (DisP v l w) := by
  rcases h.pre0 with ⟨rfl, rfl⟩ | ⟨g, cap, rfl, hg, hcap, hcm, hP⟩
  · go_enter Try.func62, Try.ntmps62
    go_wp2_with (first | (go_at_call 37; (with_reducible refine (sort_nilT _).mono ?_); rintro e w3 ⟨rfl, rfl⟩) | (go_at_call 38; (with_reducible refine (compact_nilT _).mono ?_); rintro e w3 ⟨rfl, rfl⟩))
    go_ret
    refine ⟨none, 0, ?_, ?_, (fun b f e => by cases e), Frm.refl _ _⟩
    · rw [setK_nil]; rfl
    · rw [setK_nil]; exact RT.nil
  · have HP := Lib.hid hP
    have HG : Hid (∀ l2 c2, (Value.slice (some ⟨g, 0, none⟩) l2 c2).ownBlock = some g) := Lib.hid (fun _ _ => rfl)
    clear h hP hg
    go_enter Try.func62, Try.ntmps62
    go_wp2_with (first
      | (go_at_call 37; (with_reducible refine (sort_preT _ _ _ _ HP.out (by omega)).mono ?_); rintro e w3 ⟨rfl, hP3, hf3⟩; have HP3 := Lib.hid hP3; have HF3 := Lib.hid hf3; clear hP3 hf3)
      | (go_at_call 38; (with_reducible refine (compact_preT _ _ _ _ HP3.out hcap (by omega)).mono ?_); rintro e w4 ⟨rfl, hP4, hf4⟩; have HP4 := Lib.hid hP4; have HF4 := Lib.hid hf4; clear hP4 hf4))
    go_ret
    refine ⟨some ⟨g, 0, none⟩, cap, rfl, HP4.out.ri, fun b f e => ?_, (HF3.out.trans HF4.out).mono (fun k hk => by rw [hk]; exact HG.out _ _)⟩
    cases e
    exact HG.out _ _
def NamP (L M : List Bs) (w : World) (e : Ending) (w' : World) : Prop := ∃ A c B d, e = .returned (.tuple #[.slice A L.length c, .slice B M.length d]) ∧ RT w' w'.heap.size A L ∧ RT w' w'.heap.size B M ∧ Below w.heap.size w w'
set_option maxRecDepth 100000 in
set_option maxHeartbeats 4000000 in
theorem pr_Names (t : Ex) (A : Option Addr) (c : Nat) (w : World) (hs : t.sz ≤ 100000000) (hR : Rep w.heap.size w A t) : Calls Try.prog 36 #[exV t A c] w (NamP (setK (occ 3 t)) (setK (occ 4 t)) w) := by
  have HV : Hid (∀ (bp bq : Nat) W, InD bp bq (fun b => w.heap.size ≤ b) ([], []) W → w.heap.size ≤ W.heap.size → Rep w.heap.size W A t → Calls Try.prog 60 #[exV t A c, .int .i64 1, .func (.func 61) #[] #[.pointer (some ⟨bp, 0, none⟩), .pointer (some ⟨bq, 0, none⟩)]] W (VisP (InD bp bq) (fun b => w.heap.size ≤ b) W ((occ 3 t, occ 4 t), true))) := Lib.hid (fun bp bq W hI hW hR => by
    have h := pr_visitM (InD bp bq) stN w.heap.size (.pointer (some ⟨bp, 0, none⟩)) (.pointer (some ⟨bq, 0, none⟩)) (fun s => s.1.length + s.2.length) 100000000 stN_mu (InD.kept bp bq) (fun S s w t A c d hI _ hF _ _ _ _ hm => pr_Names1 bp bq S s w t A c d hI hF (by omega)) t.sz t (Nat.le_refl _) A c 1 _ _ W hI (fun b hb h => by omega) (fun b hb => by omega) hW hR (by omega) (by omega) (by simpa using hs)
    rw [vis_n t 1 ([], [])] at h
    exact h)
  have HR := Lib.hid hR
  have h3 := occ_le 3 t
  have h4 := occ_le 4 t
  have hl3 : (occ 3 t).length ≤ 1000000000 := by omega
  have hl4 : (occ 4 t).length ≤ 1000000000 := by omega
  clear hR h3 h4
  generalize occ 3 t = L at *
  generalize occ 4 t = M at *
  have HX : Hid (∀ o1, InD (w.heap.size + 1) (w.heap.size + 1 + 1) (fun b => w.heap.size ≤ b) ([], []) (((w.alloc o1).alloc (.cells #[.slice none 0 0] 34)).alloc (.cells #[.slice none 0 0] 34)) ∧ w.heap.size ≤ (((w.alloc o1).alloc (.cells #[.slice none 0 0] 34)).alloc (.cells #[.slice none 0 0] 34)).heap.size ∧ Rep w.heap.size (((w.alloc o1).alloc (.cells #[.slice none 0 0] 34)).alloc (.cells #[.slice none 0 0] 34)) A t ∧ Below w.heap.size w (((w.alloc o1).alloc (.cells #[.slice none 0 0] 34)).alloc (.cells #[.slice none 0 0] 34))) := Lib.hid (fun o1 => by
    have z1 : (w.alloc o1).heap.size = w.heap.size + 1 := by simp
    have b1 := Blk.new (w.alloc o1) 34 #[.slice none 0 0]
    have b2 := Blk.new ((w.alloc o1).alloc (.cells #[.slice none 0 0] 34)) 34 #[.slice none 0 0]
    have z2 : ((w.alloc o1).alloc (.cells #[.slice none 0 0] 34)).heap.size = w.heap.size + 1 + 1 := by simp
    have b3 := b1.alloc (.cells #[.slice none 0 0] 34)
    rw [z1] at b3
    rw [z2] at b2
    have hb : Below w.heap.size w (((w.alloc o1).alloc (.cells #[.slice none 0 0] 34)).alloc (.cells #[.slice none 0 0] 34)) := al (al (al (Below.refl _ _) _) _) _
    exact ⟨⟨by omega, by omega, by omega, _, _, b3, b2, ⟨rfl, .inl ⟨rfl, rfl⟩⟩, ⟨rfl, .inl ⟨rfl, rfl⟩⟩, (fun k hk => by cases hk), (fun k hk => by cases hk)⟩, hb.size, HR.out.under hb, hb⟩)
  go_enter Try.func36, Try.ntmps36
  go_upto_region 2 with (go_at_call 60; (with_reducible refine (HV.out _ _ _ (HX.out _).1 (HX.out _).2.1 (HX.out _).2.2.1).mono ?_); rintro e w1 ⟨rfl, hI, hf⟩; have HI := Lib.hid hI; have HF := Lib.hid ((HX.out _).2.2.2.trans (hf.below2 (fun k hk h => by omega) (HX.out _).2.1)); clear hI hf)
  obtain ⟨s1, s2, hne, v, u, p1, p2, p3, p4, p5, p6⟩ := HI.out
  clear HX HI HV
  generalize w.heap.size + 1 + 1 = bq at *
  generalize w.heap.size + 1 = bp at *
  have e0 : w1.cell? ⟨bp, 0, none⟩ = some v := p1.cell 0
  have e1 : w1.cell? ⟨bq, 0, none⟩ = some u := p2.cell 0
  have HD1 : Hid (Calls Try.prog 62 #[v] w1.drew (DisP v L w1)) := Lib.hid ((pr_distinct v L w1.drew p3 hl3).mono (fun e w2 ⟨A2, c2, h1, h2, h3, h4⟩ => ⟨A2, c2, h1, h2, h3, (Frm.of_below (Below.refl _ _).drew).trans h4⟩))
  have HD2 : Hid (∀ w2, Frm (fun k => v.ownBlock = some k) w1 w2 → (w2.cell? ⟨bp, 0, none⟩ = some v ∧ w2.cell? ⟨bq, 0, none⟩ = some u) ∧ Calls Try.prog 62 #[u] w2 (DisP u M w2)) := Lib.hid (fun w2 hf => ⟨⟨(p1.frm hf (fun e => (p5 _ e).2.1 rfl)).cell 0, (p2.frm hf (fun e => (p5 _ e).2.2.1 rfl)).cell 0⟩, pr_distinct u M w2 (p4.eqb (fun k hk hkl => hf.block k hkl (fun e => (p5 k e).2.2.2 hk))) hl4⟩)
  have HE : Hid (∀ w2 w3 A2 B2, Frm (fun k => v.ownBlock = some k) w1 w2 → Frm (fun k => u.ownBlock = some k) w2 w3 → RT w2 w2.heap.size A2 (setK L) → RT w3 w3.heap.size B2 (setK M) → (∀ b f, A2 = some ⟨b, f, none⟩ → v.ownBlock = some b) → (∀ b f, B2 = some ⟨b, f, none⟩ → u.ownBlock = some b) →
      Blk w3 bp 34 #[v] ∧ Blk w3 bq 34 #[u] ∧ ∀ x y, RT ((w3.setCell ⟨bp, 0, none⟩ x).setCell ⟨bq, 0, none⟩ y) ((w3.setCell ⟨bp, 0, none⟩ x).setCell ⟨bq, 0, none⟩ y).heap.size A2 (setK L) ∧ RT ((w3.setCell ⟨bp, 0, none⟩ x).setCell ⟨bq, 0, none⟩ y) ((w3.setCell ⟨bp, 0, none⟩ x).setCell ⟨bq, 0, none⟩ y).heap.size B2 (setK M) ∧ Below w.heap.size w ((w3.setCell ⟨bp, 0, none⟩ x).setCell ⟨bq, 0, none⟩ y) ∧ ((w3.setCell ⟨bp, 0, none⟩ x).setCell ⟨bq, 0, none⟩ y).cell? ⟨bp, 0, none⟩ = some x ∧ ((w3.setCell ⟨bp, 0, none⟩ x).setCell ⟨bq, 0, none⟩ y).cell? ⟨bq, 0, none⟩ = some y) := Lib.hid (fun w2 w3 A2 B2 hf1 hf2 hA hB hA2 hB2 => by
    have f12 : Frm (fun k => w.heap.size ≤ k) w1 w2 := hf1.mono (fun k hk => (p5 k hk).1)
    have f23 : Frm (fun k => w.heap.size ≤ k) w2 w3 := hf2.mono (fun k hk => (p6 k hk).1)
    have r1 := (p1.frm hf1 (fun e => (p5 _ e).2.1 rfl)).frm hf2 (fun e => (p6 _ e).2.1 rfl)
    have r2 := (p2.frm hf1 (fun e => (p5 _ e).2.2.1 rfl)).frm hf2 (fun e => (p6 _ e).2.2 rfl)
    refine ⟨r1, r2, fun x y => ?_⟩
    have g3 : Frm (fun k => k = bp ∨ k = bq) w3 ((w3.setCell ⟨bp, 0, none⟩ x).setCell ⟨bq, 0, none⟩ y) := ((Frm.refl _ _).set (.inl rfl) _ _).set (.inr rfl) _ _
    have hA3 := hA.frm hf2 (Nat.le_refl _) (fun b f e e2 => (p5 b (hA2 b f e)).2.2.2 e2)
    refine ⟨?_, ?_, HF.out.trans (((f12.trans f23).trans (g3.mono (fun k hk => by rcases hk with rfl | rfl <;> omega))).below2 (fun k hk h => by omega) HF.out.size), ?_, ?_⟩
    · refine ((hA3.more hf2.size).frm g3 (Nat.le_refl _) (fun b f e e2 => ?_)).more g3.size
      have h := p5 b (hA2 b f e)
      rcases e2 with e2 | e2
      · exact h.2.1 e2
      · exact h.2.2.1 e2
    · refine (hB.frm g3 (Nat.le_refl _) (fun b f e e2 => ?_)).more g3.size
      have h := p6 b (hB2 b f e)
      rcases e2 with e2 | e2
      · exact h.2.1 e2
      · exact h.2.2 e2
    · have q1 : Blk ((w3.setCell ⟨bp, 0, none⟩ x).setCell ⟨bq, 0, none⟩ y) bp 34 #[x] := (set_blk1 _ _ _ hne).trans (r1.set_ 0 x)
      exact q1.cell 0
    · have q2 : Blk (w3.setCell ⟨bp, 0, none⟩ x) bq 34 #[u] := (set_blk1 _ _ _ (fun e => hne e.symm)).trans r2
      exact (q2.set_ 0 y).cell 0)
  clear p1 p2 p3 p4 p5 p6 s1 s2 HR
  go_region_with (first
    | (go_at_call 62; first
      | ((with_reducible refine HD1.out.mono ?_); rintro e w2 ⟨A2, c2, rfl, hRA, hA2, hf1⟩; obtain ⟨h2, hc2⟩ := HD2.out w2 hf1; have HC2 := Lib.hid hc2; have HA := Lib.hid hRA; have HA2 := Lib.hid hA2; have HF1 := Lib.hid hf1; clear hc2 hRA hA2 hf1)
      | ((with_reducible refine HC2.out.mono ?_); rintro e w3 ⟨B2, d2, rfl, hRB, hB2, hf2⟩; obtain ⟨k1, k2, hE⟩ := HE.out w2 w3 A2 B2 HF1.out hf2 HA.out hRB HA2.out hB2; have y0 : w3.cell? ⟨bp, 0, none⟩ = some v := k1.cell 0; have y1 := k1.frozen 0; have y2 : w3.cell? ⟨bq, 0, none⟩ = some u := k2.cell 0; have y3 := k2.frozen 0; have y4 := k1.lt; have y5 := k2.lt; have HEE := Lib.hid hE; clear hRB hB2 hf2 k1 k2 hE)))
  all_goals go_wp2
  all_goals obtain ⟨z1, z2, z3, z4, z5⟩ := HEE.out (.slice A2 (setK L).length c2) (.slice B2 (setK M).length d2)
  all_goals refine bodyPost_ret (v := .tuple #[.slice A2 (setK L).length c2, .slice B2 (setK M).length d2]) (by simp [results, Try.results36, go_sem, z4, z5]) rfl ?_
  all_goals exact ⟨A2, c2, B2, d2, rfl, z1, z2, z3⟩
end Go.Proofs.Ytnjkphopklbogaa
namespace Go.Proofs.Ytnjkphopklbogaa
open Go.RowKit
set_option maxHeartbeats 1000000 in
theorem rf_Kids_out (o : Int) (w : World) (h : o < 1 ∨ 18 < o) : Calls Try.prog 115 #[.int .i64 o] w fun e w' => e = .returned (.tuple #[.int .i64 (-1), .int .i64 (-1)]) ∧ w = w' := by
  have ne : ∀ k : Int, 1 ≤ k → k ≤ 18 → (o == k) = false := fun k h1 h2 => by
    rw [beq_eq_false_iff_ne]
    intro e
    omega
  have e1 := ne 1 (by omega) (by omega)
  have e2 := ne 2 (by omega) (by omega)
  have e3 := ne 3 (by omega) (by omega)
  have e4 := ne 4 (by omega) (by omega)
  have e5 := ne 5 (by omega) (by omega)
  have e6 := ne 6 (by omega) (by omega)
  have e7 := ne 7 (by omega) (by omega)
  have e18 := ne 18 (by omega) (by omega)
  clear ne
  rcases h with h | h
  all_goals
    go_enter Try.func115, Try.ntmps115
    go_wp2
    go_ret2
    exact ⟨rfl, rfl⟩
set_option maxHeartbeats 1000000 in
theorem rf_Kids_in (o : Int) (w : World) (h : ¬ (o < 1 ∨ 18 < o)) : Calls Try.prog 115 #[.int .i64 o] w fun e w' => e = .returned (.tuple #[.int .i64 (kidL o), .int .i64 (kidM o)]) ∧ w = w' := by
  by_cases h1 : o = 1
  · subst h1; go_enter Try.func115, Try.ntmps115; go_wp2; go_ret2; exact ⟨rfl, rfl⟩
  by_cases h2 : o = 2
  · subst h2; go_enter Try.func115, Try.ntmps115; go_wp2; go_ret2; exact ⟨rfl, rfl⟩
  by_cases h3 : o = 3
  · subst h3; go_enter Try.func115, Try.ntmps115; go_wp2; go_ret2; exact ⟨rfl, rfl⟩
  by_cases h4 : o = 4
  · subst h4; go_enter Try.func115, Try.ntmps115; go_wp2; go_ret2; exact ⟨rfl, rfl⟩
  by_cases h5 : o = 5
  · subst h5; go_enter Try.func115, Try.ntmps115; go_wp2; go_ret2; exact ⟨rfl, rfl⟩
  by_cases h6 : o = 6
  · subst h6; go_enter Try.func115, Try.ntmps115; go_wp2; go_ret2; exact ⟨rfl, rfl⟩
  by_cases h7 : o = 7
  · subst h7; go_enter Try.func115, Try.ntmps115; go_wp2; go_ret2; exact ⟨rfl, rfl⟩
  by_cases h18 : o = 18
  · subst h18; go_enter Try.func115, Try.ntmps115; go_wp2; go_ret2; exact ⟨rfl, rfl⟩
  have X : Hid (kidL o = 2 ∧ kidM o = 2) := Lib.hid (by simp [kidL, kidM, h1, h2, h3, h4, h5, h6, h7, h18])
  have l1 : ¬ o < 1 := by omega
  have l2 : ¬ 18 < o := by omega
  have e1 : (o == 1) = false := by simp [h1]
  have e2 : (o == 2) = false := by simp [h2]
  have e3 : (o == 3) = false := by simp [h3]
  have e4 : (o == 4) = false := by simp [h4]
  have e5 : (o == 5) = false := by simp [h5]
  have e6 : (o == 6) = false := by simp [h6]
  have e7 : (o == 7) = false := by simp [h7]
  have e18 : (o == 18) = false := by simp [h18]
  clear h
  go_enter Try.func115, Try.ntmps115
  go_wp2
  go_ret2
  exact ⟨by rw [X.out.1, X.out.2]; rfl, rfl⟩
theorem toList_ne {m : ByteArray} : (m.toList == []) = decide (m.size = 0) := by
  have h : m.toList = m.data.toList := ByteArray.toList_eq m
  rw [h]
  have hs : m.data.toList.length = m.size := by rw [Array.length_toList]; rfl
  by_cases hz : m.size = 0
  · have : m.data.toList = [] := List.eq_nil_of_length_eq_zero (hs.trans hz)
    rw [this, decide_eq_true hz]; rfl
  · have : m.data.toList ≠ [] := fun e => hz (by rw [← hs, e]; rfl)
    rw [decide_eq_false hz]
    exact beq_eq_false_iff_ne.2 this
set_option maxHeartbeats 4000000 in
theorem rf_Part (o v : Int) (m : ByteArray) (n : Nat) (A : Option Addr) (c : Nat) (d : Int) (w : World) : Calls Try.prog 112 #[.agg #[.int .i64 o, .int .i64 v, .string m, .slice A n c], .int .i64 d] w fun e w' => e = .returned (.int .i64 (flawS o v m.size n d 0)) ∧ Below w.heap.size w w' := by
  have HB : Hid (∀ ob, Below w.heap.size w (w.alloc ob)) := Lib.hid (fun ob => (Below.refl _ _).alloc (Nat.le_refl _) ob)
  obtain ⟨R, hR⟩ : ∃ R, flawS o v m.size n d 0 = R := ⟨_, rfl⟩
  rw [hR]
  unfold flawS at hR
  have hR := hR.symm
  by_cases h1 : 64 < d
  · rw [if_pos h1] at hR
    have X := Lib.hid hR
    clear hR
    go_enter Try.func112, Try.ntmps112
    go_wp2
    go_ret
    exact ⟨by rw [X.out]; rfl, HB.out _⟩
  rw [if_neg h1] at hR
  by_cases h2 : o < 1 ∨ 18 < o
  · rw [if_pos h2] at hR
    have X := Lib.hid hR
    have HK := Lib.hid (fun w => rf_Kids_out o w h2)
    clear hR h2
    go_enter Try.func112, Try.ntmps112
    go_wp2_with (go_at_call 115; (with_reducible refine (HK.out _).mono ?_); rintro e w1 ⟨rfl, rfl⟩)
    go_ret
    exact ⟨by rw [X.out]; rfl, HB.out _⟩
  rw [if_neg h2] at hR
  have HK := Lib.hid (fun w => rf_Kids_in o w h2)
  have kb : 0 ≤ kidL o := by unfold kidL; split <;> (try split) <;> (try split) <;> omega
  obtain ⟨b, hm⟩ : ∃ b, (m.toList == []) = b := ⟨_, rfl⟩
  have hz : b = decide (m.size = 0) := by rw [← hm, toList_ne]
  by_cases g1 : o = 1
  · subst g1
    have HR : Hid (R = if v < -255 ∨ 255 < v then 2 else if (m.size : Int) < 0 ∨ 0 < (m.size : Int) then 12 else if (n : Int) < kidL 1 ∨ kidM 1 < (n : Int) then 3 else 0) := Lib.hid hR
    generalize kidL 1 = kl at *
    generalize kidM 1 = km at *
    have hn1 : ¬ kl < 0 := by omega
    clear hR h2
    cases b
    · have hz2 : ¬ m.size = 0 := by simpa using hz.symm
      clear hz
      go_enter Try.func112, Try.ntmps112
      go_wp2_with (go_at_call 115; (with_reducible refine (HK.out _).mono ?_); rintro e w1 ⟨rfl, rfl⟩)
      all_goals (go_ret; refine ⟨congrArg Ending.returned (congrArg (Value.int .i64) (?_ : _ = R)), HB.out _⟩; rw [HR.out]; (repeat' split) <;> omega)
    · have hz2 : m.size = 0 := by simpa using hz.symm
      clear hz
      go_enter Try.func112, Try.ntmps112
      go_wp2_with (go_at_call 115; (with_reducible refine (HK.out _).mono ?_); rintro e w1 ⟨rfl, rfl⟩)
      all_goals (go_ret; refine ⟨congrArg Ending.returned (congrArg (Value.int .i64) (?_ : _ = R)), HB.out _⟩; rw [HR.out]; (repeat' split) <;> omega)
  by_cases g2 : o = 2
  · subst g2
    have HR : Hid (R = if v < 0 ∨ 1 < v then 2 else if (m.size : Int) < 0 ∨ 0 < (m.size : Int) then 12 else if (n : Int) < kidL 2 ∨ kidM 2 < (n : Int) then 3 else 0) := Lib.hid hR
    generalize kidL 2 = kl at *
    generalize kidM 2 = km at *
    have hn1 : ¬ kl < 0 := by omega
    clear hR h2
    cases b
    · have hz2 : ¬ m.size = 0 := by simpa using hz.symm
      clear hz
      go_enter Try.func112, Try.ntmps112
      go_wp2_with (go_at_call 115; (with_reducible refine (HK.out _).mono ?_); rintro e w1 ⟨rfl, rfl⟩)
      all_goals (go_ret; refine ⟨congrArg Ending.returned (congrArg (Value.int .i64) (?_ : _ = R)), HB.out _⟩; rw [HR.out]; (repeat' split) <;> omega)
    · have hz2 : m.size = 0 := by simpa using hz.symm
      clear hz
      go_enter Try.func112, Try.ntmps112
      go_wp2_with (go_at_call 115; (with_reducible refine (HK.out _).mono ?_); rintro e w1 ⟨rfl, rfl⟩)
      all_goals (go_ret; refine ⟨congrArg Ending.returned (congrArg (Value.int .i64) (?_ : _ = R)), HB.out _⟩; rw [HR.out]; (repeat' split) <;> omega)
  by_cases g3 : o = 3
  · subst g3
    have HR : Hid (R = if v < 0 ∨ 0 < v then 2 else if (m.size : Int) < 1 ∨ 24 < (m.size : Int) then 12 else if (n : Int) < kidL 3 ∨ kidM 3 < (n : Int) then 3 else 0) := Lib.hid hR
    generalize kidL 3 = kl at *
    generalize kidM 3 = km at *
    have hn1 : ¬ kl < 0 := by omega
    clear hR h2
    cases b
    · have hz2 : ¬ m.size = 0 := by simpa using hz.symm
      clear hz
      go_enter Try.func112, Try.ntmps112
      go_wp2_with (go_at_call 115; (with_reducible refine (HK.out _).mono ?_); rintro e w1 ⟨rfl, rfl⟩)
      all_goals (go_ret; refine ⟨congrArg Ending.returned (congrArg (Value.int .i64) (?_ : _ = R)), HB.out _⟩; rw [HR.out]; (repeat' split) <;> omega)
    · have hz2 : m.size = 0 := by simpa using hz.symm
      clear hz
      go_enter Try.func112, Try.ntmps112
      go_wp2_with (go_at_call 115; (with_reducible refine (HK.out _).mono ?_); rintro e w1 ⟨rfl, rfl⟩)
      all_goals (go_ret; refine ⟨congrArg Ending.returned (congrArg (Value.int .i64) (?_ : _ = R)), HB.out _⟩; rw [HR.out]; (repeat' split) <;> omega)
  by_cases g4 : o = 4
  · subst g4
    have HR : Hid (R = if v < 0 ∨ 0 < v then 2 else if (m.size : Int) < 1 ∨ 24 < (m.size : Int) then 12 else if (n : Int) < kidL 4 ∨ kidM 4 < (n : Int) then 3 else 0) := Lib.hid hR
    generalize kidL 4 = kl at *
    generalize kidM 4 = km at *
    have hn1 : ¬ kl < 0 := by omega
    clear hR h2
    cases b
    · have hz2 : ¬ m.size = 0 := by simpa using hz.symm
      clear hz
      go_enter Try.func112, Try.ntmps112
      go_wp2_with (go_at_call 115; (with_reducible refine (HK.out _).mono ?_); rintro e w1 ⟨rfl, rfl⟩)
      all_goals (go_ret; refine ⟨congrArg Ending.returned (congrArg (Value.int .i64) (?_ : _ = R)), HB.out _⟩; rw [HR.out]; (repeat' split) <;> omega)
    · have hz2 : m.size = 0 := by simpa using hz.symm
      clear hz
      go_enter Try.func112, Try.ntmps112
      go_wp2_with (go_at_call 115; (with_reducible refine (HK.out _).mono ?_); rintro e w1 ⟨rfl, rfl⟩)
      all_goals (go_ret; refine ⟨congrArg Ending.returned (congrArg (Value.int .i64) (?_ : _ = R)), HB.out _⟩; rw [HR.out]; (repeat' split) <;> omega)
  have HR : Hid (R = if v < 0 ∨ 0 < v then 2 else if (m.size : Int) < 0 ∨ 0 < (m.size : Int) then 12 else if (n : Int) < kidL o ∨ kidM o < (n : Int) then 3 else 0) := Lib.hid (by
    have a1 : numL o = 0 := by simp [numL, g1]
    have a2 : numM o = 0 := by simp [numM, g1, g2]
    have a3 : lenL o = 0 := by simp [lenL, g3, g4]
    have a4 : lenM o = 0 := by simp [lenM, g3, g4]
    rw [a1, a2, a3, a4] at hR
    exact hR)
  have e1 : (o == 1) = false := by simp [g1]
  have e2 : (o == 2) = false := by simp [g2]
  have e3 : (o == 3) = false := by simp [g3]
  have e4 : (o == 4) = false := by simp [g4]
  generalize kidL o = kl at *
  generalize kidM o = km at *
  have hn1 : ¬ kl < 0 := by omega
  clear hR h2 g1 g2 g3 g4
  cases b
  · have hz2 : ¬ m.size = 0 := by simpa using hz.symm
    clear hz
    go_enter Try.func112, Try.ntmps112
    go_wp2_with (go_at_call 115; (with_reducible refine (HK.out _).mono ?_); rintro e w1 ⟨rfl, rfl⟩)
    all_goals (go_ret; refine ⟨congrArg Ending.returned (congrArg (Value.int .i64) (?_ : _ = R)), HB.out _⟩; rw [HR.out]; (repeat' split) <;> omega)
  · have hz2 : m.size = 0 := by simpa using hz.symm
    clear hz
    go_enter Try.func112, Try.ntmps112
    go_wp2_with (go_at_call 115; (with_reducible refine (HK.out _).mono ?_); rintro e w1 ⟨rfl, rfl⟩)
    all_goals (go_ret; refine ⟨congrArg Ending.returned (congrArg (Value.int .i64) (?_ : _ = R)), HB.out _⟩; rw [HR.out]; (repeat' split) <;> omega)
end Go.Proofs.Ytnjkphopklbogaa
namespace Go.Proofs.Ytnjkphopklbogaa
open Go.RowKit

mutual
/-- What check answers of a node at depth d behind k nodes: the error, and the nodes so far. -/
def chk : Ex → Int → Int → Int × Int
  | .mk o v m ks, d, k => if flawS o v m.size ks.length d (wrap64 (k + 1)) = 0 then chkL ks (d + 1) (wrap64 (k + 1)) else (flawS o v m.size ks.length d (wrap64 (k + 1)), wrap64 (k + 1))
def chkL : List Ex → Int → Int → Int × Int
  | [], _, k => (0, k)
  | t :: r, d, k => if (chk t d k).1 = 0 then chkL r d (chk t d k).2 else chk t d k
end
theorem chk_eq (t : Ex) (d k : Int) : chk t d k = if flawS t.op t.vr t.nm.size t.ks.length d (wrap64 (k + 1)) = 0 then chkL t.ks (d + 1) (wrap64 (k + 1)) else (flawS t.op t.vr t.nm.size t.ks.length d (wrap64 (k + 1)), wrap64 (k + 1)) := by cases t; rfl
theorem chkL_step {l : List Ex} {i : Nat} (h : i < l.length) (d k : Int) : chkL (l.drop i) d k = if (chk (kd l i) d k).1 = 0 then chkL (l.drop (i + 1)) d (chk (kd l i) d k).2 else chk (kd l i) d k := by
  rw [kd_drop h]; rfl
def chkE (t : Ex) : Int := (chk t 1 0).1
def Two (R : Int × Int) (w : World) (e : Ending) (w' : World) : Prop := e = .returned (.tuple #[.int .i64 R.1, .int .i64 R.2]) ∧ Below w.heap.size w w'
theorem flaw_part (o v : Int) (L : Nat) (n d k : Int) : flawS o v L n d k = if flawS o v L n d 0 = 0 then (if 4096 < k then 4 else 0) else flawS o v L n d 0 := by
  unfold flawS
  by_cases h1 : 64 < d
  · simp [h1]
  by_cases h2 : o < 1 ∨ 18 < o
  · simp [h1, h2]
  by_cases h3 : v < numL o ∨ numM o < v
  · simp [h1, h2, h3]
  by_cases h4 : (L : Int) < lenL o ∨ lenM o < (L : Int)
  · simp [h1, h2, h3, h4]
  by_cases h5 : n < kidL o ∨ kidM o < n
  · simp [h1, h2, h3, h4, h5]
  simp [h1, h2, h3, h4, h5]
theorem flaw_some {o v : Int} {L : Nat} {n d k : Int} (h : flawS o v L n d k = 0) : (1 ≤ o ∧ o ≤ 18) ∧ d ≤ 64 ∧ n ≤ kidM o ∧ k ≤ 4096 := by
  unfold flawS at h
  (repeat' split at h) <;> first | omega | (exfalso; omega)
set_option maxHeartbeats 4000000 in
theorem rf_check : ∀ (n : Nat) t, t.sz ≤ n → ∀ A c (d k : Int) w, Rep w.heap.size w A t → 0 ≤ d → d + (n : Int) ≤ 1000000000 →
    Calls Try.prog 100 #[exV t A c, .int .i64 d, .int .i64 k] w (Two (chk t d k) w) := by
  intro n
  induction n with
  | zero => intro t h; have := sz_eq t; omega
  | succ n ih =>
    intro t ht A c d k w hR hd0 hd1
    have HIH := Lib.hid ih
    have HR := Lib.hid hR
    have hlen := szL_len t.ks
    have hszt := sz_eq t
    have hkb : t.ks.length ≤ 1000000000 := by omega
    obtain ⟨R, hRR⟩ : ∃ R, chk t d k = R := ⟨_, rfl⟩
    rw [hRR]
    rw [chk_eq, flaw_part] at hRR
    have HP := Lib.hid (fun w => rf_Part t.op t.vr t.nm t.ks.length A c d w)
    obtain ⟨p, hp⟩ : ∃ p, flawS t.op t.vr t.nm.size t.ks.length d 0 = p := ⟨_, rfl⟩
    rw [hp] at hRR HP
    obtain ⟨k', hk'⟩ : ∃ k', wrap64 (k + 1) = k' := ⟨_, rfl⟩
    rw [hk'] at hRR
    clear ih hR hszt hp
    have HB : Hid (∀ ob, Below w.heap.size w (w.alloc ob)) := Lib.hid (fun ob => (Below.refl _ _).alloc (Nat.le_refl _) ob)
    show Calls Try.prog 100 #[.agg #[.int .i64 t.op, .int .i64 t.vr, .string t.nm, .slice A t.ks.length c], .int .i64 d, .int .i64 k] w (Two R w)
    generalize t.op = o at *
    generalize t.vr = v at *
    generalize t.nm = m at *
    have HX : Hid (∀ wr, Below (w.alloc (.cells #[.int .i64 o, .int .i64 v, .string m, .slice A t.ks.length c] 24)).heap.size (w.alloc (.cells #[.int .i64 o, .int .i64 v, .string m, .slice A t.ks.length c] 24)) wr → (wr.cell? ⟨w.heap.size, 0, none⟩ = some (.int .i64 o) ∧ wr.cell? ⟨w.heap.size, 1, none⟩ = some (.int .i64 v) ∧ wr.cell? ⟨w.heap.size, 2, none⟩ = some (.string m) ∧ wr.cell? ⟨w.heap.size, 3, none⟩ = some (.slice A t.ks.length c)) ∧ Below w.heap.size w wr ∧ w.heap.size < wr.heap.size) := Lib.hid (fun wr h => by
      have hk := (Blk.new w 24 #[.int .i64 o, .int .i64 v, .string m, .slice A t.ks.length c])
      have hsz : (w.alloc (.cells #[.int .i64 o, .int .i64 v, .string m, .slice A t.ks.length c] 24)).heap.size = w.heap.size + 1 := by simp
      have hk2 : Blk wr w.heap.size 24 #[.int .i64 o, .int .i64 v, .string m, .slice A t.ks.length c] := (h.block _ (by rw [hsz]; omega)).trans hk
      refine ⟨⟨hk2.cell 0, hk2.cell 1, hk2.cell 2, hk2.cell 3⟩, (HB.out _).trans (h.mono (HB.out _).size), ?_⟩
      have := h.size
      rw [hsz] at this
      omega)
    by_cases hp0 : p = 0
    · subst hp0
      rw [if_pos rfl] at hRR
      by_cases h5 : 4096 < k'
      · have X : Hid (R = (4, k')) := Lib.hid (by rw [← hRR, if_pos h5]; rfl)
        clear hRR
        go_enter Try.func100, Try.ntmps100
        go_wp2_with (go_at_call 112; (with_reducible refine (HP.out _).mono ?_); rintro e w1 ⟨rfl, hb1⟩; have HB1 := Lib.hid hb1; clear hb1)
        go_ret2
        exact ⟨by rw [X.out]; rfl, (HX.out _ HB1.out).2.1⟩
      · have hRR2 : chkL (t.ks.drop 0) (d + 1) k' = R := by rw [← hRR, if_neg h5]; rfl
        have X := Lib.hid hRR2
        clear hRR hRR2
        go_enter Try.func100, Try.ntmps100
        go_wp2_with (go_at_call 112; (with_reducible refine (HP.out _).mono ?_); rintro e w1 ⟨rfl, hb1⟩; have HB1 := Lib.hid hb1; clear hb1)
        go_loopw [2, 9] (fun parts i wr => ∃ (j : Nat) (kk : Int), j ≤ t.ks.length ∧ i = .int .i64 (j : Int) ∧ parts = .int .i64 kk ∧ Hid (chkL (t.ks.drop j) (d + 1) kk = R) ∧ Below (w.alloc (.cells #[.int .i64 o, .int .i64 v, .string m, .slice A t.ks.length c] 24)).heap.size (w.alloc (.cells #[.int .i64 o, .int .i64 v, .string m, .slice A t.ks.length c] 24)) wr) (fun _ i _ => t.ks.length - (intOf i).toNat)
        case atStart => exact ⟨0, k', Nat.zero_le _, rfl, rfl, X, HB1.out⟩
        case round =>
          obtain ⟨j, kk, hj, rfl, rfl, HV, hb⟩ := hrel
          obtain ⟨⟨q0, q1, q2, q3⟩, hbw, hszr⟩ := HX.out _ hb
          by_cases hlt : j < t.ks.length
          · have l1 : (j : Int) < (t.ks.length : Int) := by omega
            obtain ⟨b, f0, rfl, hbl, hc⟩ := HR.out.out (by omega)
            obtain ⟨ka, kc, c0, c1, c2, c3, hRk⟩ := hc j hlt
            have d0 := (hbw.cell (p := ⟨b, f0 + j * 4, none⟩) hbl).trans c0
            have d1 := (hbw.cell (p := ⟨b, f0 + j * 4 + 1, none⟩) hbl).trans c1
            have d2 := (hbw.cell (p := ⟨b, f0 + j * 4 + 2, none⟩) hbl).trans c2
            have d3 := (hbw.cell (p := ⟨b, f0 + j * 4 + 3, none⟩) hbl).trans c3
            have HRk := Lib.hid (hRk.step hbw)
            have hstep := chkL_step hlt (d + 1) kk
            rw [HV.out] at hstep
            have hu := kd_sz hlt
            have hd2 : d + 1 + (n : Int) ≤ 1000000000 := by omega
            clear hc c0 c1 c2 c3 hRk
            generalize kd t.ks j = u at *
            have HC := Lib.hid (HIH.out u (by omega) ka kc (d + 1) kk wr HRk.out (by omega) hd2)
            obtain ⟨y, hy⟩ : ∃ y, chk u (d + 1) kk = y := ⟨_, rfl⟩
            rw [hy] at hstep HC
            clear hy hu
            obtain ⟨e2, k2⟩ := y
            by_cases he : e2 = 0
            · subst he
              have X2 : Hid (chkL (t.ks.drop (j + 1)) (d + 1) k2 = R) := Lib.hid (by rw [hstep]; rfl)
              clear hstep
              go_wp2_with (go_at_call 100; (with_reducible refine HC.out.mono ?_); rintro e w3 ⟨rfl, hb3⟩; have HB3 := Lib.hid (hb.trans (hb3.mono hb.size)); clear hb3)
              go_roundw
              case rel => exact ⟨j + 1, k2, by omega, by go_num, rfl, X2, HB3.out⟩
              case measure => simp [intOf]; try omega
            · have X2 : Hid (R = (e2, k2)) := Lib.hid (by rw [hstep, if_neg he])
              have he1 : (e2 == 0) = false := by simp [he]
              have he2 : (e2 != 0) = true := by simp [he]
              clear hstep
              go_wp2_with (go_at_call 100; (with_reducible refine HC.out.mono ?_); rintro e w3 ⟨rfl, hb3⟩; have HB3 := Lib.hid (hb.trans (hb3.mono hb.size)); clear hb3)
              go_ret2
              exact ⟨by rw [X2.out]; rfl, (HX.out _ HB3.out).2.1⟩
          · have l1 : ¬ (j : Int) < (t.ks.length : Int) := by omega
            obtain rfl : j = t.ks.length := by omega
            have X2 : Hid (R = (0, kk)) := Lib.hid (by have := HV.out; rw [List.drop_length] at this; exact this.symm)
            go_wp2
            go_ret2
            exact ⟨by rw [X2.out]; rfl, hbw⟩
    · have X : Hid (R = (p, k')) := Lib.hid (by rw [← hRR, if_neg hp0, if_neg hp0])
      have he1 : (p == 0) = false := by simp [hp0]
      have he2 : (p != 0) = true := by simp [hp0]
      clear hRR
      go_enter Try.func100, Try.ntmps100
      go_wp2_with (go_at_call 112; (with_reducible refine (HP.out _).mono ?_); rintro e w1 ⟨rfl, hb1⟩; have HB1 := Lib.hid hb1; clear hb1)
      go_ret2
      exact ⟨by rw [X.out]; rfl, (HX.out _ HB1.out).2.1⟩
set_option maxHeartbeats 1000000 in
theorem rf_Check (t : Ex) (A : Option Addr) (c : Nat) (w : World) (hs : t.sz ≤ 100000000) (hR : Rep w.heap.size w A t) : Calls Try.prog 81 #[exV t A c] w fun e w' => e = .returned (.int .i64 (chkE t)) ∧ Below w.heap.size w w' := by
  have HB : Hid (∀ ob, Below w.heap.size w (w.alloc ob)) := Lib.hid (fun ob => (Below.refl _ _).alloc (Nat.le_refl _) ob)
  have HC : Hid (Calls Try.prog 100 #[exV t A c, .int .i64 1, .int .i64 0] (w.alloc (.cells (exC t A c) 24)) (Two (chk t 1 0) (w.alloc (.cells (exC t A c) 24)))) := Lib.hid (rf_check t.sz t (Nat.le_refl _) A c 1 0 _ (hR.step (HB.out _)) (by omega) (by omega))
  have X : Hid (chkE t = (chk t 1 0).1) := Lib.hid rfl
  generalize chkE t = E at *
  obtain ⟨y, hy⟩ : ∃ y, chk t 1 0 = y := ⟨_, rfl⟩
  rw [hy] at X HC
  obtain ⟨e2, k2⟩ := y
  clear hR hy
  go_enter Try.func81, Try.ntmps81
  go_wp2_with (go_at_call 100; (with_reducible refine HC.out.mono ?_); rintro e w1 ⟨rfl, hb1⟩; have HB1 := Lib.hid hb1; clear hb1)
  go_ret
  exact ⟨by rw [X.out]; rfl, (HB.out _).trans (HB1.out.mono (HB.out _).size)⟩
end Go.Proofs.Ytnjkphopklbogaa
namespace Go.Proofs.Ytnjkphopklbogaa
open Go.RowKit

/-- The state of Check: the fault, and how many nodes so far. -/
def stC (s : Int × Int) (t : Ex) (d : Int) : (Int × Int) × Bool := ((flawS t.op t.vr t.nm.size t.ks.length d (wrap64 (s.2 + 1)), wrap64 (s.2 + 1)), flawS t.op t.vr t.nm.size t.ks.length d (wrap64 (s.2 + 1)) == 0)
def InC (bn bf : Nat) (S : Nat → Prop) (s : Int × Int) (w : World) : Prop := S bn ∧ S bf ∧ bn ≠ bf ∧ Blk w bn 3 #[.int .i64 s.2] ∧ Blk w bf 30 #[.int .i64 s.1]
theorem InC.kept (bn bf : Nat) : KeptI (InC bn bf) where
  step := fun S s w w' h hb => ⟨h.1, h.2.1, h.2.2.1, h.2.2.2.1.below hb h.2.2.2.1.lt, h.2.2.2.2.below hb h.2.2.2.2.lt⟩
  narrow := fun S s w h hi hh => ⟨⟨hi.1, fun e => by have := hi.2.2.2.1.lt; omega⟩, ⟨hi.2.1, fun e => by have := hi.2.2.2.2.lt; omega⟩, hi.2.2⟩
  widen := fun S S' s w h hs => ⟨hs _ h.1, hs _ h.2.1, h.2.2⟩
set_option maxHeartbeats 2000000 in
theorem pr_Check1 (bn bf : Nat) (S : Nat → Prop) (s : Int × Int) (w : World) (t : Ex) (A : Option Addr) (c : Nat) (d : Int) (hI : InC bn bf S s w) :
    Calls Try.prog 97 #[exV t A c, .int .i64 d, .pointer (some ⟨bn, 0, none⟩), .pointer (some ⟨bf, 0, none⟩)] w (VisP (InC bn bf) S w (stC s t d)) := by
  obtain ⟨h1, h2, h3, h4, h5⟩ := hI
  obtain ⟨s1, s2⟩ := s
  obtain ⟨k', hk'⟩ : ∃ k', wrap64 (s2 + 1) = k' := ⟨_, rfl⟩
  obtain ⟨R, hR⟩ : ∃ R, stC (s1, s2) t d = R := ⟨_, rfl⟩
  have HR : Hid (R = ((flawS t.op t.vr t.nm.size t.ks.length d k', k'), flawS t.op t.vr t.nm.size t.ks.length d k' == 0)) := Lib.hid (by rw [← hR]; unfold stC; rw [hk'])
  rw [hR]
  clear hR
  have HF := Lib.hid (fun w => pr_flaw t.op t.vr t.nm t.ks.length A c d k' w)
  generalize flawS t.op t.vr t.nm.size t.ks.length d k' = f at *
  have e0 : w.cell? ⟨bn, 0, none⟩ = some (.int .i64 s2) := h4.cell 0
  have f0 := h4.frozen 0
  have f1 := h5.frozen 0
  have hl4 := h4.lt
  have hl5 := h5.lt
  have H4 := Lib.hid h4
  have H5 := Lib.hid h5
  clear h4 h5
  have HW : Hid (Blk ((w.setCell ⟨bn, 0, none⟩ (.int .i64 k')).alloc (.cells (exC t A c) 24)) bn 3 #[.int .i64 k'] ∧ Blk ((w.setCell ⟨bn, 0, none⟩ (.int .i64 k')).alloc (.cells (exC t A c) 24)) bf 30 #[.int .i64 s1] ∧ Frm S w ((w.setCell ⟨bn, 0, none⟩ (.int .i64 k')).alloc (.cells (exC t A c) 24))) := Lib.hid (by
    exact ⟨(H4.out.set_ 0 _).alloc _, (H5.out.set_other h3 _ _).alloc _, ((Frm.refl S w).set h1 _ _).alloc _⟩)
  go_enter Try.func97, Try.ntmps97
  go_wp2_with (go_at_call 98; (with_reducible refine (HF.out _).mono ?_); rintro e w1 ⟨rfl, hb1⟩; have g4 := HW.out.1.below hb1 HW.out.1.lt; have g5 := HW.out.2.1.below hb1 HW.out.2.1.lt; have q5 : w1.frozen? ⟨bf, 0, none⟩ = false := g5.frozen 0; have q6 : w1.cell? ⟨bf, 0, none⟩ = some (.int .i64 s1) := g5.cell 0; have q7 := g5.lt; have G4 := Lib.hid g4; have G5 := Lib.hid g5; have GF := Lib.hid (HW.out.2.2.trans (Frm.of_below hb1)); clear g4 g5 hb1)
  go_ret
  rw [HR.out]
  exact ⟨rfl, ⟨h1, h2, h3, G4.out.set_other (fun e => h3 e.symm) _ _, G5.out.set_ 0 _⟩, GF.out.set h2 _ _⟩
mutual
theorem vis_chk : ∀ (t : Ex) (d f k : Int), vis stC t d (f, k) = (chk t d k, (chk t d k).1 == 0)
  | .mk o v m ks, d, f, k => by
    rw [vis_eq, chk_eq]
    have e1 : (stC (f, k) (.mk o v m ks) d).1 = (flawS o v m.size ks.length d (wrap64 (k + 1)), wrap64 (k + 1)) := rfl
    have e2 : (stC (f, k) (.mk o v m ks) d).2 = (flawS o v m.size ks.length d (wrap64 (k + 1)) == 0) := rfl
    rw [e1, e2]
    show (if (flawS o v m.size ks.length d (wrap64 (k + 1)) == 0) = true then _ else _) = _
    by_cases h : flawS o v m.size ks.length d (wrap64 (k + 1)) = 0
    · rw [if_pos (by simp [h])]
      show visL stC ks (d + 1) _ = _
      have e3 : (if flawS (Ex.mk o v m ks).op (Ex.mk o v m ks).vr (Ex.mk o v m ks).nm.size (Ex.mk o v m ks).ks.length d (wrap64 (k + 1)) = 0 then chkL (Ex.mk o v m ks).ks (d + 1) (wrap64 (k + 1)) else (flawS (Ex.mk o v m ks).op (Ex.mk o v m ks).vr (Ex.mk o v m ks).nm.size (Ex.mk o v m ks).ks.length d (wrap64 (k + 1)), wrap64 (k + 1))) = chkL ks (d + 1) (wrap64 (k + 1)) := if_pos h
      rw [e3, h]
      exact visL_chk ks (d + 1) (wrap64 (k + 1))
    · rw [if_neg (by simp [h])]
      have e3 : (if flawS (Ex.mk o v m ks).op (Ex.mk o v m ks).vr (Ex.mk o v m ks).nm.size (Ex.mk o v m ks).ks.length d (wrap64 (k + 1)) = 0 then chkL (Ex.mk o v m ks).ks (d + 1) (wrap64 (k + 1)) else (flawS (Ex.mk o v m ks).op (Ex.mk o v m ks).vr (Ex.mk o v m ks).nm.size (Ex.mk o v m ks).ks.length d (wrap64 (k + 1)), wrap64 (k + 1))) = (flawS o v m.size ks.length d (wrap64 (k + 1)), wrap64 (k + 1)) := if_neg h
      rw [e3]
      have : (flawS o v m.size ks.length d (wrap64 (k + 1)) == 0) = false := by simp [h]
      rw [this]
theorem visL_chk : ∀ (l : List Ex) (d k : Int), visL stC l d (0, k) = (chkL l d k, (chkL l d k).1 == 0)
  | [], d, k => rfl
  | t :: r, d, k => by
    show (if (vis stC t d (0, k)).2 then visL stC r d (vis stC t d (0, k)).1 else ((vis stC t d (0, k)).1, false)) = ((if (chk t d k).1 = 0 then chkL r d (chk t d k).2 else chk t d k), (if (chk t d k).1 = 0 then chkL r d (chk t d k).2 else chk t d k).1 == 0)
    rw [vis_chk t d 0 k]
    obtain ⟨e, n⟩ := chk t d k
    by_cases h : e = 0
    · subst h
      exact visL_chk r d n
    · have h2 : (e == 0) = false := by simp [h]
      simp only [h2, h, if_false]
      simp
end
set_option maxHeartbeats 1000000 in
theorem pr_Check (t : Ex) (A : Option Addr) (c : Nat) (w : World) (hs : t.sz ≤ 100000000) (hR : Rep w.heap.size w A t) : Calls Try.prog 78 #[exV t A c] w fun e w' => e = .returned (.int .i64 (chkE t)) ∧ Below w.heap.size w w' := by
  have HV : Hid (∀ (bn bf : Nat) W, InC bn bf (fun b => w.heap.size ≤ b) (0, 0) W → w.heap.size ≤ W.heap.size → Rep w.heap.size W A t → Calls Try.prog 60 #[exV t A c, .int .i64 1, .func (.func 97) #[] #[.pointer (some ⟨bn, 0, none⟩), .pointer (some ⟨bf, 0, none⟩)]] W (VisP (InC bn bf) (fun b => w.heap.size ≤ b) W (vis stC t 1 (0, 0)))) := Lib.hid (fun bn bf W hI hW hR => by
    refine pr_visit 97 _ (InC bn bf) stC w.heap.size (.pointer (some ⟨bn, 0, none⟩)) (.pointer (some ⟨bf, 0, none⟩)) (.inl ⟨rfl, rfl⟩) (InC.kept bn bf) ?_ t.sz t (Nat.le_refl _) A c 1 _ _ W hI (fun b hb h => by omega) (fun b hb => by omega) hW hR (by omega) (by omega)
    intro S s w t A c d hI _ _ _ _ _ _
    exact pr_Check1 bn bf S s w t A c d hI)
  have HR := Lib.hid hR
  clear hR
  have HB : Hid (∀ o1 o2 o3, Below w.heap.size w (((w.alloc o1).alloc o2).alloc o3)) := Lib.hid (fun o1 o2 o3 => al (al (al (Below.refl _ _) _) _) _)
  go_enter Try.func78, Try.ntmps78
  have HBX : Hid (∀ o1, InC (w.heap.size + 1 + 1) (w.heap.size + 1) (fun b => w.heap.size ≤ b) (0, 0) (((w.alloc o1).alloc (.cells #[.int .i64 0] 30)).alloc (.cells #[.int .i64 0] 3))) := Lib.hid (fun o1 => by
    have z1 : (w.alloc o1).heap.size = w.heap.size + 1 := by simp
    have z2 : ((w.alloc o1).alloc (.cells #[.int .i64 0] 30)).heap.size = w.heap.size + 1 + 1 := by simp
    have b1 := Blk.new (w.alloc o1) 30 #[.int .i64 0]
    have b2 := Blk.new ((w.alloc o1).alloc (.cells #[.int .i64 0] 30)) 3 #[.int .i64 0]
    rw [z1] at b1
    rw [z2] at b2
    exact ⟨by omega, by omega, by omega, b2, b1.alloc _⟩)
  go_wp2_with (go_at_call 60; (with_reducible refine (HV.out _ _ _ (HBX.out _) (by simp; omega) (HR.out.under (HB.out _ _ _))).mono ?_); rintro e w1 ⟨rfl, hI, hf⟩; have q0 : w1.cell? ⟨w.heap.size + 1, 0, none⟩ = some (.int .i64 (vis stC t 1 (0, 0)).1.1) := hI.2.2.2.2.cell 0; have HF := Lib.hid hf; clear hI hf)
  go_ret
  refine ⟨by rw [vis_chk]; rfl, (HB.out _ _ _).trans (HF.out.below2 (fun k hk h => by omega) (by simp; omega))⟩
end Go.Proofs.Ytnjkphopklbogaa
namespace Go.Proofs.Ytnjkphopklbogaa
open Go.RowKit

mutual
def hx : Ex → Bool | .mk o _ _ ks => (o == 4) || hxL ks
def hxL : List Ex → Bool
  | [] => false
  | t :: r => hx t || hxL r
end
theorem hx_eq (t : Ex) : hx t = ((t.op == 4) || hxL t.ks) := by cases t; rfl
theorem hxL_step {l : List Ex} {k : Nat} (h : k < l.length) : hxL (l.drop k) = (hx (kd l k) || hxL (l.drop (k + 1))) := by rw [kd_drop h]; rfl
def IdxP (w : World) (b : Bool) (e : Ending) (w' : World) : Prop := ∃ v : Int, e = .returned (.int .i64 v) ∧ (b = true → 0 ≤ v) ∧ (b = false → v = -1) ∧ Below w.heap.size w w'
set_option maxRecDepth 100000 in
set_option maxHeartbeats 4000000 in
theorem pr_IndexT (t : Ex) (A : Option Addr) (c : Nat) (w : World) (hA : Rep w.heap.size w A t) (ht : t.ks.length ≤ 1000000000)
    (hS : ∀ i, i < t.ks.length → ∀ A c w, Rep w.heap.size w A (kd t.ks i) → Calls Try.prog 79 #[exV (kd t.ks i) A c] w (ValP w (hx (kd t.ks i)))) :
    Calls Try.prog 111 #[.slice A t.ks.length c, .func (.func 79) #[] #[]] w (IdxP w (hxL t.ks)) := by
  have HA := Lib.hid hA
  have HS := Lib.hid hS
  clear hA hS
  obtain ⟨R, hR⟩ : ∃ R, hxL t.ks = R := ⟨_, rfl⟩
  have HR0 : Hid (hxL (t.ks.drop 0) = R) := Lib.hid hR
  rw [hR]
  clear hR
  go_enter Try.func111, Try.ntmps111
  go_wp2
  go_loopw [8] (fun i wr => ∃ k : Nat, k ≤ t.ks.length ∧ i = .int .i64 (k : Int) ∧ Hid (hxL (t.ks.drop k) = R) ∧ Hid (Below w.heap.size w wr)) (fun i _ => t.ks.length - (intOf i).toNat)
  case atStart => exact ⟨0, Nat.zero_le _, rfl, HR0, Lib.hid (Below.refl _ _)⟩
  case round =>
    obtain ⟨k, hk, rfl, HV, HW⟩ := hrel
    have hk0 : (0 : Int) ≤ (k : Int) := by omega
    by_cases hlt : k < t.ks.length
    · have h1 : (k : Int) < (t.ks.length : Int) := by omega
      obtain ⟨b, f0, rfl, hb, hc⟩ := HA.out.out (by omega)
      obtain ⟨ka, kc, c0, c1, c2, c3, hRk⟩ := hc k hlt
      have d0 := (HW.out.cell (p := ⟨b, f0 + k * 4, none⟩) hb).trans c0
      have d1 := (HW.out.cell (p := ⟨b, f0 + k * 4 + 1, none⟩) hb).trans c1
      have d2 := (HW.out.cell (p := ⟨b, f0 + k * 4 + 2, none⟩) hb).trans c2
      have d6 := (HW.out.cell (p := ⟨b, f0 + k * 4 + 3, none⟩) hb).trans c3
      have hzr := HW.out.size
      have g1 : b < wr.heap.size := by omega
      have hst := hxL_step hlt
      rw [HV.out] at hst
      have HC := Lib.hid (HS.out k hlt ka kc wr (hRk.step HW.out))
      obtain ⟨q, hq⟩ : ∃ q, hx (kd t.ks k) = q := ⟨_, rfl⟩
      rw [hq] at HC hst
      have HST := Lib.hid hst
      clear hst hq hc c0 c1 c2 c3 hRk hb hzr
      generalize kd t.ks k = x1 at *
      cases q
      · have X : Hid (hxL (t.ks.drop (k + 1)) = R) := Lib.hid (by have := HST.out; simpa using this.symm)
        go_wp2_with (go_at_call 79; (with_reducible refine HC.out.mono ?_); rintro e w2 ⟨rfl, hb2⟩; have HB2 := Lib.hid (HW.out.trans (hb2.mono HW.out.size)); clear hb2)
        exact ⟨⟨k + 1, by omega, by go_num, X, HB2⟩, by simp [intOf]; omega⟩
      · have X : Hid (R = true) := Lib.hid (by have := HST.out; simpa using this)
        go_wp2_with (go_at_call 79; (with_reducible refine HC.out.mono ?_); rintro e w2 ⟨rfl, hb2⟩; have HB2 := Lib.hid (HW.out.trans (hb2.mono HW.out.size)); clear hb2)
        go_ret
        exact ⟨(k : Int), rfl, fun _ => by omega, (fun h => by rw [X.out] at h; cases h), HB2.out⟩
    · have X : Hid (R = false) := Lib.hid (by
        have := HV.out
        rw [List.drop_of_length_le (by omega)] at this
        rw [← this]; rfl)
      go_wp2
      go_ret
      exact ⟨-1, rfl, (fun h => by rw [X.out] at h; cases h), fun _ => rfl, HW.out⟩
set_option maxHeartbeats 4000000 in
theorem pr_ContainsT (t : Ex) (A : Option Addr) (c : Nat) (w : World) (hA : Rep w.heap.size w A t) (ht : t.ks.length ≤ 1000000000)
    (hS : ∀ i, i < t.ks.length → ∀ A c w, Rep w.heap.size w A (kd t.ks i) → Calls Try.prog 79 #[exV (kd t.ks i) A c] w (ValP w (hx (kd t.ks i)))) :
    Calls Try.prog 99 #[.slice A t.ks.length c, .func (.func 79) #[] #[]] w (ValP w (hxL t.ks)) := by
  have H := pr_IndexT t A c w hA ht hS
  obtain ⟨R, hR⟩ : ∃ R, hxL t.ks = R := ⟨_, rfl⟩
  rw [hR] at H ⊢
  clear hA hS hR
  cases R
  · have HI : Hid (Calls Try.prog 111 #[.slice A t.ks.length c, .func (.func 79) #[] #[]] w fun e w' => e = .returned (.int .i64 (-1)) ∧ Below w.heap.size w w') := Lib.hid (H.mono (by rintro e w' ⟨v, rfl, _, h2, h3⟩; rw [h2 rfl]; exact ⟨rfl, h3⟩))
    clear H
    go_enter Try.func99, Try.ntmps99
    go_wp2_with (go_at_call 111; (with_reducible refine HI.out.mono ?_); rintro e w2 ⟨rfl, hb2⟩; have HB2 := Lib.hid hb2; clear hb2)
    go_ret
    exact ⟨rfl, HB2.out⟩
  · have HI : Hid (Calls Try.prog 111 #[.slice A t.ks.length c, .func (.func 79) #[] #[]] w fun e w' => ∃ v : Int, e = .returned (.int .i64 v) ∧ 0 ≤ v ∧ Below w.heap.size w w') := Lib.hid (H.mono (by rintro e w' ⟨v, rfl, h1, _, h3⟩; exact ⟨v, rfl, h1 rfl, h3⟩))
    clear H
    go_enter Try.func99, Try.ntmps99
    go_wp2_with (go_at_call 111; (with_reducible refine HI.out.mono ?_); rintro e w2 ⟨v, rfl, hv, hb2⟩; have HB2 := Lib.hid hb2; clear hb2)
    go_ret
    exact ⟨by first | rfl | simp [hv], HB2.out⟩
set_option maxHeartbeats 4000000 in
theorem pr_hasNext : ∀ (n : Nat) (t : Ex), t.sz ≤ n → n ≤ 100000000 → ∀ (A : Option Addr) (c : Nat) (w : World), Rep w.heap.size w A t → Calls Try.prog 79 #[exV t A c] w (ValP w (hx t)) := by
  intro n
  induction n with
  | zero => intro t h; have := sz_eq t; omega
  | succ n ih =>
    intro t ht hn A c w hA
    have h1 := szL_len t.ks
    have h2 := sz_eq t
    have HC : Hid (∀ o, Calls Try.prog 99 #[.slice A t.ks.length c, .func (.func 79) #[] #[]] (w.alloc o) (ValP (w.alloc o) (hxL t.ks))) := Lib.hid (fun o => pr_ContainsT t A c _ (hA.step (bal _ _)) (by omega) (fun i hi A c w hr => by
      have := kd_sz hi
      exact ih (kd t.ks i) (by omega) (by omega) A c w hr))
    have HAL : Hid (∀ o, Below w.heap.size w (w.alloc o)) := Lib.hid (fun o => bal _ _)
    have HE := Lib.hid (hx_eq t)
    clear hA ih h1 h2 ht
    generalize hx t = R at *
    by_cases ho : t.op = 4
    · have ho1 : (t.op == 4) = true := by simp [ho]
      have X : Hid (R = true) := Lib.hid (by rw [HE.out, ho1]; rfl)
      clear ho
      go_enter Try.func79, Try.ntmps79
      go_wp2
      go_ret
      exact ⟨by rw [X.out]; rfl, HAL.out _⟩
    · have ho1 : (t.op == 4) = false := by simp [ho]
      have X : Hid (R = hxL t.ks) := Lib.hid (by rw [HE.out, ho1]; rfl)
      generalize hxL t.ks = q at *
      go_enter Try.func79, Try.ntmps79
      go_wp2_with (go_at_call 99; (with_reducible refine (HC.out _).mono ?_); rintro e w2 ⟨rfl, hb2⟩; have HB2 := Lib.hid hb2; clear hb2)
      go_ret
      exact ⟨by rw [X.out]; rfl, bt (HAL.out _) HB2.out⟩
def fk (o : Int) : Int := if o = 1 then 0 else if o = 3 ∨ o = 4 ∨ o = 5 ∨ o = 9 ∨ o = 13 then 2 else 1
set_option maxHeartbeats 4000000 in
theorem pr_fkids (o : Int) (w : World) : Calls Try.prog 57 #[.int .i64 o] w fun e w' => e = .returned (.int .i64 (fk o)) ∧ w = w' := by
  by_cases h1 : o = 1
  · subst h1; go_enter Try.func57, Try.ntmps57; go_wp2; go_ret; exact ⟨rfl, rfl⟩
  by_cases h3 : o = 3
  · subst h3; go_enter Try.func57, Try.ntmps57; go_wp2; go_ret; exact ⟨rfl, rfl⟩
  by_cases h4 : o = 4
  · subst h4; go_enter Try.func57, Try.ntmps57; go_wp2; go_ret; exact ⟨rfl, rfl⟩
  by_cases h5 : o = 5
  · subst h5; go_enter Try.func57, Try.ntmps57; go_wp2; go_ret; exact ⟨rfl, rfl⟩
  by_cases h9 : o = 9
  · subst h9; go_enter Try.func57, Try.ntmps57; go_wp2; go_ret; exact ⟨rfl, rfl⟩
  by_cases h13 : o = 13
  · subst h13; go_enter Try.func57, Try.ntmps57; go_wp2; go_ret; exact ⟨rfl, rfl⟩
  have X : Hid (fk o = 1) := Lib.hid (by simp [fk, h1, h3, h4, h5, h9, h13])
  have e1 : (o == 1) = false := by simp [h1]
  have e3 : (o == 3) = false := by simp [h3]
  have e4 : (o == 4) = false := by simp [h4]
  have e5 : (o == 5) = false := by simp [h5]
  have e9 : (o == 9) = false := by simp [h9]
  have e13 : (o == 13) = false := by simp [h13]
  go_enter Try.func57, Try.ntmps57
  go_wp2
  go_ret
  exact ⟨by rw [X.out]; rfl, rfl⟩
theorem rf_fKids_in (o : Int) (w : World) (h : 1 ≤ o ∧ o ≤ 13) : Calls Try.prog 80 #[.int .i64 o] w fun e w' => e = .returned (.int .i64 (fk o)) ∧ w = w' := by
  have hc : o = 1 ∨ o = 2 ∨ o = 3 ∨ o = 4 ∨ o = 5 ∨ o = 6 ∨ o = 7 ∨ o = 8 ∨ o = 9 ∨ o = 10 ∨ o = 11 ∨ o = 12 ∨ o = 13 := by omega
  rcases hc with rfl | rfl | rfl | rfl | rfl | rfl | rfl | rfl | rfl | rfl | rfl | rfl | rfl
  all_goals
    go_enter Try.func80, Try.ntmps80
    go_wp2
    go_ret
    exact ⟨rfl, rfl⟩
theorem rf_fKids_out (o : Int) (w : World) (h : o < 1 ∨ 13 < o) : Calls Try.prog 80 #[.int .i64 o] w fun e w' => e = .returned (.int .i64 (-1)) ∧ w = w' := by
  have e1 : (o == 1) = false := by simp; omega
  have e2 : (o == 2) = false := by simp; omega
  have e3 : (o == 3) = false := by simp; omega
  have e4 : (o == 4) = false := by simp; omega
  have e5 : (o == 5) = false := by simp; omega
  have e6 : (o == 6) = false := by simp; omega
  have e7 : (o == 7) = false := by simp; omega
  have e8 : (o == 8) = false := by simp; omega
  have e9 : (o == 9) = false := by simp; omega
  have e10 : (o == 10) = false := by simp; omega
  have e11 : (o == 11) = false := by simp; omega
  have e12 : (o == 12) = false := by simp; omega
  have e13 : (o == 13) = false := by simp; omega
  go_enter Try.func80, Try.ntmps80
  go_wp2
  go_ret
  exact ⟨rfl, rfl⟩
end Go.Proofs.Ytnjkphopklbogaa
namespace Go.Proofs.Ytnjkphopklbogaa
open Go.RowKit

/-- Whether a term is the zero value. -/
def noth (t : Ex) : Bool := t.op == 0 && (t.vr == 0 && ((t.nm.toList == []) && (t.ks.length == 0)))
theorem eq_ex0 (t : Ex) : eqE t ex0 = noth t := by
  obtain ⟨o, v, m, ks⟩ := t
  show (o == 0 && (v == 0 && ((m.toList == ByteArray.empty.toList) && eqL ks []))) = (o == 0 && (v == 0 && ((m.toList == []) && (ks.length == 0))))
  have e1 : ByteArray.empty.toList = [] := by rw [ByteArray.toList_eq]; rfl
  rw [e1]
  cases ks with
  | nil => rfl
  | cons a l => rfl
def tfl (f : Fx) : Int := if f.op = 1 then (if chkE f.e ≠ 0 then chkE f.e else if hx f.e = true then 24 else 0) else 0
theorem fal (t : Fx) (E A : Option Addr) (d c : Nat) (w : World) : FAt (w.alloc (.cells (fC t E d A c) 27)) w.heap.size 0 t E d A c := FAt.blk (Blk.new w 27 _)
set_option maxHeartbeats 4000000 in
theorem pr_tfl (t : Fx) (E A : Option Addr) (d c : Nat) (w : World) (hs : t.sz ≤ 100000000) (hR : Fm w.heap.size w t E A) : Calls Try.prog 56 #[fV t E d A c] w fun e w' => e = .returned (.int .i64 (tfl t)) ∧ Below w.heap.size w w' := by
  have hes := fe_sz t
  have HAL : Hid (∀ o, Below w.heap.size w (w.alloc o)) := Lib.hid (fun o => bal _ _)
  have HF := Lib.hid (fal t E A d c w)
  have HC : Hid (Calls Try.prog 78 #[exV t.e E d] (w.alloc (.cells (fC t E d A c) 27)) fun e w' => e = .returned (.int .i64 (chkE t.e)) ∧ Below (w.alloc (.cells (fC t E d A c) 27)).heap.size (w.alloc (.cells (fC t E d A c) 27)) w') := Lib.hid (pr_Check t.e E d _ (by omega) (hR.1.step (bal _ _)))
  have HH : Hid (∀ wx, Below (w.alloc (.cells (fC t E d A c) 27)).heap.size (w.alloc (.cells (fC t E d A c) 27)) wx → Calls Try.prog 79 #[exV t.e E d] wx (ValP wx (hx t.e)) ∧ FAt wx w.heap.size 0 t E d A c ∧ Below w.heap.size w wx) := Lib.hid (fun wx hb => ⟨pr_hasNext t.e.sz t.e (Nat.le_refl _) (by omega) E d wx ((hR.1.step (bal _ _)).step hb), HF.out.below hb (by simp), bt (HAL.out _) hb⟩)
  obtain ⟨R, hR⟩ : ∃ R, tfl t = R := ⟨_, rfl⟩
  rw [hR]
  unfold tfl at hR
  clear hs hes
  by_cases ho : t.op = 1
  · have ho1 : (t.op != 1) = false := by simp [ho]
    rw [if_pos ho] at hR
    clear ho
    obtain ⟨z, hz⟩ : ∃ z, chkE t.e = z := ⟨_, rfl⟩
    rw [hz] at hR HC
    by_cases hz0 : z = 0
    · subst hz0
      rw [if_neg (by simp)] at hR
      obtain ⟨q, hq⟩ : ∃ q, hx t.e = q := ⟨_, rfl⟩
      rw [hq] at hR HH
      have X : Hid (R = if q = true then 24 else 0) := Lib.hid hR.symm
      clear hR hz hq
      obtain ⟨p0, p1, p2, p3, p4, p5⟩ := HF.out
      cases q
      · go_enter Try.func56, Try.ntmps56
        go_wp2_with (first
          | (go_at_call 79; have _ := H3; (with_reducible refine (H3.out.1).mono ?_); rintro e w2 ⟨rfl, hb2⟩; have HB2 := Lib.hid (bt H3.out.2.2 hb2); clear hb2)
          | (go_at_call 78; (with_reducible refine HC.out.mono ?_); rintro e w1 ⟨rfl, hb1⟩; have H3 := Lib.hid (HH.out _ hb1); obtain ⟨r0, r1, r2, r3, r4, r5⟩ := H3.out.2.1; clear hb1))
        go_ret
        exact ⟨by rw [X.out]; rfl, HB2.out⟩
      · go_enter Try.func56, Try.ntmps56
        go_wp2_with (first
          | (go_at_call 79; have _ := H3; (with_reducible refine (H3.out.1).mono ?_); rintro e w2 ⟨rfl, hb2⟩; have HB2 := Lib.hid (bt H3.out.2.2 hb2); clear hb2)
          | (go_at_call 78; (with_reducible refine HC.out.mono ?_); rintro e w1 ⟨rfl, hb1⟩; have H3 := Lib.hid (HH.out _ hb1); obtain ⟨r0, r1, r2, r3, r4, r5⟩ := H3.out.2.1; clear hb1))
        go_ret
        exact ⟨by rw [X.out]; rfl, HB2.out⟩
    · rw [if_pos hz0] at hR
      have X := Lib.hid hR
      have hz1 : (z != 0) = true := by simp [hz0]
      clear hR hz hz0
      obtain ⟨p0, p1, p2, p3, p4, p5⟩ := HF.out
      go_enter Try.func56, Try.ntmps56
      go_wp2_with (go_at_call 78; (with_reducible refine HC.out.mono ?_); rintro e w1 ⟨rfl, hb1⟩; have HB1 := Lib.hid (bt (HAL.out _) hb1); clear hb1)
      go_ret
      exact ⟨by rw [X.out]; rfl, HB1.out⟩
  · have ho1 : (t.op != 1) = true := by simp [ho]
    rw [if_neg ho] at hR
    have X := Lib.hid hR
    clear hR ho
    go_enter Try.func56, Try.ntmps56
    go_wp2
    go_ret
    exact ⟨by rw [← X.out]; rfl, HAL.out _⟩
set_option maxHeartbeats 4000000 in
theorem rf_noth (t : Ex) (A : Option Addr) (c : Nat) (w : World) : Calls Try.prog 82 #[exV t A c] w (ValP w (noth t)) := by
  have HAL : Hid (∀ o, Below w.heap.size w (w.alloc o)) := Lib.hid (fun o => bal _ _)
  obtain ⟨R, hR⟩ : ∃ R, noth t = R := ⟨_, rfl⟩
  rw [hR]
  unfold noth at hR
  by_cases h0 : t.op = 0
  · have e0 : (t.op == 0) = true := by simp [h0]
    rw [e0, Bool.true_and] at hR
    clear h0
    by_cases h1 : t.vr = 0
    · have e1 : (t.vr == 0) = true := by simp [h1]
      rw [e1, Bool.true_and] at hR
      clear h1
      obtain ⟨q, hq⟩ : ∃ q, (t.nm.toList == []) = q := ⟨_, rfl⟩
      rw [hq] at hR
      cases q
      · have X : Hid (R = false) := Lib.hid hR.symm
        clear hR
        go_enter Try.func82, Try.ntmps82
        go_wp2
        go_ret
        exact ⟨by rw [X.out]; rfl, HAL.out _⟩
      · have X : Hid (R = ((t.ks.length : Int) == 0)) := Lib.hid (by rw [← hR, Bool.true_and, Bool.eq_iff_iff]; simp)
        clear hR
        go_enter Try.func82, Try.ntmps82
        go_wp2
        go_ret
        exact ⟨by rw [X.out]; rfl, HAL.out _⟩
    · have e1 : (t.vr == 0) = false := by simp [h1]
      rw [e1, Bool.false_and] at hR
      have X : Hid (R = false) := Lib.hid hR.symm
      clear h1 hR
      go_enter Try.func82, Try.ntmps82
      go_wp2
      go_ret
      exact ⟨by rw [X.out]; rfl, HAL.out _⟩
  · have e0 : (t.op == 0) = false := by simp [h0]
    rw [e0, Bool.false_and] at hR
    have X : Hid (R = false) := Lib.hid hR.symm
    clear h0 hR
    go_enter Try.func82, Try.ntmps82
    go_wp2
    go_ret
    exact ⟨by rw [X.out]; rfl, HAL.out _⟩
end Go.Proofs.Ytnjkphopklbogaa
namespace Go.Proofs.Ytnjkphopklbogaa
open Go.RowKit

def flF (t : Fx) (d k : Int) : Int :=
  if 64 < d then 17 else if t.op < 1 ∨ 13 < t.op then 11 else if tfl t ≠ 0 then tfl t else if (t.ks.length : Int) ≠ fk t.op then 3 else if t.op ≠ 1 ∧ noth t.e = false then 3 else if 4096 < k then 4 else 0
set_option maxRecDepth 100000 in
set_option maxHeartbeats 8000000 in
theorem pr_flF (t : Fx) (E A : Option Addr) (dd c : Nat) (d k : Int) (w : World) (hs : t.sz ≤ 100000000) (hR : Fm w.heap.size w t E A) : Calls Try.prog 32 #[fV t E dd A c, .int .i64 d, .int .i64 k] w fun e w' => e = .returned (.int .i64 (flF t d k)) ∧ Below w.heap.size w w' := by
  have hes := fe_sz t
  have HAL : Hid (∀ o, Below w.heap.size w (w.alloc o)) := Lib.hid (fun o => bal _ _)
  have HF := Lib.hid (fal t E A dd c w)
  have HT : Hid (Calls Try.prog 56 #[fV t E dd A c] (w.alloc (.cells (fC t E dd A c) 27)) fun e w' => e = .returned (.int .i64 (tfl t)) ∧ Below (w.alloc (.cells (fC t E dd A c) 27)).heap.size (w.alloc (.cells (fC t E dd A c) 27)) w') := Lib.hid (pr_tfl t E A dd c _ hs (hR.step (bal _ _)))
  have HX : Hid (∀ wx, Below (w.alloc (.cells (fC t E dd A c) 27)).heap.size (w.alloc (.cells (fC t E dd A c) 27)) wx → FAt wx w.heap.size 0 t E dd A c ∧ Below w.heap.size w wx) := Lib.hid (fun wx hb => ⟨HF.out.below hb (by simp), bt (HAL.out _) hb⟩)
  have HK : Hid (∀ wx : World, Calls Try.prog 57 #[.int .i64 t.op] wx fun e w' => e = .returned (.int .i64 (fk t.op)) ∧ wx = w') := Lib.hid (fun wx => pr_fkids t.op wx)
  have HS : Hid (∀ wx, Below (w.alloc (.cells (fC t E dd A c) 27)).heap.size (w.alloc (.cells (fC t E dd A c) 27)) wx → Calls Try.prog 53 #[exV t.e E dd, .agg #[.int .i64 0, .int .i64 0, .string ⟨#[]⟩, .slice none 0 0]] wx (ValP wx (noth t.e))) := Lib.hid (fun wx hb => by
    have h := pr_Same t.e.sz t.e (Nat.le_refl _) (by omega) ex0 (by decide) E none dd 0 wx ((hR.1.step (bal _ _)).step hb) (Rep.leaf rfl)
    rw [eq_ex0] at h
    exact h)
  obtain ⟨R, hR2⟩ : ∃ R, flF t d k = R := ⟨_, rfl⟩
  rw [hR2]
  unfold flF at hR2
  clear hs hes hR
  obtain ⟨z, hz⟩ : ∃ z, tfl t = z := ⟨_, rfl⟩
  rw [hz] at hR2 HT
  obtain ⟨nq, hnq⟩ : ∃ nq, noth t.e = nq := ⟨_, rfl⟩
  rw [hnq] at hR2 HS
  obtain ⟨ff, hff⟩ : ∃ ff, fk t.op = ff := ⟨_, rfl⟩
  rw [hff] at hR2 HK
  clear hz hnq hff
  by_cases h1 : 64 < d
  · have X : Hid (R = 17) := Lib.hid (by rw [← hR2, if_pos h1])
    clear hR2
    obtain ⟨p0, p1, p2, p3, p4, p5⟩ := HF.out
    go_enter Try.func32, Try.ntmps32
    go_wp2_with (go_at_call 56; (with_reducible refine HT.out.mono ?_); rintro e w1 ⟨rfl, hb1⟩; have H1 := Lib.hid (HX.out _ hb1); clear hb1)
    go_ret
    exact ⟨by rw [X.out]; rfl, H1.out.2⟩
  rw [if_neg h1] at hR2
  by_cases h2 : t.op < 1
  · have X : Hid (R = 11) := Lib.hid (by rw [← hR2, if_pos (.inl h2)])
    clear hR2
    obtain ⟨p0, p1, p2, p3, p4, p5⟩ := HF.out
    go_enter Try.func32, Try.ntmps32
    go_wp2_with (go_at_call 56; (with_reducible refine HT.out.mono ?_); rintro e w1 ⟨rfl, hb1⟩; have H1 := Lib.hid (HX.out _ hb1); obtain ⟨r0, r1, r2, r3, r4, r5⟩ := H1.out.1; clear hb1)
    go_ret
    exact ⟨by rw [X.out]; rfl, H1.out.2⟩
  by_cases h3 : 13 < t.op
  · have X : Hid (R = 11) := Lib.hid (by rw [← hR2, if_pos (.inr h3)])
    clear hR2
    obtain ⟨p0, p1, p2, p3, p4, p5⟩ := HF.out
    go_enter Try.func32, Try.ntmps32
    go_wp2_with (go_at_call 56; (with_reducible refine HT.out.mono ?_); rintro e w1 ⟨rfl, hb1⟩; have H1 := Lib.hid (HX.out _ hb1); obtain ⟨r0, r1, r2, r3, r4, r5⟩ := H1.out.1; clear hb1)
    go_ret
    exact ⟨by rw [X.out]; rfl, H1.out.2⟩
  rw [if_neg (by omega)] at hR2
  by_cases h4 : z = 0
  · subst h4
    rw [if_neg (by simp)] at hR2
    by_cases h5 : (t.ks.length : Int) = ff
    · have e5 : ((t.ks.length : Int) != ff) = false := by simp [h5]
      rw [if_neg (by simpa using h5)] at hR2
      by_cases h6 : t.op = 1
      · have e6 : (t.op != 1) = false := by simp [h6]
        rw [if_neg (by rintro ⟨h, _⟩; exact h h6)] at hR2
        clear h5 h6
        by_cases h7 : 4096 < k
        · have X : Hid (R = 4) := Lib.hid (by rw [← hR2, if_pos h7])
          clear hR2
          obtain ⟨p0, p1, p2, p3, p4, p5⟩ := HF.out
          go_enter Try.func32, Try.ntmps32
          go_upto_region 8 with (go_at_call 56; (with_reducible refine HT.out.mono ?_); rintro e w1 ⟨rfl, hb1⟩; have H1 := Lib.hid (HX.out _ hb1); obtain ⟨r0, r1, r2, r3, r4, r5⟩ := H1.out.1; clear hb1)
          go_quiet ((go_at_call 57; exact Calls.quiet_of_same ((HK.out _).mono fun _ _ h => ⟨h.1, h.2.symm⟩)))
          go_wp2
          go_ret
          exact ⟨by rw [X.out]; rfl, below_drewN H1.out.2 _⟩
        · have X : Hid (R = 0) := Lib.hid (by rw [← hR2, if_neg h7])
          clear hR2
          obtain ⟨p0, p1, p2, p3, p4, p5⟩ := HF.out
          go_enter Try.func32, Try.ntmps32
          go_upto_region 8 with (go_at_call 56; (with_reducible refine HT.out.mono ?_); rintro e w1 ⟨rfl, hb1⟩; have H1 := Lib.hid (HX.out _ hb1); obtain ⟨r0, r1, r2, r3, r4, r5⟩ := H1.out.1; clear hb1)
          go_quiet ((go_at_call 57; exact Calls.quiet_of_same ((HK.out _).mono fun _ _ h => ⟨h.1, h.2.symm⟩)))
          go_wp2
          go_ret
          exact ⟨by rw [X.out]; rfl, below_drewN H1.out.2 _⟩
      · have e6 : (t.op != 1) = true := by simp [h6]
        have HBD : Hid (∀ wx n, Below (w.alloc (.cells (fC t E dd A c) 27)).heap.size (w.alloc (.cells (fC t E dd A c) 27)) wx → Below (w.alloc (.cells (fC t E dd A c) 27)).heap.size (w.alloc (.cells (fC t E dd A c) 27)) (wx.drewN n)) := Lib.hid (fun wx n h => below_drewN h n)
        cases nq
        · have X : Hid (R = 3) := Lib.hid (by rw [← hR2, if_pos ⟨h6, rfl⟩])
          clear hR2 h5 h6
          obtain ⟨p0, p1, p2, p3, p4, p5⟩ := HF.out
          go_enter Try.func32, Try.ntmps32
          go_upto_region 8 with (go_at_call 56; (with_reducible refine HT.out.mono ?_); rintro e w1 ⟨rfl, hb1⟩; have H0 := Lib.hid hb1; have H1 := Lib.hid (HX.out _ hb1); obtain ⟨r0, r1, r2, r3, r4, r5⟩ := H1.out.1; clear hb1)
          go_quiet ((go_at_call 57; exact Calls.quiet_of_same ((HK.out _).mono fun _ _ h => ⟨h.1, h.2.symm⟩)))
          go_wp2_with (go_at_call 53; (with_reducible refine (HS.out _ (HBD.out _ _ H0.out)).mono ?_); rintro e w2 ⟨rfl, hb2⟩; have HB2 := Lib.hid (bt (below_drewN H1.out.2 _) hb2); clear hb2)
          go_ret
          exact ⟨by rw [X.out]; rfl, HB2.out⟩
        · rw [if_neg (by rintro ⟨_, h⟩; cases h)] at hR2
          clear h5 h6
          by_cases h7 : 4096 < k
          · have X : Hid (R = 4) := Lib.hid (by rw [← hR2, if_pos h7])
            clear hR2
            obtain ⟨p0, p1, p2, p3, p4, p5⟩ := HF.out
            go_enter Try.func32, Try.ntmps32
            go_upto_region 8 with (go_at_call 56; (with_reducible refine HT.out.mono ?_); rintro e w1 ⟨rfl, hb1⟩; have H0 := Lib.hid hb1; have H1 := Lib.hid (HX.out _ hb1); obtain ⟨r0, r1, r2, r3, r4, r5⟩ := H1.out.1; clear hb1)
            go_quiet ((go_at_call 57; exact Calls.quiet_of_same ((HK.out _).mono fun _ _ h => ⟨h.1, h.2.symm⟩)))
            go_wp2_with (go_at_call 53; (with_reducible refine (HS.out _ (HBD.out _ _ H0.out)).mono ?_); rintro e w2 ⟨rfl, hb2⟩; have HB2 := Lib.hid (bt (below_drewN H1.out.2 _) hb2); clear hb2)
            go_ret
            exact ⟨by rw [X.out]; rfl, HB2.out⟩
          · have X : Hid (R = 0) := Lib.hid (by rw [← hR2, if_neg h7])
            clear hR2
            obtain ⟨p0, p1, p2, p3, p4, p5⟩ := HF.out
            go_enter Try.func32, Try.ntmps32
            go_upto_region 8 with (go_at_call 56; (with_reducible refine HT.out.mono ?_); rintro e w1 ⟨rfl, hb1⟩; have H0 := Lib.hid hb1; have H1 := Lib.hid (HX.out _ hb1); obtain ⟨r0, r1, r2, r3, r4, r5⟩ := H1.out.1; clear hb1)
            go_quiet ((go_at_call 57; exact Calls.quiet_of_same ((HK.out _).mono fun _ _ h => ⟨h.1, h.2.symm⟩)))
            go_wp2_with (go_at_call 53; (with_reducible refine (HS.out _ (HBD.out _ _ H0.out)).mono ?_); rintro e w2 ⟨rfl, hb2⟩; have HB2 := Lib.hid (bt (below_drewN H1.out.2 _) hb2); clear hb2)
            go_ret
            exact ⟨by rw [X.out]; rfl, HB2.out⟩
    · have e5 : ((t.ks.length : Int) != ff) = true := by simp [h5]
      have X : Hid (R = 3) := Lib.hid (by rw [← hR2, if_pos h5])
      clear hR2 h5
      obtain ⟨p0, p1, p2, p3, p4, p5⟩ := HF.out
      go_enter Try.func32, Try.ntmps32
      go_upto_region 8 with (go_at_call 56; (with_reducible refine HT.out.mono ?_); rintro e w1 ⟨rfl, hb1⟩; have H1 := Lib.hid (HX.out _ hb1); obtain ⟨r0, r1, r2, r3, r4, r5⟩ := H1.out.1; clear hb1)
      go_quiet ((go_at_call 57; exact Calls.quiet_of_same ((HK.out _).mono fun _ _ h => ⟨h.1, h.2.symm⟩)))
      go_wp2
      go_ret
      exact ⟨by rw [X.out]; rfl, below_drewN H1.out.2 _⟩
  · have e4 : (z != 0) = true := by simp [h4]
    rw [if_pos h4] at hR2
    have X := Lib.hid hR2
    clear hR2 h4
    obtain ⟨p0, p1, p2, p3, p4, p5⟩ := HF.out
    go_enter Try.func32, Try.ntmps32
    go_wp2_with (go_at_call 56; (with_reducible refine HT.out.mono ?_); rintro e w1 ⟨rfl, hb1⟩; have H1 := Lib.hid (HX.out _ hb1); obtain ⟨r0, r1, r2, r3, r4, r5⟩ := H1.out.1; clear hb1)
    go_ret
    exact ⟨by rw [← X.out]; rfl, H1.out.2⟩
end Go.Proofs.Ytnjkphopklbogaa
