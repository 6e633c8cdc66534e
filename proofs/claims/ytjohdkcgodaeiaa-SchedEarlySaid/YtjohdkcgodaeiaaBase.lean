/- Slices of integers in memory; lists of integers; rows of the call's own; layer 42 (sched). -/
import Derived.Test.YtjohdkcgodaeiaaRows
import Derived.WalkKit
import Derived.ProofKit
import Derived.OpenShut
import Derived.Handy
import Derived.Lib.Hide
import Derived.WalkLawsBesides
import Derived.PlainAid
import Derived.Laws.OwnMore
import Derived.Deep.Draws
import Derived.Laws.Rows
import Derived.Laws.BytesArg
import Derived.Deep.QuietTactic
import Derived.BigQuiet
import Derived.Laws.CopyOwn
import Derived.Maps.AppendAt
import Derived.Deep.AppendLies
import Derived.OwnWalk
import Derived.Laws.AppendOwnNone
import Derived.Deep.LoopGhost
import Derived.StillTailTactics
import Derived.IntWalk
import Derived.Shelf.Slices.Reverse
namespace Go.Proofs.Ytjohdkcgodaeiaa
open Go.RowKit

def li (l : List Int) (k : Nat) : Int := l.getD k 0
/-- The slice whose address is A reads as the integers l, below block B. -/
def RI (w : World) (B : Nat) (A : Option Addr) (l : List Int) : Prop :=
  0 < l.length → ∃ b off, A = some ⟨b, off, none⟩ ∧ b < B ∧ ∀ i, i < l.length → w.cell? ⟨b, off + i, none⟩ = some (.int .i64 (li l i))
section
variable {w w' : World} {B B' : Nat} {A : Option Addr} {l : List Int}
theorem RI.below (h : RI w B A l) (hb : Below B w w') : RI w' B A l := fun hl => by
  obtain ⟨b, off, e, hB, hc⟩ := h hl
  exact ⟨b, off, e, hB, fun i hi => (hb.cell (p := ⟨b, off + i, none⟩) hB).trans (hc i hi)⟩
theorem RI.more (h : RI w B A l) (hB : B ≤ B') : RI w B' A l := fun hl => by
  obtain ⟨b, off, e, hB, hc⟩ := h hl
  exact ⟨b, off, e, by omega, hc⟩
theorem RI.step (h : RI w w.heap.size A l) (hb : Below w.heap.size w w') : RI w' w'.heap.size A l := (h.below hb).more hb.size
theorem RI.nil : RI w B A [] := fun h => absurd h (by simp)
end
def intRow (l : List Int) : Array Value := (l.map (Value.int .i64)).toArray
theorem intRow_at {l : List Int} {i : Nat} (h : i < l.length) : (intRow l)[i]? = some (.int .i64 (li l i)) := by
  unfold intRow li; simp [h]
theorem intRow_set (l : List Int) (i : Nat) (b : Int) : (intRow l).setIfInBounds i (.int .i64 b) = intRow (l.set i b) := by
  unfold intRow; simp
theorem li_mem {l : List Int} {i : Nat} (h : i < l.length) : li l i ∈ l := by unfold li; simp [List.getD, List.getElem?_eq_getElem h]
theorem li_ext {a b : List Int} (h : a.length = b.length) (hk : ∀ i, i < a.length → li a i = li b i) : a = b := by
  apply List.ext_getElem h
  intro i h1 h2
  have := hk i h1
  unfold li at this
  simpa [List.getD, List.getElem?_eq_getElem h1, List.getElem?_eq_getElem h2] using this
theorem li_set {l : List Int} {i j : Nat} (hi : i < l.length) (x : Int) : li (l.set i x) j = if i = j then x else li l j := by
  unfold li; simp only [List.getD, List.getElem?_set]; split
  · rename_i h; subst h; simp
  · rfl
def Blk (w : World) (g : Nat) (t : TypeId) (cs : Array Value) : Prop := w.heap[g]? = some (.cells cs t (0, 0))
section
variable {w w' : World} {g : Nat} {t : TypeId} {cs : Array Value}
theorem Blk.lt (h : Blk w g t cs) : g < w.heap.size := by
  rcases Nat.lt_or_ge g w.heap.size with hlt | hge
  · exact hlt
  · unfold Blk at h; rw [Array.getElem?_eq_none hge] at h; cases h
theorem Blk.cell (h : Blk w g t cs) (i : Nat) : w.cell? ⟨g, i, none⟩ = cs[i]? := cell_of_row w g i cs t (0, 0) h
theorem Blk.frozen (h : Blk w g t cs) (i : Nat) : w.frozen? ⟨g, i, none⟩ = false := by
  unfold Blk at h
  simp [World.frozen?, h]
theorem Blk.new (w : World) (t : TypeId) (cs : Array Value) : Blk (w.alloc (.cells cs t)) w.heap.size t cs := heap_alloc_new w _
theorem Blk.drewN (h : Blk w g t cs) (n : Nat) : Blk (w.drewN n) g t cs := h
theorem Blk.set_ (h : Blk w g t cs) (i : Nat) (u : Value) : Blk (w.setCell ⟨g, i, none⟩ u) g t (cs.setIfInBounds i u) := by
  unfold Blk at h ⊢
  simp [World.setCell, Array.getElem?_modify, h]
theorem Blk.below {B : Nat} (h : Blk w g t cs) (hb : Below B w w') (hg : g < B) : Blk w' g t cs := (hb.block g hg).trans h
end
theorem RI.blk {w : World} {g B : Nat} {l : List Int} (h : Blk w g 3 (intRow l)) (hg : g < B) : RI w B (some ⟨g, 0, none⟩) l := fun _ =>
  ⟨g, 0, rfl, hg, fun i hi => by rw [h.cell, Nat.zero_add]; exact intRow_at hi⟩
theorem made_row (n : Nat) : madeCells #[Value.int .i64 0] n = intRow (List.replicate n 0) := by
  unfold madeCells intRow
  apply Array.ext
  · simp
  · intro i h1 h2
    simp
    rw [Nat.mod_one]; rfl
theorem info3 : (Try.prog.info? 3).map (fun i => (i.zero, i.size, i.bytes)) = some (some (.int .i64 0), 1, 8) := by kernel_rfl
theorem run_mk (n : Nat) (hn : n ≤ 1000000000000) (w : World) : (Instr.makeSlice 23 (.int .i64 (n : Int)) (.int .i64 (n : Int))).run Try.prog w = .ok (.slice (some ⟨w.heap.size, 0, none⟩) n n) (w.alloc (.cells (intRow (List.replicate n 0)) 3)) := by
  obtain ⟨i, hi, hz0, hz1, hz2⟩ := info_parts info3
  have h := run_make (P := Try.prog) w 23 3 i _ Try.underlying23 hi hz0 .i64 .i64 n n (by omega) (by omega) (by rw [hz2]; omega) (by omega)
  rw [hz1] at h
  simp only [Int.toNat_natCast, Nat.mul_one] at h
  rw [h]
  have e : (Value.int .i64 0).cells = #[Value.int .i64 0] := rfl
  rw [e, made_row]

theorem copy_at {w : World} {l : List Int} {b off : Nat} (hc : ∀ i, i < l.length → w.cell? ⟨b, off + i, none⟩ = some (.int .i64 (li l i))) (j : Nat) (v : Value) (hj : (l.map (Value.int .i64))[j]? = some v) :
    w.cell? ((⟨b, off, none⟩ : Addr).add j) = some v := by
  rw [List.getElem?_map] at hj
  have hjl : j < l.length := by
    rcases Nat.lt_or_ge j l.length with h | h
    · exact h
    · rw [List.getElem?_eq_none h] at hj; cases hj
  have hv : v = .int .i64 (li l j) := by
    rw [List.getElem?_eq_getElem hjl] at hj
    unfold li; simp [List.getD, List.getElem?_eq_getElem hjl]
    simpa using hj.symm
  have ha : (⟨b, off, none⟩ : Addr).add j = ⟨b, off + j, none⟩ := by unfold Addr.add; split <;> simp_all
  rw [ha, hv]; exact hc j hjl
theorem splice_all {α : Type} (a b : List α) (h : a.length = b.length) : splice a 0 b = b := by
  unfold splice; simp [h]
def Own (w : World) (base : Nat) (v : Value) (l : List Int) : Prop := w.ownsRow base 3 1 v l.length (l.map (Value.int .i64))
theorem Own.empty (w : World) : Own (w.alloc (.cells #[] 3)) w.heap.size (.slice (some ⟨w.heap.size, 0, none⟩) 0 0) [] := by
  refine ⟨rfl, .inr ⟨w.heap.size, 0, #[], rfl, Nat.le_refl _, ?_, Nat.le_refl _, Nat.zero_le _, rfl, rfl⟩⟩
  exact heap_alloc_new w _
theorem Own.block {w : World} {base : Nat} {v : Value} {l : List Int} (h : Own w base v l) (k : Nat) (e : v.ownBlock = some k) : base ≤ k := by
  rcases h.2 with ⟨rfl, _⟩ | ⟨g, cap, cur, rfl, hg, _⟩
  · simp [Value.ownBlock] at e
  · simp [Value.ownBlock] at e; omega
theorem Own.form {w : World} {base : Nat} {v : Value} {l : List Int} (h : Own w base v l) : ∃ A c, v = .slice A l.length c ∧ RI w w.heap.size A l ∧ (A = none → c = 0) := by
  rcases h.2 with ⟨rfl, h0⟩ | ⟨g, cap, cur, rfl, hg, hh, hn, hc, hsz, htk⟩
  · have : l = [] := List.eq_nil_of_length_eq_zero h0
    subst this
    exact ⟨none, 0, rfl, RI.nil, fun _ => rfl⟩
  · refine ⟨_, cap, rfl, fun hp => ⟨g, 0, rfl, ?_, fun i hi => ?_⟩, fun e => by cases e⟩
    · rcases Nat.lt_or_ge g w.heap.size with hlt | hge
      · exact hlt
      · rw [Array.getElem?_eq_none hge] at hh; cases hh
    · rw [Nat.zero_add, cell_of_row w g i cur 3 (0, 0) hh]
      have h2 : (l.map (Value.int .i64))[i]? = some (.int .i64 (li l i)) := by unfold li; simp [hi]
      rw [← htk, List.getElem?_take] at h2
      split at h2
      · simpa using h2
      · cases h2
theorem Own.push {w : World} {base : Nat} {v : Value} {l : List Int} {b : Int} (h : w.ownsRow base 3 1 v (l.length + 1) (l.map (Value.int .i64) ++ [.int .i64 b])) : Own w base v (l ++ [b]) := by
  unfold Own; simpa using h
theorem Own.grow {w wr w1 : World} {v : Value} {l : List Int} {o : Obj} (hO : Own wr w.heap.size v l) (hb : Below w.heap.size w wr) (hg : (wr.alloc o).grownBy w1 v.ownBlock) : Below w.heap.size w w1 :=
  (hb.alloc hb.size _).grown hg (by have := hb.size; simp; omega) (fun k e => hO.block k e)
theorem max_ok {n : Nat} (h : n ≤ 1000000000000) : n + 1 ≤ maxLen := by unfold maxLen; omega
theorem Own.set {w : World} {base : Nat} {v : Value} {l : List Int} {i : Nat} (h : Own w base v l) (hi : i < l.length) (x : Int) :
    ∃ g c, v = .slice (some ⟨g, 0, none⟩) l.length c ∧ base ≤ g ∧ g < w.heap.size ∧ w.frozen? ⟨g, i, none⟩ = false ∧ Own (w.setCell ⟨g, i, none⟩ (.int .i64 x)) base v (l.set i x) := by
  rcases h.2 with ⟨rfl, h0⟩ | ⟨g, cap, cur, rfl, hg, hh, hn, hc, hsz, htk⟩
  · omega
  · have hlt : g < w.heap.size := by
      rcases Nat.lt_or_ge g w.heap.size with hlt | hge
      · exact hlt
      · rw [Array.getElem?_eq_none hge] at hh; cases hh
    have hB : Blk w g 3 cur := hh
    refine ⟨g, cap, rfl, hg, hlt, hB.frozen i, ?_⟩
    have hB2 := hB.set_ i (.int .i64 x)
    refine ⟨by simp, .inr ⟨g, cap, _, by simp, hg, hB2, by simpa using hn, hc, by simpa using hsz, ?_⟩⟩
    simp only [Array.toList_setIfInBounds, List.length_set]
    rw [List.take_set, htk, List.map_set]

theorem add_block (a : Addr) (n : Nat) : (a.add n).block = a.block := by unfold Addr.add; split <;> rfl
theorem RI.src {w : World} {B : Nat} {ad : Addr} {l : List Int} (h : RI w B (some ad) l) (j : Nat) (u : Value) (hj : (l.map (Value.int .i64))[j]? = some u) : w.cell? (ad.add j) = some u ∧ (ad.add j).block < B := by
  have hp : 0 < l.length := by
    rcases l with _ | ⟨x, l⟩
    · simp at hj
    · simp
  obtain ⟨b, off, e, hb, hc⟩ := h hp
  injection e with e
  subst e
  exact ⟨copy_at hc j u hj, by rw [add_block]; exact hb⟩
theorem RI.none_nil {w : World} {B : Nat} {l : List Int} (h : RI w B none l) : l = [] := by
  rcases l with _ | ⟨x, l⟩
  · rfl
  · obtain ⟨b, off, e, _⟩ := h (by simp); cases e
theorem growE {w w1 : World} {o : Obj} (hg : (w.alloc o).grownBy w1 (Value.slice (some ⟨w.heap.size, 0, none⟩) 0 0).ownBlock) : Below w.heap.size w w1 :=
  ((Below.refl _ _).alloc (Nat.le_refl _) _).grown hg (by simp) (fun k e => by simp [Value.ownBlock] at e; omega)
theorem below_put {w : World} {B g n : Nat} {m : List Int} (hg : B ≤ g) : Below B w (Sort.putRow (Value.int .i64) (Sort.ahead w n) g 0 m.toArray) := by
  refine ⟨rfl, rfl, rfl, ?_, fun k hk => ?_⟩
  · unfold Sort.putRow Sort.mapBlock; simp [Sort.ahead]
  · unfold Sort.putRow Sort.mapBlock
    simp only [Array.getElem?_modify]
    rw [if_neg (by omega)]
    rfl

theorem Own.keep {w w' : World} {base : Nat} {v : Value} {l : List Int} (h : Own w base v l) (hb : Below w.heap.size w w') : Own w' base v l := by
  obtain ⟨h1, h2⟩ := h
  refine ⟨h1, ?_⟩
  rcases h2 with h2 | ⟨g, cap, cur, e, hg, hh, r⟩
  · exact .inl h2
  · have hlt : g < w.heap.size := by
      rcases Nat.lt_or_ge g w.heap.size with q | q
      · exact q
      · rw [Array.getElem?_eq_none q] at hh; cases hh
    exact .inr ⟨g, cap, cur, e, hg, (hb.block g hlt).trans hh, r⟩

theorem Own.less {w : World} {base b2 : Nat} {v : Value} {l : List Int} (h : Own w base v l) (hb : b2 ≤ base) : Own w b2 v l := by
  obtain ⟨h1, h2⟩ := h
  refine ⟨h1, ?_⟩
  rcases h2 with h2 | ⟨g, cap, cur, e, hg, r⟩
  · exact .inl h2
  · exact .inr ⟨g, cap, cur, e, by omega, r⟩

theorem li_splice {L cs : List Int} {off : Nat} (h : off + cs.length ≤ L.length) (j : Nat) : li (splice L off cs) j = if j < off then li L j else if j < off + cs.length then li cs (j - off) else li L j := by
  unfold li splice
  simp only [List.getD, List.getElem?_append, List.getElem?_drop, List.length_take, List.getElem?_take]
  have e : min off L.length = off := by omega
  rw [e]
  by_cases a : j < off
  · simp [a]
  · by_cases b : j < off + cs.length
    · rw [if_neg a, if_pos (by omega), if_neg a, if_pos b]
    · rw [if_neg a, if_neg (by omega), if_neg a, if_neg b]
      congr 2; omega
theorem splice_map (L cs : List Int) (off : Nat) : splice (L.map (Value.int .i64)) off (cs.map (Value.int .i64)) = (splice L off cs).map (Value.int .i64) := by
  unfold splice; simp [List.map_take, List.map_drop]
theorem li_part {l : List Int} {a n j : Nat} (h : j < n) : li ((l.drop a).take n) j = li l (a + j) := by
  unfold li; simp [List.getD, h]
theorem li_get {l : List Int} {k : Nat} (h : k < l.length) : li l k = l[k] := by unfold li; simp [List.getD, List.getElem?_eq_getElem h]
theorem add_off (b off j : Nat) : (⟨b, off, none⟩ : Addr).add j = ⟨b, off + j, none⟩ := by unfold Addr.add; split <;> simp_all
theorem below_drew1 {B : Nat} {w w1 : World} (h : Below B w w1) : Below B w w1.drew := h.drew
theorem li_app {a z : List Int} {j : Nat} (h : j < a.length) : li (a ++ z) j = li a j := by
  unfold li; simp [List.getD, List.getElem?_append, h]
theorem holds_pre {w : World} {g : Nat} {l z : List Int} (h : Blk w g 3 (intRow (l ++ z))) : Sort.Holds (Value.int .i64) w g 0 l.toArray := fun j hj => by
  have hj' : j < l.length := by simpa using hj
  refine ⟨?_, by rw [Nat.zero_add]; exact h.frozen j⟩
  rw [Nat.zero_add, h.cell, intRow_at (by rw [List.length_append]; omega), li_app hj']
  unfold li
  have e : l.toArray[j]! = l[j] := by simp [hj']
  rw [e]
  simp [List.getD, List.getElem?_eq_getElem hj']
theorem blk_put_pre {w : World} {g n : Nat} {l m z : List Int} (h : Blk w g 3 (intRow (l ++ z))) (hl : m.length = l.length) : Blk (Sort.putRow (Value.int .i64) (Sort.ahead w n) g 0 m.toArray) g 3 (intRow (m ++ z)) := by
  have h1 : (Sort.ahead w n).heap[g]? = some (.cells (intRow (l ++ z)) 3 (0, 0)) := h
  have h2 : (Sort.putRow (Value.int .i64) (Sort.ahead w n) g 0 m.toArray).heap[g]? = some (.cells (Sort.putCells (Value.int .i64) 0 m.toArray (intRow (l ++ z))) 3 (0, 0)) := by
    unfold Sort.putRow Sort.mapBlock
    simp only [Array.getElem?_modify, if_true, h1, Option.map_some]
    rfl
  have h3 : Sort.putCells (Value.int .i64) 0 m.toArray (intRow (l ++ z)) = intRow (m ++ z) := by
    apply Array.ext_getElem?
    intro i
    have s1 : (intRow (m ++ z)).size = m.length + z.length := by unfold intRow; simp
    have s2 : (Sort.putCells (Value.int .i64) 0 m.toArray (intRow (l ++ z))).size = l.length + z.length := by unfold Sort.putCells intRow; simp
    by_cases hi : i < m.length + z.length
    · rw [intRow_at (by rw [List.length_append]; omega)]
      unfold Sort.putCells
      rw [Array.getElem?_mapIdx, intRow_at (by rw [List.length_append]; omega)]
      by_cases hm : i < m.length
      · rw [li_app hm]
        have e : m.toArray[i]! = li m i := by unfold li; simp [hm, List.getD]
        simp [hm]
        unfold li; simp [List.getD, hm]
      · have e : li (m ++ z) i = li (l ++ z) i := by unfold li; simp [List.getD, List.getElem?_append, show ¬ i < l.length by omega, hl]
        simp [hm, e]
    · rw [Array.getElem?_eq_none (by omega), Array.getElem?_eq_none (by omega)]
  unfold Blk
  rw [h2, h3]
theorem put_size {w : World} {g n : Nat} {m : List Int} : (Sort.putRow (Value.int .i64) (Sort.ahead w n) g 0 m.toArray).heap.size = w.heap.size := by
  unfold Sort.putRow Sort.mapBlock; simp [Sort.ahead]
theorem Own.put {w : World} {B g n : Nat} {m : List Int} {v : Value} {l : List Int} (h : Own w B v l) (hg : g < B) : Own (Sort.putRow (Value.int .i64) (Sort.ahead w n) g 0 m.toArray) B v l := by
  obtain ⟨h1, h2⟩ := h
  refine ⟨h1, ?_⟩
  rcases h2 with h2 | ⟨g2, cap, cur, e, hg2, hh, r⟩
  · exact .inl h2
  · refine .inr ⟨g2, cap, cur, e, hg2, ?_, r⟩
    unfold Sort.putRow Sort.mapBlock
    simp only [Array.getElem?_modify]
    rw [if_neg (by omega)]
    exact hh
theorem Own.grow2 {w wr w1 : World} {B : Nat} {v : Value} {l : List Int} {o : Obj} (hO : Own wr B v l) (hb : Below B w wr) (hB : B ≤ wr.heap.size) (hg : (wr.alloc o).grownBy w1 v.ownBlock) : Below B w w1 :=
  (hb.alloc hB _).grown hg (by simp; omega) (fun k e => hO.block k e)
theorem Own.grow3 {w wr w1 : World} {B0 B : Nat} {v : Value} {l : List Int} {o : Obj} (hO : Own wr B v l) (hb : Below B0 w wr) (h0 : B0 ≤ B) (hB : B ≤ wr.heap.size) (hg : (wr.alloc o).grownBy w1 v.ownBlock) : Below B0 w w1 :=
  (hb.alloc (by omega) _).grown hg (by simp; omega) (fun k e => Nat.le_trans h0 (hO.block k e))

theorem Own.other {w w1 : World} {B2 : Nat} {v2 : Value} {l2 : List Int} {row : Option Nat} (h : Own w B2 v2 l2) (hr : ∀ k, row = some k → k < B2) (hg : w.grownBy w1 row) : Own w1 B2 v2 l2 := by
  obtain ⟨h1, h2⟩ := h
  refine ⟨h1, ?_⟩
  rcases h2 with h2 | ⟨g2, cap, cur, e, hg2, hh, r⟩
  · exact .inl h2
  · have hlt : g2 < w.heap.size := by
      rcases Nat.lt_or_ge g2 w.heap.size with q | q
      · exact q
      · rw [Array.getElem?_eq_none q] at hh; cases hh
    exact .inr ⟨g2, cap, cur, e, hg2, (hg.block g2 hlt (fun e2 => by have := hr g2 e2.symm; omega)).trans hh, r⟩
theorem Own.alloc1 {w : World} {B : Nat} {v : Value} {l : List Int} (h : Own w B v l) (o : Obj) : Own (w.alloc o) B v l := World.ownsRow.alloc h o
theorem Own.lt {w : World} {B : Nat} {v : Value} {l : List Int} (h : Own w B v l) (k : Nat) (e : v.ownBlock = some k) : k < w.heap.size := by
  rcases h.2 with ⟨rfl, _⟩ | ⟨g, cap, cur, rfl, hg, hh, _⟩
  · simp [Value.ownBlock] at e
  · simp [Value.ownBlock] at e
    subst e
    rcases Nat.lt_or_ge g w.heap.size with q | q
    · exact q
    · rw [Array.getElem?_eq_none q] at hh; cases hh

theorem quiet_left {P : Program} {f : FuncId} {args : Array Value} {w : World} {n : Nat} {v : Value}
    (h : Calls P f args (w.drewN n) fun e w' => e = .returned v ∧ w.drewN n = w') : Calls P f args (w.drewN n) fun e w'' => e = .returned v ∧ ∃ m, w'' = w.drewN m :=
  h.mono fun _ _ ⟨he, hm⟩ => ⟨he, n, hm.symm⟩
theorem Blk.lit (w : World) (l : List Int) (cs : Array Value) (e : cs = intRow l) : Blk (w.alloc (.cells cs 3)) w.heap.size 3 (intRow l) := by rw [← e]; exact Blk.new w 3 cs
def Gives (w : World) (l : List Int) (e : Ending) (w' : World) : Prop := ∃ A c, e = .returned (.slice A l.length c) ∧ RI w' w'.heap.size A l ∧ (A = none → c = 0) ∧ Below w.heap.size w w'
theorem gives_own {w w' : World} {l : List Int} {v : Value} {e : Ending} (he : e = .returned v) (hO : Own w' w.heap.size v l) (hb : Below w.heap.size w w') : Gives w l e w' := by
  obtain ⟨A, c, rfl, hR, hA⟩ := hO.form
  exact ⟨A, c, he, hR, hA, hb⟩
theorem gives_blk {w w' : World} {l : List Int} {g n c : Nat} {e : Ending} (hn : n = l.length) (he : e = .returned (.slice (some ⟨g, 0, none⟩) n c)) (h : Blk w' g 3 (intRow l)) (hb : Below w.heap.size w w') : Gives w l e w' := by
  subst hn
  exact ⟨_, c, he, RI.blk h h.lt, (fun e => by cases e), hb⟩
theorem RI.drewN {w : World} {A : Option Addr} {l : List Int} (h : RI w w.heap.size A l) (n : Nat) : RI (w.drewN n) (w.drewN n).heap.size A l := h
theorem below_drewN_l {w w1 : World} {n : Nat} (h : Below (w.drewN n).heap.size (w.drewN n) w1) : Below w.heap.size w w1 := (below_drewN (Below.refl w.heap.size w) n).trans h

end Go.Proofs.Ytjohdkcgodaeiaa
