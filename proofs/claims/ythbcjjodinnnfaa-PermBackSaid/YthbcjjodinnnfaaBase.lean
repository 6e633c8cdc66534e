/- Slices of integers in memory; lists of integers: what the contracts of layer 5 (perm) speak of. -/
import Derived.Test.YthbcjjodinnnfaaRows
import Derived.WalkKit
import Derived.ProofKit
import Derived.OpenShut
import Derived.Handy
import Derived.Lib.Hide
import Derived.WalkLawsBesides
import Derived.PlainAid
import Derived.Laws.OwnMore
import Derived.Deep.Draws
import Derived.Laws.Rows
import Derived.Laws.BytesArg
import Derived.Deep.QuietTactic
import Derived.BigQuiet
import Derived.Laws.CopyOwn
import Derived.Maps.AppendAt
import Derived.Deep.AppendLies
import Derived.OwnWalk
namespace Go.Proofs.Ythbcjjodinnnfaa
open Go.RowKit

def li (l : List Int) (k : Nat) : Int := l.getD k 0
/-- The slice whose address is A reads as the integers l, below block B. -/
def RI (w : World) (B : Nat) (A : Option Addr) (l : List Int) : Prop :=
  0 < l.length → ∃ b off, A = some ⟨b, off, none⟩ ∧ b < B ∧ ∀ i, i < l.length → w.cell? ⟨b, off + i, none⟩ = some (.int .i64 (li l i))
section
variable {w w' : World} {B B' : Nat} {A : Option Addr} {l : List Int}
theorem RI.below (h : RI w B A l) (hb : Below B w w') : RI w' B A l := fun hl => by
  obtain ⟨b, off, e, hB, hc⟩ := h hl
  exact ⟨b, off, e, hB, fun i hi => (hb.cell (p := ⟨b, off + i, none⟩) hB).trans (hc i hi)⟩
theorem RI.more (h : RI w B A l) (hB : B ≤ B') : RI w B' A l := fun hl => by
  obtain ⟨b, off, e, hB, hc⟩ := h hl
  exact ⟨b, off, e, by omega, hc⟩
theorem RI.step (h : RI w w.heap.size A l) (hb : Below w.heap.size w w') : RI w' w'.heap.size A l := (h.below hb).more hb.size
theorem RI.nil : RI w B A [] := fun h => absurd h (by simp)
end
def intRow (l : List Int) : Array Value := (l.map (Value.int .i64)).toArray
theorem intRow_at {l : List Int} {i : Nat} (h : i < l.length) : (intRow l)[i]? = some (.int .i64 (li l i)) := by
  unfold intRow li; simp [h]
theorem intRow_set (l : List Int) (i : Nat) (b : Int) : (intRow l).setIfInBounds i (.int .i64 b) = intRow (l.set i b) := by
  unfold intRow; simp
theorem li_mem {l : List Int} {i : Nat} (h : i < l.length) : li l i ∈ l := by unfold li; simp [List.getD, List.getElem?_eq_getElem h]
theorem li_ext {a b : List Int} (h : a.length = b.length) (hk : ∀ i, i < a.length → li a i = li b i) : a = b := by
  apply List.ext_getElem h
  intro i h1 h2
  have := hk i h1
  unfold li at this
  simpa [List.getD, List.getElem?_eq_getElem h1, List.getElem?_eq_getElem h2] using this
theorem li_set {l : List Int} {i j : Nat} (hi : i < l.length) (x : Int) : li (l.set i x) j = if i = j then x else li l j := by
  unfold li; simp only [List.getD, List.getElem?_set]; split
  · rename_i h; subst h; simp
  · rfl
def Blk (w : World) (g : Nat) (t : TypeId) (cs : Array Value) : Prop := w.heap[g]? = some (.cells cs t (0, 0))
section
variable {w w' : World} {g : Nat} {t : TypeId} {cs : Array Value}
theorem Blk.lt (h : Blk w g t cs) : g < w.heap.size := by
  rcases Nat.lt_or_ge g w.heap.size with hlt | hge
  · exact hlt
  · unfold Blk at h; rw [Array.getElem?_eq_none hge] at h; cases h
theorem Blk.cell (h : Blk w g t cs) (i : Nat) : w.cell? ⟨g, i, none⟩ = cs[i]? := cell_of_row w g i cs t (0, 0) h
theorem Blk.frozen (h : Blk w g t cs) (i : Nat) : w.frozen? ⟨g, i, none⟩ = false := by
  unfold Blk at h
  simp [World.frozen?, h]
theorem Blk.new (w : World) (t : TypeId) (cs : Array Value) : Blk (w.alloc (.cells cs t)) w.heap.size t cs := heap_alloc_new w _
theorem Blk.drewN (h : Blk w g t cs) (n : Nat) : Blk (w.drewN n) g t cs := h
theorem Blk.set_ (h : Blk w g t cs) (i : Nat) (u : Value) : Blk (w.setCell ⟨g, i, none⟩ u) g t (cs.setIfInBounds i u) := by
  unfold Blk at h ⊢
  simp [World.setCell, Array.getElem?_modify, h]
theorem Blk.below {B : Nat} (h : Blk w g t cs) (hb : Below B w w') (hg : g < B) : Blk w' g t cs := (hb.block g hg).trans h
end
theorem RI.blk {w : World} {g B : Nat} {l : List Int} (h : Blk w g 3 (intRow l)) (hg : g < B) : RI w B (some ⟨g, 0, none⟩) l := fun _ =>
  ⟨g, 0, rfl, hg, fun i hi => by rw [h.cell, Nat.zero_add]; exact intRow_at hi⟩
theorem made_row (n : Nat) : madeCells #[Value.int .i64 0] n = intRow (List.replicate n 0) := by
  unfold madeCells intRow
  apply Array.ext
  · simp
  · intro i h1 h2
    simp
    rw [Nat.mod_one]; rfl
theorem info3 : (Try.prog.info? 3).map (fun i => (i.zero, i.size, i.bytes)) = some (some (.int .i64 0), 1, 8) := by kernel_rfl
theorem run_mk (n : Nat) (hn : n ≤ 1000000000000) (w : World) : (Instr.makeSlice 22 (.int .i64 (n : Int)) (.int .i64 (n : Int))).run Try.prog w = .ok (.slice (some ⟨w.heap.size, 0, none⟩) n n) (w.alloc (.cells (intRow (List.replicate n 0)) 3)) := by
  obtain ⟨i, hi, hz0, hz1, hz2⟩ := info_parts info3
  have h := run_make (P := Try.prog) w 22 3 i _ Try.underlying22 hi hz0 .i64 .i64 n n (by omega) (by omega) (by rw [hz2]; omega) (by omega)
  rw [hz1] at h
  simp only [Int.toNat_natCast, Nat.mul_one] at h
  rw [h]
  have e : (Value.int .i64 0).cells = #[Value.int .i64 0] := rfl
  rw [e, made_row]

theorem copy_at {w : World} {l : List Int} {b off : Nat} (hc : ∀ i, i < l.length → w.cell? ⟨b, off + i, none⟩ = some (.int .i64 (li l i))) (j : Nat) (v : Value) (hj : (l.map (Value.int .i64))[j]? = some v) :
    w.cell? ((⟨b, off, none⟩ : Addr).add j) = some v := by
  rw [List.getElem?_map] at hj
  have hjl : j < l.length := by
    rcases Nat.lt_or_ge j l.length with h | h
    · exact h
    · rw [List.getElem?_eq_none h] at hj; cases hj
  have hv : v = .int .i64 (li l j) := by
    rw [List.getElem?_eq_getElem hjl] at hj
    unfold li; simp [List.getD, List.getElem?_eq_getElem hjl]
    simpa using hj.symm
  have ha : (⟨b, off, none⟩ : Addr).add j = ⟨b, off + j, none⟩ := by unfold Addr.add; split <;> simp_all
  rw [ha, hv]; exact hc j hjl
theorem splice_all {α : Type} (a b : List α) (h : a.length = b.length) : splice a 0 b = b := by
  unfold splice; simp [h]
end Go.Proofs.Ythbcjjodinnnfaa
