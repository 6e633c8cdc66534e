/- Slices of booleans in memory; lists of booleans: what the contracts of layer 2 (bits) speak of. -/
import Derived.Test.YteoijhmaklocpaaRows
import Derived.WalkKit
import Derived.ProofKit
import Derived.OpenShut
import Derived.Handy
import Derived.Lib.Hide
import Derived.WalkLawsBesides
import Derived.PlainAid
import Derived.Laws.OwnMore
import Derived.Deep.Draws
import Derived.Laws.Rows
import Derived.Laws.BytesArg
import Derived.Deep.QuietTactic
import Derived.BigQuiet
namespace Go.Proofs.Yteoijhmaklocpaa
open Go.RowKit

def lb (l : List Bool) (k : Nat) : Bool := l.getD k false
/-- The slice whose address is A reads as the booleans l, below block B. -/
def RB (w : World) (B : Nat) (A : Option Addr) (l : List Bool) : Prop :=
  0 < l.length → ∃ b off, A = some ⟨b, off, none⟩ ∧ b < B ∧ ∀ i, i < l.length → w.cell? ⟨b, off + i, none⟩ = some (.bool (lb l i))
section
variable {w w' : World} {B B' : Nat} {A : Option Addr} {l : List Bool}
theorem RB.below (h : RB w B A l) (hb : Below B w w') : RB w' B A l := fun hl => by
  obtain ⟨b, off, e, hB, hc⟩ := h hl
  exact ⟨b, off, e, hB, fun i hi => (hb.cell (p := ⟨b, off + i, none⟩) hB).trans (hc i hi)⟩
theorem RB.more (h : RB w B A l) (hB : B ≤ B') : RB w B' A l := fun hl => by
  obtain ⟨b, off, e, hB, hc⟩ := h hl
  exact ⟨b, off, e, by omega, hc⟩
theorem RB.drewN (h : RB w B A l) (n : Nat) : RB (w.drewN n) B A l := h
theorem RB.nil : RB w B A [] := fun h => absurd h (by simp)
end
def boolRow (l : List Bool) : Array Value := (l.map Value.bool).toArray
theorem boolRow_at {l : List Bool} {i : Nat} (h : i < l.length) : (boolRow l)[i]? = some (.bool (lb l i)) := by
  unfold boolRow lb; simp [h]
theorem boolRow_set (l : List Bool) (i : Nat) (b : Bool) : (boolRow l).setIfInBounds i (.bool b) = boolRow (l.set i b) := by
  unfold boolRow; simp
def Blk (w : World) (g : Nat) (t : TypeId) (cs : Array Value) : Prop := w.heap[g]? = some (.cells cs t (0, 0))
section
variable {w w' : World} {g : Nat} {t : TypeId} {cs : Array Value}
theorem Blk.lt (h : Blk w g t cs) : g < w.heap.size := by
  rcases Nat.lt_or_ge g w.heap.size with hlt | hge
  · exact hlt
  · unfold Blk at h; rw [Array.getElem?_eq_none hge] at h; cases h
theorem Blk.cell (h : Blk w g t cs) (i : Nat) : w.cell? ⟨g, i, none⟩ = cs[i]? := cell_of_row w g i cs t (0, 0) h
theorem Blk.frozen (h : Blk w g t cs) (i : Nat) : w.frozen? ⟨g, i, none⟩ = false := by
  unfold Blk at h
  simp [World.frozen?, h]
theorem Blk.new (w : World) (t : TypeId) (cs : Array Value) : Blk (w.alloc (.cells cs t)) w.heap.size t cs := heap_alloc_new w _
theorem Blk.drewN (h : Blk w g t cs) (n : Nat) : Blk (w.drewN n) g t cs := h
theorem Blk.set_ (h : Blk w g t cs) (i : Nat) (u : Value) : Blk (w.setCell ⟨g, i, none⟩ u) g t (cs.setIfInBounds i u) := by
  unfold Blk at h ⊢
  simp [World.setCell, Array.getElem?_modify, h]
theorem Blk.below {B : Nat} (h : Blk w g t cs) (hb : Below B w w') (hg : g < B) : Blk w' g t cs := (hb.block g hg).trans h
end
theorem RB.blk {w : World} {g B : Nat} {l : List Bool} (h : Blk w g 4 (boolRow l)) (hg : g < B) : RB w B (some ⟨g, 0, none⟩) l := fun _ =>
  ⟨g, 0, rfl, hg, fun i hi => by rw [h.cell, Nat.zero_add]; exact boolRow_at hi⟩
theorem made_row (n : Nat) : madeCells #[Value.bool false] n = boolRow (List.replicate n false) := by
  unfold madeCells boolRow
  apply Array.ext
  · simp
  · intro i h1 h2
    simp
    rw [Nat.mod_one]; rfl
theorem info4 : (Try.prog.info? 4).map (fun i => (i.zero, i.size, i.bytes)) = some (some (.bool false), 1, 1) := by kernel_rfl
theorem run_mk (n : Nat) (hn : n ≤ 1000000000000) (w : World) : (Instr.makeSlice 23 (.int .i64 (n : Int)) (.int .i64 (n : Int))).run Try.prog w = .ok (.slice (some ⟨w.heap.size, 0, none⟩) n n) (w.alloc (.cells (boolRow (List.replicate n false)) 4)) := by
  obtain ⟨i, hi, hz0, hz1, hz2⟩ := info_parts info4
  have h := run_make (P := Try.prog) w 23 4 i _ Try.underlying23 hi hz0 .i64 .i64 n n (by omega) (by omega) (by rw [hz2]; omega) (by omega)
  rw [hz1] at h
  simp only [Int.toNat_natCast, Nat.mul_one] at h
  rw [h]
  have e : (Value.bool false).cells = #[Value.bool false] := rfl
  rw [e, made_row]

/-- Lexicographic order. -/
def lessL : List Bool → List Bool → Bool
  | [], [] => false
  | [], _ :: _ => true
  | _ :: _, [] => false
  | x :: a, y :: b => if x = y then lessL a b else y
theorem drop_lb {l : List Bool} {k : Nat} (h : k < l.length) : l.drop k = lb l k :: l.drop (k + 1) := by
  rw [List.drop_eq_getElem_cons h]; unfold lb; simp [List.getD, List.getElem?_eq_getElem h]
theorem lessL_eq {a b : List Bool} {k : Nat} (ha : k < a.length) (hb : k < b.length) (h : lb a k = lb b k) : lessL (a.drop k) (b.drop k) = lessL (a.drop (k + 1)) (b.drop (k + 1)) := by
  rw [drop_lb ha, drop_lb hb]; show (if _ then _ else _) = _; rw [if_pos h]
theorem lessL_ne {a b : List Bool} {k : Nat} (ha : k < a.length) (hb : k < b.length) (h : ¬ lb a k = lb b k) : lessL (a.drop k) (b.drop k) = lb b k := by
  rw [drop_lb ha, drop_lb hb]; show (if _ then _ else _) = _; rw [if_neg h]
theorem lessL_end {a b : List Bool} {k : Nat} (h : k = a.length ∨ k = b.length) (ha : k ≤ a.length) (hb : k ≤ b.length) : lessL (a.drop k) (b.drop k) = decide (a.length < b.length) := by
  by_cases h1 : k = a.length
  · subst h1
    rw [List.drop_length]
    by_cases h2 : a.length < b.length
    · rw [drop_lb h2]; simp [lessL, h2]
    · have : a.length = b.length := by omega
      rw [this, List.drop_length]; simp [lessL]
  · have h2 : k = b.length := by omega
    subst h2
    rw [List.drop_length, drop_lb (by omega : b.length < a.length)]
    simp [lessL]; omega
end Go.Proofs.Yteoijhmaklocpaa
