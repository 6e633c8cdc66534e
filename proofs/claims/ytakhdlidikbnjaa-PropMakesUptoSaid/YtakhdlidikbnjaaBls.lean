/- Rows of booleans; layer 6 (prop), as layer 2 has them. -/
import Derived.Test.YtakhdlidikbnjaaFnC
namespace Go.Proofs.Ytakhdlidikbnjaa
open Go.RowKit

def lb (l : List Bool) (k : Nat) : Bool := l.getD k false
def boolRow (l : List Bool) : Array Value := (l.map Value.bool).toArray
theorem boolRow_at {l : List Bool} {i : Nat} (h : i < l.length) : (boolRow l)[i]? = some (.bool (lb l i)) := by
  unfold boolRow lb; simp [h]
theorem boolRow_set (l : List Bool) (i : Nat) (b : Bool) : (boolRow l).setIfInBounds i (.bool b) = boolRow (l.set i b) := by
  unfold boolRow; simp
theorem RB.blk {w : World} {g B : Nat} {l : List Bool} (h : Blk w g 4 (boolRow l)) (hg : g < B) : RB w B (some ⟨g, 0, none⟩) l := fun _ =>
  ⟨g, 0, rfl, hg, fun i hi => by rw [h.cell, Nat.zero_add]; exact boolRow_at hi⟩
theorem made_rowB (n : Nat) : madeCells #[Value.bool false] n = boolRow (List.replicate n false) := by
  unfold madeCells boolRow
  apply Array.ext
  · simp
  · intro i h1 h2
    simp
    rw [Nat.mod_one]; rfl
theorem info4 : (Try.prog.info? 4).map (fun i => (i.zero, i.size, i.bytes)) = some (some (.bool false), 1, 1) := by kernel_rfl
theorem run_mkB (n : Nat) (hn : n ≤ 1000000000000) (w : World) : (Instr.makeSlice 42 (.int .i64 (n : Int)) (.int .i64 (n : Int))).run Try.prog w = .ok (.slice (some ⟨w.heap.size, 0, none⟩) n n) (w.alloc (.cells (boolRow (List.replicate n false)) 4)) := by
  obtain ⟨i, hi, hz0, hz1, hz2⟩ := info_parts info4
  have h := run_make (P := Try.prog) w 42 4 i _ Try.underlying42 hi hz0 .i64 .i64 n n (by omega) (by omega) (by rw [hz2]; omega) (by omega)
  rw [hz1] at h
  simp only [Int.toNat_natCast, Nat.mul_one] at h
  rw [h]
  have e : (Value.bool false).cells = #[Value.bool false] := rfl
  rw [e, made_rowB]

end Go.Proofs.Ytakhdlidikbnjaa
