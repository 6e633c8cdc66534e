/- The contract of detach; layer 30 (terms). -/
import Derived.Test.YtcdpjodnbegepaaDc1
import Derived.Deep.RegionLaw
namespace Go.Proofs.Ytcdpjodnbegepaa
open Go.RowKit

/-- The blocks that a tree may lie in: none of N, not b, not bl, and there. -/
def Pn (N : Nat → Prop) (b bl : Nat) (w : World) (x : Nat) : Prop := ¬ N x ∧ x ≠ b ∧ x ≠ bl ∧ x < w.heap.size
/-- Nothing has turned but block bl, the cell f of block b, and what is new. -/
structure Fd (b f bl : Nat) (w w' : World) : Prop where
  os : w'.os = w.os
  tape : w'.tape = w.tape
  output : w'.output = w.output
  size : w.heap.size ≤ w'.heap.size
  block : ∀ k, k < w.heap.size → k ≠ b → k ≠ bl → w'.heap[k]? = w.heap[k]?
  cell : ∀ i, i ≠ f → w'.cell? ⟨b, i, none⟩ = w.cell? ⟨b, i, none⟩
  some : ∀ i, (w.cell? ⟨b, i, none⟩).isSome = true → (w'.cell? ⟨b, i, none⟩).isSome = true
  frozen : ∀ i, w.frozen? ⟨b, i, none⟩ = false → w'.frozen? ⟨b, i, none⟩ = false
theorem Fd.refl (b f bl : Nat) (w : World) : Fd b f bl w w := ⟨rfl, rfl, rfl, Nat.le_refl _, fun _ _ _ _ => rfl, fun _ _ => rfl, fun _ h => h, fun _ h => h⟩
theorem Fd.trans {b f bl : Nat} {u v w : World} (h : Fd b f bl u v) (h2 : Fd b f bl v w) : Fd b f bl u w :=
  ⟨h2.os.trans h.os, h2.tape.trans h.tape, h2.output.trans h.output, Nat.le_trans h.size h2.size, fun k hk h3 h4 => (h2.block k (Nat.lt_of_lt_of_le hk h.size) h3 h4).trans (h.block k hk h3 h4), fun i hi => (h2.cell i hi).trans (h.cell i hi), fun i hi => h2.some i (h.some i hi), fun i hi => h2.frozen i (h.frozen i hi)⟩
theorem Fd.below {b f bl : Nat} {w w' : World} (h : Below w.heap.size w w') (hb : b < w.heap.size) : Fd b f bl w w' :=
  ⟨h.os, h.tape, h.output, h.size, fun k hk _ _ => h.block k hk, fun i _ => h.cell (p := ⟨b, i, none⟩) hb, fun i hi => by rw [h.cell (p := ⟨b, i, none⟩) hb]; exact hi, fun i hi => by rw [h.frozen (p := ⟨b, i, none⟩) hb]; exact hi⟩
theorem Fd.setL {b f bl : Nat} {u w : World} (h : Fd b f bl u w) (hne : bl ≠ b) (i : Nat) (v : Value) : Fd b f bl u (w.setCell ⟨bl, i, none⟩ v) := by
  have hbk : ∀ k, k ≠ bl → (w.setCell ⟨bl, i, none⟩ v).heap[k]? = w.heap[k]? := fun k hk => by
    have hn : ¬ bl = k := fun e => hk e.symm
    simp [World.setCell, Array.getElem?_modify, hn]
  have hb := hbk b (fun e => hne e.symm)
  refine h.trans ⟨rfl, rfl, rfl, by simp, fun k _ _ hk => hbk k hk, fun j _ => World.cell?_of_block (a := ⟨b, j, none⟩) hb, fun j hj => ?_, fun j hj => ?_⟩
  · rw [World.cell?_of_block (a := ⟨b, j, none⟩) hb]; exact hj
  · rw [World.frozen?_of_block (a := ⟨b, j, none⟩) hb]; exact hj
theorem sc_ne (w : World) {b f i : Nat} (v : Value) (h : i ≠ f) : (w.setCell ⟨b, f, none⟩ v).cell? ⟨b, i, none⟩ = w.cell? ⟨b, i, none⟩ := by
  simp only [World.cell?, World.setCell, Array.getElem?_modify, if_true]
  cases hh : w.heap[b]? with
  | none => simp
  | some o =>
    have hn : ¬ f = i := fun e => h e.symm
    cases o <;> simp [hn]
theorem sc_eq (w : World) {b f : Nat} (v : Value) (h : (w.cell? ⟨b, f, none⟩).isSome = true) : (w.setCell ⟨b, f, none⟩ v).cell? ⟨b, f, none⟩ = some v := by
  revert h
  simp only [World.cell?, World.setCell, Array.getElem?_modify, if_true]
  cases hh : w.heap[b]? with
  | none => simp
  | some o => cases o <;> simp <;> intro h <;> simp [h]
theorem sc_fr (w : World) {b f i : Nat} (v : Value) : (w.setCell ⟨b, f, none⟩ v).frozen? ⟨b, i, none⟩ = w.frozen? ⟨b, i, none⟩ := by
  simp only [World.frozen?, World.setCell, Array.getElem?_modify, if_true]
  cases hh : w.heap[b]? with
  | none => simp
  | some o => cases o <;> simp
theorem Fd.setC {b f bl : Nat} {u w : World} (h : Fd b f bl u w) (v : Value) (hs : (w.cell? ⟨b, f, none⟩).isSome = true) : Fd b f bl u (w.setCell ⟨b, f, none⟩ v) := by
  refine h.trans ⟨rfl, rfl, rfl, by simp, fun k _ hk _ => ?_, fun j hj => sc_ne w v hj, fun j hj => ?_, fun j hj => ?_⟩
  · have hn : ¬ b = k := fun e => hk e.symm
    simp [World.setCell, Array.getElem?_modify, hn]
  · by_cases e : j = f
    · subst e; rw [sc_eq w v hs]; rfl
    · rw [sc_ne w v e]; exact hj
  · rw [sc_fr]; exact hj
end Go.Proofs.Ytcdpjodnbegepaa
