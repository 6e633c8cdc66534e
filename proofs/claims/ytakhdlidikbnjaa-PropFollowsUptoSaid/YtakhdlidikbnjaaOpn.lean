/- An argument that is a slice of booleans, opened to the list that it reads as. -/
import Derived.Test.YtakhdlidikbnjaaBls
import Derived.Test.YtakhdlidikbnjaaFnP
import Derived.Deep.Grids
import Derived.ChangeOld
import Derived.Carry
namespace Go.Proofs.Ytakhdlidikbnjaa
open Go.RowKit Go.WideShapes Go.ChangeShapes

theorem cell_lt9 {w : World} {a : Addr} {v : Value} (h : w.cell? a = some v) : a.block < w.heap.size := by
  rcases Nat.lt_or_ge a.block w.heap.size with hlt | hge
  · exact hlt
  · have : w.heap[a.block]? = none := Array.getElem?_eq_none hge
    simp [World.cell?, this] at h

theorem bools_open {H : Type} {enc : TypeId × Value → H} {w : World} {r : Reach} {b0 : Nat} {v : Value} {d : DataW H} {p : List MemPlace}
    (hv : Value.okWide Try.prog w r b0 42 v) (h : DataW.Trod enc Try.prog w 0 (fun _ => true) true 42 v d p) :
    ∃ (A : Option Addr) (c : Nat) (l : List Bool), v = .slice A l.length c ∧ RB w w.heap.size A l ∧ l.length ≤ maxLen := by
  obtain ⟨A, len, cap, rfl⟩ := okWide_slice Try.underlying42 hv
  obtain ⟨fuel, hf⟩ := h
  rcases Go.Deep.open_bools Try.underlying42 Try.underlying4 (by kernel_rfl) hf with ⟨hcs, _⟩ | ⟨a, l, c, B, hcs, _, hl, hm, _, hcell⟩
  · simp [Value.cells] at hcs
    obtain ⟨rfl, rfl, rfl⟩ := hcs
    exact ⟨none, 0, [], rfl, RB.nil, Nat.zero_le _⟩
  · simp [Value.cells] at hcs
    obtain ⟨rfl, rfl, rfl⟩ := hcs
    refine ⟨some a, cap, (List.range len).map B, by simp, fun hp => ?_, by simp; omega⟩
    have hlen : ((List.range len).map B).length = len := by simp
    rw [hlen] at hp
    have hc0 := hcell 0 (by omega)
    have hlt := cell_lt9 hc0
    obtain ⟨b, off, spot⟩ := a
    have hspot : spot = none := by simpa [Addr.add] using World.cell?_spot hc0
    subst hspot
    have ha : ∀ j, (⟨b, off, none⟩ : Addr).add j = ⟨b, off + j, none⟩ := fun j => by unfold Addr.add; split <;> simp_all
    refine ⟨b, off, rfl, by simpa [ha] using hlt, fun i hi => ?_⟩
    rw [hlen] at hi
    have := hcell i (by omega)
    rw [ha] at this
    rw [this]

    simp [List.getD, hi]
end Go.Proofs.Ytakhdlidikbnjaa
