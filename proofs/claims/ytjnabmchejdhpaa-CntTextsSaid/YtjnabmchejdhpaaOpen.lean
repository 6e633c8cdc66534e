/- An argument that is a number, opened to the digits that it reads as. -/
import Derived.Test.YtjnabmchejdhpaaFni
import Derived.ChangeOld
import Derived.Carry
namespace Go.Proofs.Ytjnabmchejdhpaa
open Go.RowKit Go.WideShapes Go.ChangeShapes

theorem cell_lt {w : World} {a : Addr} {v : Value} (h : w.cell? a = some v) : a.block < w.heap.size := by
  rcases Nat.lt_or_ge a.block w.heap.size with hlt | hge
  · exact hlt
  · have : w.heap[a.block]? = none := Array.getElem?_eq_none hge
    simp [World.cell?, this] at h

theorem nm_open {H : Type} {enc : TypeId × Value → H} {w : World} {r : Reach} {b0 : Nat} {v : Value} {d : DataW H} {p : List MemPlace}
    (hv : Value.okWide Try.prog w r b0 24 v) (h : DataW.Trod enc Try.prog w 0 (fun _ => true) true 24 v d p) :
    ∃ (A : Option Addr) (c : Nat) (l : List Int), v = .slice A l.length c ∧ Nm w A c l := by
  obtain ⟨A, len, cap, rfl⟩ := okWide_slice Try.underlying24 hv
  obtain ⟨fuel, hf⟩ := h
  rcases open_ints Try.underlying24 Try.underlying62 (by kernel_rfl) hf with ⟨hcs, _⟩ | ⟨x, l, c, zs, hcs, _, hl, hm, hz, _, hcell, hwz⟩
  · simp [Value.cells] at hcs
    obtain ⟨rfl, rfl, rfl⟩ := hcs
    exact ⟨none, 0, [], rfl, RI.nil, Dig.nil, Nat.le_refl _, Nat.zero_le _, fun _ => rfl⟩
  · simp [Value.cells] at hcs
    obtain ⟨rfl, rfl, rfl⟩ := hcs
    have hz' : zs.length = cap := by simpa using hz
    have hzl : (zs.take len).length = len := by rw [List.length_take]; omega
    refine ⟨some x, cap, zs.take len, by rw [hzl], fun hp => ?_, fun d hd => ?_, by rw [hzl]; omega, hm, fun e => by cases e⟩
    · rw [hzl] at hp
      have hc0 := hcell 0 (by omega)
      have hlt := cell_lt hc0
      obtain ⟨b, off, spot⟩ := x
      have hspot : spot = none := by simpa [Addr.add] using World.cell?_spot hc0
      subst hspot
      have ha : ∀ j, (⟨b, off, none⟩ : Addr).add j = ⟨b, off + j, none⟩ := fun j => by unfold Addr.add; split <;> simp_all
      refine ⟨b, off, rfl, by simpa [ha] using hlt, fun i hi => ?_⟩
      rw [hzl] at hi
      have := hcell i (by omega)
      rw [ha] at this
      rw [this]
      unfold li
      simp [List.getD, hi]
    · have h1 := bounds_u32 (hwz d (List.mem_of_mem_take hd))
      omega
end Go.Proofs.Ytjnabmchejdhpaa
