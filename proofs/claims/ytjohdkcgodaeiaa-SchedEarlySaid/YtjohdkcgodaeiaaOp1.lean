/- Arguments that are slices of integers and slices of them, opened to lists; layer 42 (sched). -/
import Derived.Test.YtjohdkcgodaeiaaP5
import Derived.Deep.Matrix
import Derived.ChangeOld
import Derived.Carry
namespace Go.Proofs.Ytjohdkcgodaeiaa
open Go.RowKit Go.WideShapes Go.ChangeShapes

theorem cell_lt {w : World} {a : Addr} {v : Value} (h : w.cell? a = some v) : a.block < w.heap.size := by
  rcases Nat.lt_or_ge a.block w.heap.size with hlt | hge
  · exact hlt
  · have : w.heap[a.block]? = none := Array.getElem?_eq_none hge
    simp [World.cell?, this] at h
theorem ints_open {H : Type} {enc : TypeId × Value → H} {w : World} {r : Reach} {b0 : Nat} {v : Value} {d : DataW H} {p : List MemPlace}
    (hv : Value.okWide Try.prog w r b0 23 v) (h : DataW.Trod enc Try.prog w 0 (fun _ => true) true 23 v d p) :
    ∃ (A : Option Addr) (c : Nat) (l : List Int), v = .slice A l.length c ∧ RI w w.heap.size A l ∧ l.length ≤ maxLen ∧ ∀ v ∈ l, In64 v := by
  obtain ⟨A, len, cap, rfl⟩ := okWide_slice Try.underlying23 hv
  obtain ⟨fuel, hf⟩ := h
  rcases open_ints Try.underlying23 Try.underlying3 (by kernel_rfl) hf with ⟨hcs, _⟩ | ⟨x, l, c, zs, hcs, _, hl, hm, hz, _, hcell, hwz⟩
  · simp [Value.cells] at hcs
    obtain ⟨rfl, rfl, rfl⟩ := hcs
    exact ⟨none, 0, [], rfl, RI.nil, Nat.zero_le _, fun v hv => by simp at hv⟩
  · simp [Value.cells] at hcs
    obtain ⟨rfl, rfl, rfl⟩ := hcs
    have hz' : zs.length = cap := by simpa using hz
    have hzl : (zs.take len).length = len := by rw [List.length_take]; omega
    refine ⟨some x, cap, zs.take len, by rw [hzl], fun hp => ?_, by rw [hzl]; omega, fun v hv => in64_of (hwz v (List.mem_of_mem_take hv))⟩
    rw [hzl] at hp
    have hc0 := hcell 0 (by omega)
    have hlt := cell_lt hc0
    obtain ⟨b, off, spot⟩ := x
    have hspot : spot = none := by simpa [Addr.add] using World.cell?_spot hc0
    subst hspot
    have ha : ∀ j, (⟨b, off, none⟩ : Addr).add j = ⟨b, off + j, none⟩ := fun j => by unfold Addr.add; split <;> simp_all
    refine ⟨b, off, rfl, by simpa [ha] using hlt, fun i hi => ?_⟩
    rw [hzl] at hi
    have := hcell i (by omega)
    rw [ha] at this
    rw [this]
    unfold li
    simp [List.getD, hi]
theorem rows_open {H : Type} {enc : TypeId × Value → H} {w : World} {r : Reach} {b0 : Nat} {v : Value} {d : DataW H} {p : List MemPlace}
    (hv : Value.okWide Try.prog w r b0 22 v) (h : DataW.Trod enc Try.prog w 0 (fun _ => true) true 22 v d p) :
    ∃ (A : Option Addr) (c : Nat) (rows : List Rw), v = .slice A rows.length c ∧ RR w w.heap.size A rows ∧ rows.length ≤ maxLen ∧ ∀ i, i < rows.length → (pr rows i).length ≤ maxLen ∧ ∀ v ∈ pr rows i, In64 v := by
  obtain ⟨A, len, cap, rfl⟩ := okWide_slice Try.underlying22 hv
  obtain ⟨fuel, hf⟩ := h
  rcases Go.Deep.open_int_rows Try.underlying22 Try.underlying23 Try.underlying3 (by kernel_rfl) (by kernel_rfl) hf with ⟨hcs, _⟩ | ⟨x, l, c, Ad, L, C, Z, hcs, _, hl, hm, _, hrow⟩
  · simp [Value.cells] at hcs
    obtain ⟨rfl, rfl, rfl⟩ := hcs
    exact ⟨none, 0, [], rfl, RR.nil, Nat.zero_le _, fun i hi => absurd hi (by simp)⟩
  · simp [Value.cells] at hcs
    obtain ⟨rfl, rfl, rfl⟩ := hcs
    have ha : ∀ (b off j : Nat), (⟨b, off, none⟩ : Addr).add j = ⟨b, off + j, none⟩ := add_off
    have hlen : ((List.range len).map fun r => ((Ad r, C r, (Z r).take (L r)) : Rw)).length = len := by simp
    have hat : ∀ i, i < len → rw_ ((List.range len).map fun r => ((Ad r, C r, (Z r).take (L r)) : Rw)) i = (Ad i, C i, (Z i).take (L i)) := fun i hi => by unfold rw_; simp [List.getD, hi]
    have hzl : ∀ i, i < len → ((Z i).take (L i)).length = L i := fun i hi => by
      obtain ⟨_, h2, _, h4, _⟩ := hrow i (by omega)
      rw [List.length_take]; omega
    refine ⟨some x, cap, (List.range len).map fun r => (Ad r, C r, (Z r).take (L r)), by rw [hlen], ⟨fun hp => ?_, fun i hi => ?_⟩, by rw [hlen]; omega, fun i hi => ?_⟩
    · rw [hlen] at hp
      have hc0 := (hrow 0 (by omega)).1
      have hlt := cell_lt hc0
      obtain ⟨b, off, spot⟩ := x
      have hspot : spot = none := by simpa [Addr.add] using World.cell?_spot hc0
      subst hspot
      refine ⟨b, off, rfl, by simpa [ha] using hlt, fun i hi => ?_⟩
      rw [hlen] at hi
      have := (hrow i (by omega)).1
      rw [ha] at this
      rw [this, hat i hi]
      unfold rcell
      simp only
      rw [hzl i hi]
    · rw [hlen] at hi
      rw [hat i hi]
      obtain ⟨_, h2, h3, h4, _, h6, h7⟩ := hrow i (by omega)
      refine ⟨fun hp => ?_, h6⟩
      simp only at hp ⊢
      rw [hzl i hi] at hp
      cases hA : Ad i with
      | none => have := h6 hA; omega
      | some a' =>
        obtain ⟨_, hcc⟩ := h7 a' hA
        have hc0 := hcc 0 (by omega)
        have hlt := cell_lt hc0
        obtain ⟨b, off, spot⟩ := a'
        have hspot : spot = none := by simpa [Addr.add] using World.cell?_spot hc0
        subst hspot
        refine ⟨b, off, rfl, by simpa [ha] using hlt, fun j hj => ?_⟩
        rw [hzl i hi] at hj
        have := hcc j (by omega)
        rw [ha] at this
        rw [this]
        unfold li
        simp [List.getD, hj]
    · rw [hlen] at hi
      unfold pr
      rw [hat i hi]
      simp only
      rw [hzl i hi]
      obtain ⟨_, h2, h3, h4, h5, _⟩ := hrow i (by omega)
      exact ⟨by omega, fun v hv => in64_of (h5 v (List.mem_of_mem_take hv))⟩
end Go.Proofs.Ytjohdkcgodaeiaa
