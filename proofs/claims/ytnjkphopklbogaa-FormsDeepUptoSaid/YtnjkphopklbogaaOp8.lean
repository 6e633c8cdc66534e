/- An argument that is a slice of bytes; layer 32 (forms). -/
import Derived.Test.YtnjkphopklbogaaOpn
import Derived.OpenShut
namespace Go.Proofs.Ytnjkphopklbogaa
open Go.ChangeShapes Go.WideShapes Go.Deep Go.RowKit

/-- The row of the bytes l, at A, below B. -/
def U8 (w : World) (B : Nat) (A : Option Addr) (l : List Int) : Prop :=
  0 < l.length → ∃ b off, A = some ⟨b, off, none⟩ ∧ b < B ∧ ∀ (i : Nat) (x : Int), l[i]? = some x → w.cell? ⟨b, off + i, none⟩ = some (.int .u8 x)
theorem U8.below {w w' : World} {B : Nat} {A : Option Addr} {l : List Int} (h : U8 w B A l) (hb : Below B w w') : U8 w' B A l := fun hp => by
  obtain ⟨b, off, hA, hlt, hc⟩ := h hp
  exact ⟨b, off, hA, hlt, fun i x hx => (hb.cell hlt).trans (hc i x hx)⟩
set_option maxRecDepth 100000 in
theorem u8s_open {H : Type} {enc : TypeId × Value → H} {w : World} {r : Reach} {b0 : Nat} {v : Value} {d : DataW H} {p : List MemPlace}
    (hv : Value.okWide Try.prog w r b0 37 v) (h : DataW.Trod enc Try.prog w 0 (fun _ => true) true 37 v d p) :
    ∃ (A : Option Addr) (c : Nat) (l : List Int), v = .slice A l.length c ∧ U8 w w.heap.size A l ∧ l.length ≤ maxLen ∧ (∀ x ∈ l, 0 ≤ x ∧ x ≤ 255) := by
  obtain ⟨A, len, cap, rfl⟩ := okWide_slice Try.underlying37 hv
  obtain ⟨fuel, hf⟩ := h
  rcases open_ints Try.underlying37 Try.underlying5 (by kernel_rfl) hf with ⟨hcs, _⟩ | ⟨x, l, c, zs, hcs, _, hl, hm, hz, _, hcell, hwz⟩
  · simp [Value.cells] at hcs
    obtain ⟨rfl, rfl, rfl⟩ := hcs
    exact ⟨none, 0, [], rfl, (fun h => absurd h (by decide)), Nat.zero_le _, fun _ h => by cases h⟩
  · simp [Value.cells] at hcs
    obtain ⟨rfl, rfl, rfl⟩ := hcs
    have hz' : zs.length = cap := by simpa using hz
    have hzl : (zs.take len).length = len := by rw [List.length_take]; omega
    refine ⟨some x, cap, zs.take len, by rw [hzl], fun hp => ?_, by rw [hzl]; omega, fun y hy => bounds_u8 (hwz y (List.mem_of_mem_take hy))⟩
    rw [hzl] at hp
    have hc0 := hcell 0 (by omega)
    have hlt := cell_under hc0
    obtain ⟨b, off, spot⟩ := x
    have hspot : spot = none := by simpa [Addr.add] using World.cell?_spot hc0
    subst hspot
    have ha : ∀ j, (⟨b, off, none⟩ : Addr).add j = ⟨b, off + j, none⟩ := fun j => by unfold Addr.add; split <;> simp_all
    refine ⟨b, off, rfl, by simpa [ha] using hlt, fun i y hy => ?_⟩
    obtain ⟨hi, hyi⟩ := List.getElem?_eq_some_iff.1 hy
    rw [hzl] at hi
    have := hcell i (by omega)
    rw [ha] at this
    rw [this, ← hyi]
    simp [List.getD, show i < zs.length by omega]
end Go.Proofs.Ytnjkphopklbogaa
