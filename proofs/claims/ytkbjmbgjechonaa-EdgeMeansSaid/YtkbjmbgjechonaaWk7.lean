/- The walk of the law EdgeMeans, and how an argument that is an array of three integers is opened. -/
import Derived.Test.YtkbjmbgjechonaaWk6
import Derived.ProofKit
import Derived.OpenShut
namespace Go.Proofs.Ytkbjmbgjechonaa
open Go.RowKit Go.WideShapes Go.ChangeShapes

theorem arr_open {H : Type} {enc : TypeId × Value → H} {P : Program} {w : World} {base : Nat} {spare : Nat → Bool} {held : Bool} {r : Reach} {b0 : Nat} {t e : TypeId} {k : IntKind} {v : Value} {d : DataW H} {p : List MemPlace}
    (ht : P.underlying t = some (.array 3 e)) (he : P.underlying e = some (.int k)) (hC : P.cellsOf t = 3) (hE : P.cellsOf e = 1)
    (hv : Value.okWide P w r b0 t v) (h : DataW.Trod enc P w base spare held t v d p) :
    ∃ x0 x1 x2 : Int, v = .agg #[.int k x0, .int k x1, .int k x2] ∧ (Lit.int k x0).wf = true ∧ (Lit.int k x1).wf = true ∧ (Lit.int k x2).wf = true := by
  simp only [Value.okWide, ht] at hv
  obtain ⟨cs, rfl, hsz, _⟩ := hv
  obtain ⟨l⟩ := cs
  match l, hsz.trans hC with
  | [c0, c1, c2], _ =>
    obtain ⟨fuel, hf⟩ := h
    obtain ⟨xs, m, _, _, _, hlen, hg⟩ := DataW.trod_array ht hf
    match xs, hlen with
    | [y0, y1, y2], _ =>
      have g0 := hg 0 (by omega)
      have g1 := hg 1 (by omega)
      have g2 := hg 2 (by omega)
      simp only [hE, Value.cells] at g0 g1 g2
      simp at g0 g1 g2
      obtain ⟨x0, e0, _, q0⟩ := DataW.trod_int he g0
      obtain ⟨x1, e1, _, q1⟩ := DataW.trod_int he g1
      obtain ⟨x2, e2, _, q2⟩ := DataW.trod_int he g2
      simp at e0 e1 e2
      subst e0 e1 e2
      exact ⟨x0, x1, x2, rfl, q0, q1, q2⟩
end Go.Proofs.Ytkbjmbgjechonaa
