/- The script of the law: a slice of calls; layer 9 (pool). -/
import Derived.Test.YtljclikholchmaaOpen
namespace Go.Proofs.Ytljclikholchmaa
open Go.ChangeShapes Go.WideShapes Go.Deep Go.RowKit

structure Act where
  kind : Int
  id : Int
  n : Nd
def actRow (x : Act) : Array Value := #[.int .u8 x.kind, .int .i64 x.id, .int .i64 x.n.id, .int .i64 x.n.v, .int .i64 x.n.lo, .int .i64 x.n.hi, .int .i64 x.n.refs]
def Act.ok (x : Act) : Prop := (Lit.int .u8 x.kind).wf = true ∧ (Lit.int .i64 x.id).wf = true ∧ (Lit.int .i64 x.n.id).wf = true
/-- The row of the calls l, at A, below B. -/
def RA (w : World) (B : Nat) (A : Option Addr) (l : List Act) : Prop :=
  0 < l.length → ∃ b off, A = some ⟨b, off, none⟩ ∧ b < B ∧ ∀ (i : Nat) (x : Act), l[i]? = some x → ∀ j, j < 7 → w.cell? ⟨b, off + (i * 7 + j), none⟩ = (actRow x)[j]?
theorem RA.nil {w : World} {B : Nat} {A : Option Addr} : RA w B A [] := fun h => absurd h (by decide)
theorem RA.below {w w' : World} {B : Nat} {A : Option Addr} {l : List Act} (h : RA w B A l) (hb : Below B w w') : RA w' B A l := fun hp => by
  obtain ⟨b, off, hA, hlt, hc⟩ := h hp
  exact ⟨b, off, hA, hlt, fun i x hx j hj => (hb.cell hlt).trans (hc i x hx j hj)⟩
theorem addr_add (b o j : Nat) : (⟨b, o, none⟩ : Addr).add j = ⟨b, o + j, none⟩ := by unfold Addr.add; split <;> simp_all
section
variable {H : Type} {enc : TypeId × Value → H} {w : World} {base : Nat} {spare : Nat → Bool} {held : Bool}
theorem act_cs {fuel : Nat} {cs : List Value} {x : DataW H × List MemPlace} (h : DataW.trod enc Try.prog w base spare held fuel 40 cs = some x) : ∃ a : Act, cs = (actRow a).toList ∧ a.ok := by
  obtain ⟨ys, n, _, _, hlen, hys, hf⟩ := DataW.trod_struct Try.underlying40 h
  have hl7 : cs.length = 7 := hlen
  have c5 : Try.prog.cellsOf 5 = 1 := by kernel_rfl
  have c3 : Try.prog.cellsOf 3 = 1 := by kernel_rfl
  have c38 : Try.prog.cellsOf 38 = 5 := by kernel_rfl
  match cs, hl7, ys, hys with
  | [c0, c1, c2, c3', c4, c5', c6], _, [y0, y1, y2], _ =>
    have g0 := hf 0 _ rfl
    have g1 := hf 1 _ rfl
    have g2 := hf 2 _ rfl
    simp only [List.getElem?_cons_zero, List.getElem?_cons_succ] at g0 g1 g2
    obtain ⟨a0, h0, _, hw0⟩ := DataW.trod_int Try.underlying5 g0
    obtain ⟨a1, h1, _, hw1⟩ := DataW.trod_int Try.underlying3 g1
    obtain ⟨a2, h2, hw2⟩ := nd_cs g2
    cases h0; cases h1
    have h3 : [c2, c3', c4, c5', c6] = (ndRow a2).toList := h2
    unfold ndRow at h3
    simp only [List.cons.injEq, and_true] at h3
    obtain ⟨rfl, rfl, rfl, rfl, rfl⟩ := h3
    exact ⟨⟨a0, a1, a2⟩, rfl, hw0, hw1, hw2⟩
end
theorem acts_open {H : Type} {enc : TypeId × Value → H} {w : World} {r : Reach} {b0 : Nat} {v : Value} {d : DataW H} {p : List MemPlace}
    (hv : Value.okWide Try.prog w r b0 22 v) (h : DataW.Trod enc Try.prog w 0 (fun _ => true) true 22 v d p) :
    ∃ (A : Option Addr) (c : Nat) (l : List Act), v = .slice A l.length c ∧ RA w w.heap.size A l ∧ (∀ x ∈ l, x.ok) ∧ l.length ≤ c ∧ c ≤ maxLen := by
  obtain ⟨A, len, cap, rfl⟩ := okWide_slice Try.underlying22 hv
  obtain ⟨fuel, hf⟩ := h
  have c27 : Try.prog.cellsOf 40 = 7 := by kernel_rfl
  rcases open_slice Try.underlying22 hf with ⟨hcs, _⟩ | ⟨a, l, c, m, n, D, Pl, hcs, _, hl, hm, hmm, _, hi⟩
  · simp [Value.cells] at hcs
    obtain ⟨rfl, rfl, rfl⟩ := hcs
    exact ⟨none, 0, [], rfl, RA.nil, (fun x h => by cases h), Nat.le_refl _, Nat.zero_le _⟩
  · simp [Value.cells] at hcs
    obtain ⟨rfl, rfl, rfl⟩ := hcs
    have hmc : m = cap := by simpa using hmm
    subst hmc
    have hx : ∀ i, ∃ x : Act, i < len → x.ok ∧ ∀ j, j < 7 → w.cell? ((a.add (i * 7)).add j) = (actRow x)[j]? := fun i => by
      by_cases hil : i < len
      · obtain ⟨cs', hc, ht⟩ := hi i (by omega)
        rw [c27] at hc
        obtain ⟨x, hxe, hok⟩ := act_cs ht
        obtain ⟨_, _, hat⟩ := World.cells?_some hc
        exact ⟨x, fun _ => ⟨hok, fun j hj => by rw [hat j hj, hxe, Array.getElem?_toList]⟩⟩
      · exact ⟨⟨0, 0, nd0⟩, fun h => absurd h hil⟩
    obtain ⟨f, hf2⟩ : ∃ f : Nat → Act, ∀ i, i < len → (f i).ok ∧ ∀ j, j < 7 → w.cell? ((a.add (i * 7)).add j) = (actRow (f i))[j]? := ⟨fun i => (hx i).choose, fun i => (hx i).choose_spec⟩
    refine ⟨some a, m, (List.range len).map f, by simp, fun hp => ?_, fun x hx => ?_, by simpa using hl, hm⟩
    rotate_left
    · obtain ⟨i, hi, rfl⟩ := List.mem_map.1 hx
      exact (hf2 i (by simpa using hi)).1
    have hlen : 0 < len := by simpa using hp
    have hc0 := (hf2 0 hlen).2 0 (by omega)
    have hc1 : w.cell? ((a.add (0 * 7)).add 0) = some (.int .u8 (f 0).kind) := hc0
    have e0 : (a.add (0 * 7)).add 0 = a := by obtain ⟨b, o, s⟩ := a; simp [Addr.add]
    rw [e0] at hc1
    have hlt := cell_lt hc1
    obtain ⟨b, off, spot⟩ := a
    have hspot : spot = none := World.cell?_spot hc1
    subst hspot
    refine ⟨b, off, rfl, by simpa using hlt, fun i x hx j hj => ?_⟩
    have hil : i < len := by
      have := (List.getElem?_eq_some_iff.1 hx).1
      simpa using this
    have := (hf2 i hil).2 j hj
    have e1 : ((⟨b, off, none⟩ : Addr).add (i * 7)).add j = ⟨b, off + (i * 7 + j), none⟩ := by
      rw [addr_add, addr_add, Nat.add_assoc]
    rw [e1] at this
    rw [this]
    have hfi : f i = x := by
      have : ((List.range len).map f)[i]? = some (f i) := by simp [hil]
      rw [this] at hx
      exact Option.some.inj hx
    rw [hfi]
end Go.Proofs.Ytljclikholchmaa
