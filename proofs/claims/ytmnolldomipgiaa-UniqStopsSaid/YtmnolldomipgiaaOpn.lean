/- The arguments of the laws of layer 10 (uniq): steps. -/
import Derived.Test.YtmnolldomipgiaaFn5
import Derived.Deep.Slices
import Derived.Deep.Fields
import Derived.ChangeSame
import Derived.ChangeOld
import Derived.Carry
import Derived.Lib.SmallJoins
namespace Go.Proofs.Ytmnolldomipgiaa
open Go.ChangeShapes Go.WideShapes Go.Deep Go.RowKit

def act0 : Act := ⟨0, 0, 0, 0⟩
def aa (l : List Act) (k : Nat) : Act := l.getD k act0
def OkA (l : List Act) : Prop := ∀ k, k < l.length → (aa l k).ok
def RowA (B : Nat) (w : World) (A : Option Addr) (l : List Act) : Prop := 0 < l.length → ∃ b f, A = some ⟨b, f, none⟩ ∧ b < B ∧ ∀ k, k < l.length →
  w.cell? ⟨b, f + k * 4, none⟩ = some (.int .i64 (aa l k).op) ∧ w.cell? ⟨b, f + k * 4 + 1, none⟩ = some (.int .i64 (aa l k).lo) ∧ w.cell? ⟨b, f + k * 4 + 2, none⟩ = some (.int .i64 (aa l k).hi) ∧ w.cell? ⟨b, f + k * 4 + 3, none⟩ = some (.int .i64 (aa l k).id)
theorem cell_lt {w : World} {a : Addr} {v : Value} (h : w.cell? a = some v) : a.block < w.heap.size := by
  rcases Nat.lt_or_ge a.block w.heap.size with hlt | hge
  · exact hlt
  · have : w.heap[a.block]? = none := Array.getElem?_eq_none hge
    simp [World.cell?, this] at h
theorem addr_add (b o j : Nat) : (⟨b, o, none⟩ : Addr).add j = ⟨b, o + j, none⟩ := by unfold Addr.add; split <;> simp_all
section
variable {H : Type} {enc : TypeId × Value → H} {w : World} {base : Nat} {spare : Nat → Bool} {held : Bool}
theorem act_cs {fuel : Nat} {cs : List Value} {x : DataW H × List MemPlace} (h : DataW.trod enc Try.prog w base spare held fuel 28 cs = some x) : ∃ a : Act, cs = (actR a).toList ∧ a.ok := by
  obtain ⟨ys, n, _, _, hlen, hys, hf⟩ := DataW.trod_struct Try.underlying28 h
  have hl4 : cs.length = 4 := hlen
  have c3 : Try.prog.cellsOf 3 = 1 := by kernel_rfl
  match cs, hl4, ys, hys with
  | [c0, c1, c2, c3'], _, [y0, y1, y2, y3], _ =>
    have g0 := hf 0 _ rfl
    have g1 := hf 1 _ rfl
    have g2 := hf 2 _ rfl
    have g3 := hf 3 _ rfl
    simp only [List.getElem?_cons_zero, List.getElem?_cons_succ] at g0 g1 g2 g3
    obtain ⟨a0, h0, _, hw0⟩ := DataW.trod_int Try.underlying3 g0
    obtain ⟨a1, h1, _, hw1⟩ := DataW.trod_int Try.underlying3 g1
    obtain ⟨a2, h2, _, hw2⟩ := DataW.trod_int Try.underlying3 g2
    obtain ⟨a3, h3, _, hw3⟩ := DataW.trod_int Try.underlying3 g3
    cases h0; cases h1; cases h2; cases h3
    exact ⟨⟨a0, a1, a2, a3⟩, rfl, in64_of hw1, in64_of hw2, in64_of hw3⟩
end
theorem acts_open {H : Type} {enc : TypeId × Value → H} {w : World} {r : Reach} {b0 : Nat} {v : Value} {d : DataW H} {p : List MemPlace}
    (hv : Value.okWide Try.prog w r b0  22 v) (h : DataW.Trod enc Try.prog w 0 (fun _ => true) true  22 v d p) :
    ∃ (A : Option Addr) (c : Nat) (l : List Act), v = .slice A l.length c ∧ RowA w.heap.size w A l ∧ OkA l ∧ l.length ≤ c ∧ c ≤ maxLen := by
  obtain ⟨A, len, cap, rfl⟩ := okWide_slice Try.underlying22 hv
  obtain ⟨fuel, hf⟩ := h
  have c27 : Try.prog.cellsOf 28 = 4 := by kernel_rfl
  rcases open_slice Try.underlying22 hf with ⟨hcs, _⟩ | ⟨a, l, c, m, n, D, Pl, hcs, _, hl, hm, hmm, _, hi⟩
  · simp [Value.cells] at hcs
    obtain ⟨rfl, rfl, rfl⟩ := hcs
    exact ⟨none, 0, [], rfl, fun h => absurd h (by decide), fun k hk => absurd hk (by simp), Nat.le_refl _, Nat.zero_le _⟩
  · simp [Value.cells] at hcs
    obtain ⟨rfl, rfl, rfl⟩ := hcs
    have hmc : m = cap := by simpa using hmm
    subst hmc
    have hx : ∀ i, ∃ x : Act, i < len → x.ok ∧ ∀ j, j < 4 → w.cell? ((a.add (i * 4)).add j) = (actR x)[j]? := fun i => by
      by_cases hil : i < len
      · obtain ⟨cs', hc, ht⟩ := hi i (by omega)
        rw [c27] at hc
        obtain ⟨x, hxe, hok⟩ := act_cs ht
        obtain ⟨_, _, hat⟩ := World.cells?_some hc
        exact ⟨x, fun _ => ⟨hok, fun j hj => by rw [hat j hj, hxe, Array.getElem?_toList]⟩⟩
      · exact ⟨act0, fun h => absurd h hil⟩
    obtain ⟨f, hf2⟩ : ∃ f : Nat → Act, ∀ i, i < len → (f i).ok ∧ ∀ j, j < 4 → w.cell? ((a.add (i * 4)).add j) = (actR (f i))[j]? := ⟨fun i => (hx i).choose, fun i => (hx i).choose_spec⟩
    have haa : ∀ k, k < len → aa ((List.range len).map f) k = f k := fun k hk => by
      unfold aa
      simp [List.getD, hk]
    refine ⟨some a, m, (List.range len).map f, by simp, fun hp => ?_, fun k hk => ?_, by simpa using hl, hm⟩
    rotate_left
    · have hk : k < len := by simpa using hk
      rw [haa k hk]
      exact (hf2 k hk).1
    have hlen : 0 < len := by simpa using hp
    have hc0 := (hf2 0 hlen).2 0 (by omega)
    have hc1 : w.cell? ((a.add (0 * 4)).add 0) = some (.int .i64 (f 0).op) := hc0
    have e0 : (a.add (0 * 4)).add 0 = a := by obtain ⟨b, o, s⟩ := a; simp [Addr.add]
    rw [e0] at hc1
    have hlt := cell_lt hc1
    obtain ⟨b, off, spot⟩ := a
    have hspot : spot = none := World.cell?_spot hc1
    subst hspot
    refine ⟨b, off, rfl, by simpa using hlt, fun k hk => ?_⟩
    have hk : k < len := by simpa using hk
    rw [haa k hk]
    have hh := (hf2 k hk).2
    have e1 : ∀ j, ((⟨b, off, none⟩ : Addr).add (k * 4)).add j = ⟨b, off + k * 4 + j, none⟩ := fun j => by rw [addr_add, addr_add]
    refine ⟨?_, ?_, ?_, ?_⟩
    · have := hh 0 (by omega); rw [e1] at this; exact this
    · have := hh 1 (by omega); rw [e1] at this; exact this
    · have := hh 2 (by omega); rw [e1] at this; exact this
    · have := hh 3 (by omega); rw [e1] at this; exact this
end Go.Proofs.Ytmnolldomipgiaa
