/- The arguments of the laws of layer 25 (ddaudit): integers and nodes. -/
import Derived.Test.YtmpcfplpdbdmmaaFnL
import Derived.Deep.Slices
import Derived.Deep.Fields
import Derived.ChangeSame
import Derived.ChangeOld
import Derived.Carry
import Derived.Lib.SmallJoins
namespace Go.Proofs.Ytmpcfplpdbdmmaa
open Go.ChangeShapes Go.WideShapes Go.Deep Go.RowKit

theorem cell_lt {w : World} {a : Addr} {v : Value} (h : w.cell? a = some v) : a.block < w.heap.size := by
  rcases Nat.lt_or_ge a.block w.heap.size with hlt | hge
  · exact hlt
  · have : w.heap[a.block]? = none := Array.getElem?_eq_none hge
    simp [World.cell?, this] at h
theorem in64_of {x : Int} (h : (Lit.int .i64 x).wf = true) : In64 x := by simpa [In64, Lit.wf, IntKind.min, IntKind.max, IntKind.signed, IntKind.bits] using h
theorem addr_add (b o j : Nat) : (⟨b, o, none⟩ : Addr).add j = ⟨b, o + j, none⟩ := by unfold Addr.add; split <;> simp_all
theorem ints_open {H : Type} {enc : TypeId × Value → H} {w : World} {r : Reach} {b0 : Nat} {v : Value} {d : DataW H} {p : List MemPlace}
    (hv : Value.okWide Try.prog w r b0 22 v) (h : DataW.Trod enc Try.prog w 0 (fun _ => true) true 22 v d p) :
    ∃ (A : Option Addr) (c : Nat) (l : List Int), v = .slice A l.length c ∧ RowI w.heap.size w A l ∧ OkI l ∧ l.length ≤ c ∧ c ≤ maxLen := by
  obtain ⟨A, len, cap, rfl⟩ := okWide_slice Try.underlying22 hv
  obtain ⟨fuel, hf⟩ := h
  rcases open_ints Try.underlying22 Try.underlying3 (by kernel_rfl) hf with ⟨hcs, _⟩ | ⟨x, l, c, zs, hcs, _, hl, hm, hz, _, hcell, hwz⟩
  · simp [Value.cells] at hcs
    obtain ⟨rfl, rfl, rfl⟩ := hcs
    exact ⟨none, 0, [], rfl, fun h => absurd h (by decide), fun k hk => absurd hk (by simp), Nat.zero_le _, Nat.zero_le _⟩
  · simp [Value.cells] at hcs
    obtain ⟨rfl, rfl, rfl⟩ := hcs
    have hz' : zs.length = cap := by simpa using hz
    have hzl : (zs.take len).length = len := by rw [List.length_take]; omega
    refine ⟨some x, cap, zs.take len, by rw [hzl], fun hp => ?_, fun k hk => ?_, by rw [hzl]; omega, by omega⟩
    · rw [hzl] at hp
      have hc0 := hcell 0 (by omega)
      have hlt := cell_lt hc0
      obtain ⟨b, off, spot⟩ := x
      have hspot : spot = none := by simpa [Addr.add] using World.cell?_spot hc0
      subst hspot
      refine ⟨b, off, rfl, by simpa [addr_add] using hlt, fun i hi => ?_⟩
      rw [hzl] at hi
      have := hcell i (by omega)
      rw [addr_add] at this
      rw [this]
      unfold ia
      simp [List.getD, hi]
    · rw [hzl] at hk
      have : ia (zs.take len) k = zs[k]'(by omega) := by
        unfold ia
        simp [List.getD, hk, hz']
        rw [List.getElem?_eq_getElem (by omega)]; rfl
      rw [this]
      exact in64_of (hwz _ (List.getElem_mem _))
section
variable {H : Type} {enc : TypeId × Value → H} {w : World} {base : Nat} {spare : Nat → Bool} {held : Bool}
theorem nd_cs {fuel : Nat} {cs : List Value} {x : DataW H × List MemPlace} (h : DataW.trod enc Try.prog w base spare held fuel 39 cs = some x) : ∃ a : Nd, cs = (ndR a).toList ∧ a.ok := by
  obtain ⟨ys, n, _, _, hlen, hys, hf⟩ := DataW.trod_struct Try.underlying39 h
  have hl5 : cs.length = 5 := hlen
  have c3 : Try.prog.cellsOf 3 = 1 := by kernel_rfl
  match cs, hl5, ys, hys with
  | [c0, c1, c2, c3', c4], _, [y0, y1, y2, y3, y4], _ =>
    have g0 := hf 0 _ rfl
    have g1 := hf 1 _ rfl
    have g2 := hf 2 _ rfl
    have g3 := hf 3 _ rfl
    have g4 := hf 4 _ rfl
    simp only [List.getElem?_cons_zero, List.getElem?_cons_succ] at g0 g1 g2 g3 g4
    obtain ⟨a0, h0, _, hw0⟩ := DataW.trod_int Try.underlying3 g0
    obtain ⟨a1, h1, _, hw1⟩ := DataW.trod_int Try.underlying3 g1
    obtain ⟨a2, h2, _, hw2⟩ := DataW.trod_int Try.underlying3 g2
    obtain ⟨a3, h3, _, hw3⟩ := DataW.trod_int Try.underlying3 g3
    obtain ⟨a4, h4, _⟩ := DataW.trod_int Try.underlying3 g4
    cases h0; cases h1; cases h2; cases h3; cases h4
    exact ⟨⟨a0, a1, a2, a3, a4⟩, rfl, in64_of hw0, in64_of hw1, in64_of hw2, in64_of hw3⟩
end
theorem nds_open {H : Type} {enc : TypeId × Value → H} {w : World} {r : Reach} {b0 : Nat} {v : Value} {d : DataW H} {p : List MemPlace}
    (hv : Value.okWide Try.prog w r b0 23 v) (h : DataW.Trod enc Try.prog w 0 (fun _ => true) true 23 v d p) :
    ∃ (A : Option Addr) (c : Nat) (l : List Nd), v = .slice A l.length c ∧ RowN w.heap.size w A l ∧ OkN l ∧ l.length ≤ c ∧ c ≤ maxLen := by
  obtain ⟨A, len, cap, rfl⟩ := okWide_slice Try.underlying23 hv
  obtain ⟨fuel, hf⟩ := h
  have c27 : Try.prog.cellsOf 39 = 5 := by kernel_rfl
  rcases open_slice Try.underlying23 hf with ⟨hcs, _⟩ | ⟨a, l, c, m, n, D, Pl, hcs, _, hl, hm, hmm, _, hi⟩
  · simp [Value.cells] at hcs
    obtain ⟨rfl, rfl, rfl⟩ := hcs
    exact ⟨none, 0, [], rfl, fun h => absurd h (by decide), fun k hk => absurd hk (by simp), Nat.le_refl _, Nat.zero_le _⟩
  · simp [Value.cells] at hcs
    obtain ⟨rfl, rfl, rfl⟩ := hcs
    have hmc : m = cap := by simpa using hmm
    subst hmc
    have hx : ∀ i, ∃ x : Nd, i < len → x.ok ∧ ∀ j, j < 5 → w.cell? ((a.add (i * 5)).add j) = (ndR x)[j]? := fun i => by
      by_cases hil : i < len
      · obtain ⟨cs', hc, ht⟩ := hi i (by omega)
        rw [c27] at hc
        obtain ⟨x, hxe, hok⟩ := nd_cs ht
        obtain ⟨_, _, hat⟩ := World.cells?_some hc
        exact ⟨x, fun _ => ⟨hok, fun j hj => by rw [hat j hj, hxe, Array.getElem?_toList]⟩⟩
      · exact ⟨nd0, fun h => absurd h hil⟩
    obtain ⟨f, hf2⟩ : ∃ f : Nat → Nd, ∀ i, i < len → (f i).ok ∧ ∀ j, j < 5 → w.cell? ((a.add (i * 5)).add j) = (ndR (f i))[j]? := ⟨fun i => (hx i).choose, fun i => (hx i).choose_spec⟩
    have hna : ∀ k, k < len → na ((List.range len).map f) k = f k := fun k hk => by
      unfold na
      simp [List.getD, hk]
    refine ⟨some a, m, (List.range len).map f, by simp, fun hp => ?_, fun k hk => ?_, by simpa using hl, hm⟩
    rotate_left
    · have hk : k < len := by simpa using hk
      rw [hna k hk]
      exact (hf2 k hk).1
    have hlen : 0 < len := by simpa using hp
    have hc0 := (hf2 0 hlen).2 0 (by omega)
    have hc1 : w.cell? ((a.add (0 * 5)).add 0) = some (.int .i64 (f 0).id) := hc0
    have e0 : (a.add (0 * 5)).add 0 = a := by obtain ⟨b, o, s⟩ := a; simp [Addr.add]
    rw [e0] at hc1
    have hlt := cell_lt hc1
    obtain ⟨b, off, spot⟩ := a
    have hspot : spot = none := World.cell?_spot hc1
    subst hspot
    refine ⟨b, off, rfl, by simpa using hlt, fun k hk => ?_⟩
    have hk : k < len := by simpa using hk
    rw [hna k hk]
    have hh := (hf2 k hk).2
    have e1 : ∀ j, ((⟨b, off, none⟩ : Addr).add (k * 5)).add j = ⟨b, off + k * 5 + j, none⟩ := fun j => by rw [addr_add, addr_add]
    refine ⟨?_, ?_, ?_, ?_, ?_⟩
    · have := hh 0 (by omega); rw [e1] at this; exact this
    · have := hh 1 (by omega); rw [e1] at this; exact this
    · have := hh 2 (by omega); rw [e1] at this; exact this
    · have := hh 3 (by omega); rw [e1] at this; exact this
    · have := hh 4 (by omega); rw [e1] at this; exact this
end Go.Proofs.Ytmpcfplpdbdmmaa
