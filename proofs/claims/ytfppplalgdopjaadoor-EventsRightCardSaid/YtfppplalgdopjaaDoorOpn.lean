/- The arguments of the laws of layer 28 (events): a slice of events. -/
import Derived.Test.YtfppplalgdopjaaDoorE7
import Derived.Deep.Slices
import Derived.Deep.Fields
import Derived.ChangeSame
import Derived.ChangeOld
import Derived.Carry
import Derived.Lib.SmallJoins
namespace Go.Proofs.YtfppplalgdopjaaDoor
open Go.ChangeShapes Go.WideShapes Go.Deep Go.RowKit

theorem cell_lt_o {w : World} {a : Addr} {v : Value} (h : w.cell? a = some v) : a.block < w.heap.size := by
  rcases Nat.lt_or_ge a.block w.heap.size with hlt | hge
  · exact hlt
  · have : w.heap[a.block]? = none := Array.getElem?_eq_none hge
    simp [World.cell?, this] at h
theorem in64_of {x : Int} (h : (Lit.int .i64 x).wf = true) : -9223372036854775808 ≤ x ∧ x ≤ 9223372036854775807 := by
  have h' : -9223372036854775808 ≤ x ∧ x ≤ 9223372036854775807 := by simpa [Lit.wf, IntKind.min, IntKind.max, IntKind.signed, IntKind.bits] using h
  exact h'
theorem addr_add (b o j : Nat) : (⟨b, o, none⟩ : Addr).add j = ⟨b, o + j, none⟩ := by unfold Addr.add; split <;> simp_all
section
variable {H : Type} {enc : TypeId × Value → H} {w : World} {base : Nat} {spare : Nat → Bool} {held : Bool}
set_option maxRecDepth 100000 in
theorem ev_cs {fuel : Nat} {cs : List Value} {x : DataW H × List MemPlace} (h : DataW.trod enc Tryd.prog w base spare held fuel 47 cs = some x) : ∃ a : Ev, cs = evR a ∧ InE a := by
  obtain ⟨ys, n, _, _, hlen, hys, hf⟩ := DataW.trod_struct Tryd.underlying47 h
  have hl5 : cs.length = 3 := hlen
  have c3 : Tryd.prog.cellsOf 3 = 1 := by kernel_rfl
  match cs, hl5, ys, hys with
  | [c0, c1, c2], _, [y0, y1, y2], _ =>
    have g0 := hf 0 _ rfl
    have g1 := hf 1 _ rfl
    have g2 := hf 2 _ rfl
    simp only [List.getElem?_cons_zero, List.getElem?_cons_succ] at g0 g1 g2
    obtain ⟨a0, h0, _, hw0⟩ := DataW.trod_int Tryd.underlying3 g0
    obtain ⟨a1, h1, _, hw1⟩ := DataW.trod_int Tryd.underlying3 g1
    obtain ⟨a2, h2, _, hw2⟩ := DataW.trod_int Tryd.underlying3 g2
    cases h0; cases h1; cases h2
    exact ⟨⟨a0, a1, a2⟩, rfl, (in64_of hw0).1, (in64_of hw0).2, (in64_of hw2).1, (in64_of hw2).2⟩
end
theorem evC_get (f : Nat → Ev) (n i : Nat) (u : Value) (h : (evC ((List.range n).map f))[i]? = some u) : i / 3 < n ∧ (evR (f (i / 3)))[i % 3]? = some u := by
  have hlen := evC_len ((List.range n).map f)
  rw [List.length_map, List.length_range] at hlen
  have hi : i < n * 3 := by
    rcases Nat.lt_or_ge i (n * 3) with c | c
    · exact c
    · rw [List.getElem?_eq_none (by omega)] at h; cases h
  have hk : i / 3 < n := by omega
  refine ⟨hk, ?_⟩
  have hx : ((List.range n).map f)[i / 3]? = some (f (i / 3)) := by simp [hk]
  obtain ⟨n0, n1, n2⟩ := ev_at hx
  have hm : i % 3 = 0 ∨ i % 3 = 1 ∨ i % 3 = 2 := by omega
  rcases hm with c | c | c
  · rw [show i / 3 * 3 = i by omega] at n0
    rw [c, ← h, n0]; rfl
  · rw [show i / 3 * 3 + 1 = i by omega] at n1
    rw [c, ← h, n1]; rfl
  · rw [show i / 3 * 3 + 2 = i by omega] at n2
    rw [c, ← h, n2]; rfl
set_option maxRecDepth 100000 in
theorem evs_open {H : Type} {enc : TypeId × Value → H} {w : World} {r : Reach} {b0 : Nat} {v : Value} {d : DataW H} {p : List MemPlace}
    (hv : Value.okWide Tryd.prog w r b0 22 v) (h : DataW.Trod enc Tryd.prog w 0 (fun _ => true) true 22 v d p) :
    ∃ (A : Option Addr) (c : Nat) (l : List Ev), v = .slice A l.length c ∧ RowG w w.heap.size A c (evC l) ∧ (∀ x, x ∈ l → InE x) ∧ l.length ≤ c ∧ c ≤ maxLen := by
  obtain ⟨A, len, cap, rfl⟩ := okWide_slice Tryd.underlying22 hv
  obtain ⟨fuel, hf⟩ := h
  have c27 : Tryd.prog.cellsOf 47 = 3 := by kernel_rfl
  rcases open_slice Tryd.underlying22 hf with ⟨hcs, _⟩ | ⟨a, l, c, m, n, D, Pl, hcs, _, hl, hm, hmm, _, hi⟩
  · simp [Value.cells] at hcs
    obtain ⟨rfl, rfl, rfl⟩ := hcs
    exact ⟨none, 0, [], rfl, RowG.nil, fun x hx => absurd hx (by simp), Nat.le_refl _, Nat.zero_le _⟩
  · simp [Value.cells] at hcs
    obtain ⟨rfl, rfl, rfl⟩ := hcs
    have hmc : m = cap := by simpa using hmm
    subst hmc
    have hx : ∀ i, ∃ x : Ev, i < len → InE x ∧ ∀ j, j < 3 → w.cell? ((a.add (i * 3)).add j) = (evR x)[j]? := fun i => by
      by_cases hil : i < len
      · obtain ⟨cs', hc, ht⟩ := hi i (by omega)
        rw [c27] at hc
        obtain ⟨x, hxe, hok⟩ := ev_cs ht
        obtain ⟨_, _, hat⟩ := World.cells?_some hc
        exact ⟨x, fun _ => ⟨hok, fun j hj => by rw [hat j hj, ← hxe, Array.getElem?_toList]⟩⟩
      · exact ⟨⟨0, 0, 0⟩, fun h => absurd h hil⟩
    obtain ⟨f, hf2⟩ : ∃ f : Nat → Ev, ∀ i, i < len → InE (f i) ∧ ∀ j, j < 3 → w.cell? ((a.add (i * 3)).add j) = (evR (f i))[j]? := ⟨fun i => (hx i).choose, fun i => (hx i).choose_spec⟩
    refine ⟨some a, m, (List.range len).map f, by simp, ?_, fun x hx => ?_, by simpa using hl, hm⟩
    rotate_left
    · rw [List.mem_map] at hx
      obtain ⟨k, hk, rfl⟩ := hx
      exact (hf2 k (by simpa using hk)).1
    by_cases hlen : 0 < len
    · have hc0 := (hf2 0 hlen).2 0 (by omega)
      have hc1 : w.cell? ((a.add (0 * 3)).add 0) = some (.int .i64 (f 0).a) := hc0
      have e0 : (a.add (0 * 3)).add 0 = a := by obtain ⟨b, o, s⟩ := a; simp [Addr.add]
      rw [e0] at hc1
      have hlt := cell_lt_o hc1
      obtain ⟨b, off, spot⟩ := a
      have hspot : spot = none := World.cell?_spot hc1
      subst hspot
      refine .inr ⟨b, off, rfl, by simpa using hlt, fun i u hu => ?_⟩
      obtain ⟨hk, hu2⟩ := evC_get f len i u hu
      have hh := (hf2 (i / 3) hk).2 (i % 3) (by omega)
      rw [addr_add, addr_add, hu2] at hh
      rw [← hh]
      congr 2
      omega
    · obtain rfl : len = 0 := by omega
      exact .inl ⟨rfl, fun h => by cases h⟩
end Go.Proofs.YtfppplalgdopjaaDoor
