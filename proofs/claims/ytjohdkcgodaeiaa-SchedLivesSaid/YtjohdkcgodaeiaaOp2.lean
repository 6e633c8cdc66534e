/- An argument that is a slice of steps, opened; layer 42 (sched). -/
import Derived.Test.YtjohdkcgodaeiaaOp1
import Derived.Deep.Slices
import Derived.Deep.Fields
import Derived.ChangeSame
import Derived.Lib.SmallJoins
namespace Go.Proofs.Ytjohdkcgodaeiaa
open Go.RowKit Go.WideShapes Go.ChangeShapes Go.Deep

theorem ints_cs {H : Type} {enc : TypeId × Value → H} {w : World} {fuel : Nat} {c1 : Value} {x : DataW H × List MemPlace} (h : DataW.trod enc Try.prog w 0 (fun _ => true) true fuel 23 [c1] = some x) :
    ∃ (A : Option Addr) (c : Nat) (l : List Int), c1 = .slice A l.length c ∧ RI w w.heap.size A l ∧ l.length ≤ maxLen ∧ ∀ v ∈ l, In64 v := by
  rcases open_ints Try.underlying23 Try.underlying3 (by kernel_rfl) h with ⟨hcs, _⟩ | ⟨x, len, cap, zs, hcs, _, hl, hm, hz, _, hcell, hwz⟩
  · cases hcs
    exact ⟨none, 0, [], rfl, RI.nil, Nat.zero_le _, fun v hv => by simp at hv⟩
  · cases hcs
    have hz' : zs.length = cap := by simpa using hz
    have hzl : (zs.take len).length = len := by rw [List.length_take]; omega
    refine ⟨some x, cap, zs.take len, by rw [hzl], fun hp => ?_, by rw [hzl]; omega, fun v hv => in64_of (hwz v (List.mem_of_mem_take hv))⟩
    rw [hzl] at hp
    have hc0 := hcell 0 (by omega)
    have hlt := cell_lt hc0
    obtain ⟨b, off, spot⟩ := x
    have hspot : spot = none := by simpa [Addr.add] using World.cell?_spot hc0
    subst hspot
    have ha : ∀ j, (⟨b, off, none⟩ : Addr).add j = ⟨b, off + j, none⟩ := fun j => by unfold Addr.add; split <;> simp_all
    refine ⟨b, off, rfl, by simpa [ha] using hlt, fun i hi => ?_⟩
    rw [hzl] at hi
    have := hcell i (by omega)
    rw [ha] at this
    rw [this]
    unfold li
    simp [List.getD, hi]
theorem st_cs {H : Type} {enc : TypeId × Value → H} {w : World} {fuel : Nat} {cs : List Value} {x : DataW H × List MemPlace} (h : DataW.trod enc Try.prog w 0 (fun _ => true) true fuel 32 cs = some x) :
    ∃ s : St, cs = stR s ∧ RI w w.heap.size s.2.1 s.2.2.2 ∧ s.2.2.2.length ≤ maxLen ∧ ∀ v ∈ s.2.2.2, In64 v := by
  obtain ⟨ys, n, _, _, hlen, hys, hf⟩ := DataW.trod_struct Try.underlying32 h
  have hl2 : cs.length = 2 := hlen
  have c3 : Try.prog.cellsOf 3 = 1 := by kernel_rfl
  have c23 : Try.prog.cellsOf 23 = 1 := by kernel_rfl
  match cs, hl2, ys, hys with
  | [c0, c1], _, [y0, y1], _ =>
    have g0 := hf 0 _ rfl
    have g1 := hf 1 _ rfl
    simp only [List.getElem?_cons_zero, List.getElem?_cons_succ] at g0 g1
    obtain ⟨a0, h0, _, _⟩ := DataW.trod_int Try.underlying3 g0
    cases h0
    obtain ⟨A, c, l, h1, h2, h3, h4⟩ := ints_cs g1
    subst h1
    exact ⟨(a0, A, c, l), rfl, h2, h3, h4⟩
theorem steps_open {H : Type} {enc : TypeId × Value → H} {w : World} {r : Reach} {b0 : Nat} {v : Value} {d : DataW H} {p : List MemPlace}
    (hv : Value.okWide Try.prog w r b0 28 v) (h : DataW.Trod enc Try.prog w 0 (fun _ => true) true 28 v d p) :
    ∃ (A : Option Addr) (c : Nat) (T : List St), v = .slice A T.length c ∧ StP w A T ∧ T.length ≤ maxLen ∧ ∀ k, k < T.length → (stAt T k).2.2.2.length ≤ maxLen ∧ ∀ v ∈ (stAt T k).2.2.2, In64 v := by
  obtain ⟨A, len, cap, rfl⟩ := okWide_slice Try.underlying28 hv
  obtain ⟨fuel, hf⟩ := h
  have c32 : Try.prog.cellsOf 32 = 2 := by kernel_rfl
  rcases open_slice Try.underlying28 hf with ⟨hcs, _⟩ | ⟨a, l, c, m, n, D, Pl, hcs, _, hl, hm, hmm, _, hi⟩
  · simp [Value.cells] at hcs
    obtain ⟨rfl, rfl, rfl⟩ := hcs
    exact ⟨none, 0, [], rfl, ⟨fun h => absurd h (by decide), fun k hk => absurd hk (by simp)⟩, Nat.zero_le _, fun k hk => absurd hk (by simp)⟩
  · simp [Value.cells] at hcs
    obtain ⟨rfl, rfl, rfl⟩ := hcs
    have hmc : m = cap := by simpa using hmm
    subst hmc
    have hx : ∀ i, ∃ s : St, i < len → (RI w w.heap.size s.2.1 s.2.2.2 ∧ s.2.2.2.length ≤ maxLen ∧ ∀ v ∈ s.2.2.2, In64 v) ∧ ∀ j, j < 2 → w.cell? ((a.add (i * 2)).add j) = (stR s)[j]? := fun i => by
      by_cases hil : i < len
      · obtain ⟨cs', hc, ht⟩ := hi i (by omega)
        rw [c32] at hc
        obtain ⟨s, hse, h1⟩ := st_cs ht
        obtain ⟨_, _, hat⟩ := World.cells?_some hc
        exact ⟨s, fun _ => ⟨h1, fun j hj => by rw [hat j hj, hse]⟩⟩
      · exact ⟨(0, none, 0, []), fun h => absurd h hil⟩
    obtain ⟨f, hf2⟩ : ∃ f : Nat → St, ∀ i, i < len → (RI w w.heap.size (f i).2.1 (f i).2.2.2 ∧ (f i).2.2.2.length ≤ maxLen ∧ ∀ v ∈ (f i).2.2.2, In64 v) ∧ ∀ j, j < 2 → w.cell? ((a.add (i * 2)).add j) = (stR (f i))[j]? := ⟨fun i => (hx i).choose, fun i => (hx i).choose_spec⟩
    have hna : ∀ k, k < len → stAt ((List.range len).map f) k = f k := fun k hk => by
      unfold stAt
      simp [List.getD, hk]
    refine ⟨some a, m, (List.range len).map f, by simp, ⟨fun hp => ?_, fun k hk => ?_⟩, by simp; omega, fun k hk => ?_⟩
    · have hlen : 0 < len := by simpa using hp
      have hc0 := (hf2 0 hlen).2 0 (by omega)
      have hc1 : w.cell? ((a.add (0 * 2)).add 0) = some (.int .i64 (f 0).1) := hc0
      have e0 : (a.add (0 * 2)).add 0 = a := by obtain ⟨b, o, s⟩ := a; simp [Addr.add]
      rw [e0] at hc1
      have hlt := cell_lt hc1
      obtain ⟨b, off, spot⟩ := a
      have hspot : spot = none := World.cell?_spot hc1
      subst hspot
      refine ⟨b, off, rfl, by simpa using hlt, fun k hk => ?_⟩
      have hk : k < len := by simpa using hk
      rw [hna k hk]
      have hh := (hf2 k hk).2
      have e1 : ∀ j, ((⟨b, off, none⟩ : Addr).add (k * 2)).add j = ⟨b, off + k * 2 + j, none⟩ := fun j => by rw [add_off, add_off]
      refine ⟨?_, ?_⟩
      · have := hh 0 (by omega); rw [e1] at this; exact this
      · have := hh 1 (by omega); rw [e1] at this; exact this
    · have hk : k < len := by simpa using hk
      rw [hna k hk]
      exact (hf2 k hk).1.1
    · have hk : k < len := by simpa using hk
      rw [hna k hk]
      exact (hf2 k hk).1.2
end Go.Proofs.Ytjohdkcgodaeiaa
