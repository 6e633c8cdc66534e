/- The arguments of the laws of layer 7 (ptext): an expression; its size by the bulk of what is read. -/
import Derived.Test.YtipapemcedkinaaBase
import Derived.Deep.Slices
import Derived.Deep.Fields
import Derived.ChangeSame
import Derived.Lib.SmallJoins
namespace Go.Proofs.Ytipapemcedkinaa
open Go.ChangeShapes Go.WideShapes Go.Deep Go.RowKit

theorem adr_add (b o j : Nat) : (⟨b, o, none⟩ : Addr).add j = ⟨b, o + j, none⟩ := by unfold Addr.add; split <;> simp_all
theorem cell_under {w : World} {a : Addr} {v : Value} (h : w.cell? a = some v) : a.block < w.heap.size := by
  rcases Nat.lt_or_ge a.block w.heap.size with hlt | hge
  · exact hlt
  · have : w.heap[a.block]? = none := Array.getElem?_eq_none hge
    simp [World.cell?, this] at h
section
variable {H : Type} {enc : TypeId × Value → H} {w : World} {base : Nat} {spare : Nat → Bool} {held : Bool}
theorem szL_bulk (f : Nat → Ex) (D : Nat → DataW H) : ∀ l : List Nat, (∀ i, i ∈ l → (f i).sz ≤ Rows.uptoBulk (D i)) → szL (l.map f) ≤ Rows.uptoBulkAll (l.map D)
  | [], _ => Nat.zero_le _
  | i :: r, h => by
    rw [List.map_cons, List.map_cons, szL, Rows.uptoBulkAll]
    have h1 := h i (List.mem_cons_self ..)
    have h2 := szL_bulk f D r fun j hj => h j (List.mem_cons_of_mem _ hj)
    omega
theorem bulk_mem {d : DataW H} : ∀ {l : List (DataW H)}, d ∈ l → Rows.uptoBulk d ≤ Rows.uptoBulkAll l
  | a :: r, h => by
    rw [Rows.uptoBulkAll]
    rcases List.mem_cons.1 h with rfl | h
    · omega
    · have := bulk_mem h; omega
/-- What is read as an expression is a tree. -/
theorem ex_cs : ∀ (b : Nat) {fuel : Nat} {cs : List Value} {x : DataW H × List MemPlace}, Rows.uptoBulk x.1 ≤ b → DataW.trod enc Try.prog w base spare held fuel 25 cs = some x →
    ∃ (t : Ex) (A : Option Addr) (c : Nat), cs = [.int .i64 t.op, .int .i64 t.vr, .slice A t.ks.length c] ∧ Rep w.heap.size w A t ∧ t.sz ≤ Rows.uptoBulk x.1 := by
  intro b
  induction b with
  | zero =>
    intro fuel cs x hb h
    obtain ⟨ys, n, _, rfl, _, _, _⟩ := DataW.trod_struct Try.underlying25 h
    simp [Rows.uptoBulk] at hb
  | succ b ih =>
    intro fuel cs x hb h
    obtain ⟨ys, n, _, rfl, hlen, hys, hf⟩ := DataW.trod_struct Try.underlying25 h
    have hl3 : cs.length = 3 := hlen
    have c3 : Try.prog.cellsOf 3 = 1 := by kernel_rfl
    have c22 : Try.prog.cellsOf 23 = 1 := by kernel_rfl
    have c24 : Try.prog.cellsOf 25 = 3 := by kernel_rfl
    match cs, hl3, ys, hys with
    | [c0, c1, c2], _, [y0, y1, y2], _ =>
      have g0 := hf 0 _ rfl
      have g1 := hf 1 _ rfl
      have g2 := hf 2 _ rfl
      simp only [List.getElem?_cons_zero, List.getElem?_cons_succ] at g0 g1 g2
      obtain ⟨a0, h0, e0, _⟩ := DataW.trod_int Try.underlying3 g0
      obtain ⟨a1, h1, e1, _⟩ := DataW.trod_int Try.underlying3 g1
      cases h0; cases h1
      have hb2 : Rows.uptoBulk y2.1 + 1 ≤ b + 1 := by
        have : Rows.uptoBulk y2.1 + 1 ≤ Rows.uptoBulk (DataW.agg ([y0, y1, y2].map (·.1))) := by simp only [List.map, Rows.uptoBulk, Rows.uptoBulkAll]; omega
        exact Nat.le_trans this hb
      have hbx : Rows.uptoBulk (DataW.agg ([y0, y1, y2].map (·.1))) = Rows.uptoBulk y0.1 + Rows.uptoBulk y1.1 + Rows.uptoBulk y2.1 + 1 := by simp only [List.map, Rows.uptoBulk, Rows.uptoBulkAll]; omega
      rcases open_slice Try.underlying23 g2 with ⟨hcs, hy⟩ | ⟨a, l, c, m, n', D, Pl, hcs, _, hl, hm, hmm, hy, hi⟩
      · cases hcs
        refine ⟨.mk a0 a1 [], none, 0, rfl, Rep.leaf rfl, ?_⟩
        show 1 + szL [] ≤ _
        rw [hbx]; simp only [szL]; omega
      · cases hcs
        subst hy
        have hlm : l ≤ m := by rw [hmm]; split <;> omega
        have hbD : ∀ i, i < l → Rows.uptoBulk (D i) ≤ b := fun i hil => by
          have : Rows.uptoBulk (D i) ≤ Rows.uptoBulkAll ((List.range l).map D) := bulk_mem (List.mem_map.2 ⟨i, List.mem_range.2 hil, rfl⟩)
          simp only [Rows.uptoBulk] at hb2
          omega
        have hx : ∀ i, ∃ p : Ex × Option Addr × Nat, i < l → (w.cell? ((a.add (i * 3)).add 0) = some (.int .i64 p.1.op) ∧ w.cell? ((a.add (i * 3)).add 1) = some (.int .i64 p.1.vr) ∧ w.cell? ((a.add (i * 3)).add 2) = some (.slice p.2.1 p.1.ks.length p.2.2)) ∧ Rep w.heap.size w p.2.1 p.1 ∧ p.1.sz ≤ Rows.uptoBulk (D i) := fun i => by
          by_cases hil : i < l
          · obtain ⟨cs', hc, ht⟩ := hi i (by omega)
            rw [c24] at hc
            obtain ⟨t, A, k, hcs', hR, hsz⟩ := ih (hbD i hil) ht
            obtain ⟨_, _, hat⟩ := World.cells?_some hc
            subst hcs'
            exact ⟨(t, A, k), fun _ => ⟨⟨hat 0 (by omega), hat 1 (by omega), hat 2 (by omega)⟩, hR, hsz⟩⟩
          · exact ⟨(ex0, none, 0), fun h => absurd h hil⟩
        obtain ⟨f, hf2⟩ : ∃ f : Nat → Ex × Option Addr × Nat, ∀ i, i < l → (w.cell? ((a.add (i * 3)).add 0) = some (.int .i64 (f i).1.op) ∧ w.cell? ((a.add (i * 3)).add 1) = some (.int .i64 (f i).1.vr) ∧ w.cell? ((a.add (i * 3)).add 2) = some (.slice (f i).2.1 (f i).1.ks.length (f i).2.2)) ∧ Rep w.heap.size w (f i).2.1 (f i).1 ∧ (f i).1.sz ≤ Rows.uptoBulk (D i) := ⟨fun i => (hx i).choose, fun i => (hx i).choose_spec⟩
        have hkd : ∀ i, i < l → kd ((List.range l).map fun i => (f i).1) i = (f i).1 := fun i hil => by
          simp [kd, List.getD, hil]
        refine ⟨.mk a0 a1 ((List.range l).map fun i => (f i).1), some a, c, ?_, ?_, ?_⟩
        · show _ = [Value.int .i64 a0, Value.int .i64 a1, Value.slice (some a) (((List.range l).map fun i => (f i).1)).length c]
          simp
        · rcases Nat.eq_zero_or_pos l with hl0 | hl0
          · subst hl0; exact Rep.leaf rfl
          · have q := (hf2 0 hl0).1.1
            obtain ⟨b', off, spot⟩ := a
            have hspot : spot = none := by
              have := World.cell?_spot q
              simp only [Addr.add] at this
              revert this
              cases spot <;> simp
            subst hspot
            have hlt : b' < w.heap.size := by
              have := cell_under q
              rw [adr_add, adr_add] at this
              exact this
            refine Rep.node hlt fun i hi' => ?_
            have hil : i < l := by
              have : (((List.range l).map fun i => (f i).1)).length = l := by simp
              exact this ▸ hi'
            obtain ⟨⟨p0, p1, p2⟩, hR, _⟩ := hf2 i hil
            rw [adr_add, adr_add] at p0 p1 p2
            refine ⟨(f i).2.1, (f i).2.2, ?_, ?_, ?_, ?_⟩
            · show _ = some (Value.int .i64 (kd ((List.range l).map fun i => (f i).1) i).op)
              rw [hkd i hil]; exact p0
            · show _ = some (Value.int .i64 (kd ((List.range l).map fun i => (f i).1) i).vr)
              rw [hkd i hil]; exact p1
            · show _ = some (Value.slice _ (kd ((List.range l).map fun i => (f i).1) i).ks.length _)
              rw [hkd i hil]; exact p2
            · show Rep _ _ _ (kd ((List.range l).map fun i => (f i).1) i)
              rw [hkd i hil]; exact hR
        · show 1 + szL ((List.range l).map fun i => (f i).1) ≤ _
          have q := szL_bulk (fun i => (f i).1) D (List.range l) fun i hi' => (hf2 i (List.mem_range.1 hi')).2.2
          rw [hbx]
          simp only [Rows.uptoBulk]
          omega
/-- An argument that is an expression. -/
theorem ex_open {r : Reach} {b0 : Nat} {v : Value} {d : DataW H} {p : List MemPlace} (hv : Value.okWide Try.prog w r b0 25 v) (h : DataW.Trod enc Try.prog w base spare held 25 v d p) :
    ∃ (t : Ex) (A : Option Addr) (c : Nat), v = exV t A c ∧ Rep w.heap.size w A t ∧ t.sz ≤ Rows.uptoBulk d := by
  obtain ⟨cs, rfl, hsz⟩ := okWide_struct Try.underlying25 hv
  obtain ⟨fuel, hf⟩ := h
  obtain ⟨t, A, c, ha, hR, hs⟩ := ex_cs _ (Nat.le_refl _) hf
  refine ⟨t, A, c, ?_, hR, hs⟩
  have : cs = exC t A c := by
    apply Array.toList_inj.1
    exact ha
  rw [this]
end
end Go.Proofs.Ytipapemcedkinaa
