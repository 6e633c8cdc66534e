/- The arguments of the laws of layer 32 (forms): a formula; its size by the bulk of what is read. -/
import Derived.Test.YtnjkphopklbogaaMe
import Derived.Deep.Grids
import Derived.ChangeOld
import Derived.Carry
import Derived.Deep.Slices
import Derived.Deep.Fields
import Derived.ChangeSame
import Derived.Lib.SmallJoins
import Derived.Deep.Strs
namespace Go.Proofs.Ytnjkphopklbogaa
open Go.ChangeShapes Go.WideShapes Go.Deep Go.RowKit

theorem cell_under {w : World} {a : Addr} {v : Value} (h : w.cell? a = some v) : a.block < w.heap.size := by
  rcases Nat.lt_or_ge a.block w.heap.size with hlt | hge
  · exact hlt
  · have : w.heap[a.block]? = none := Array.getElem?_eq_none hge
    simp [World.cell?, this] at h
section
variable {H : Type} {enc : TypeId × Value → H} {w : World} {base : Nat} {spare : Nat → Bool} {held : Bool}
theorem szL_bulk (f : Nat → Ex) (D : Nat → DataW H) : ∀ l : List Nat, (∀ i, i ∈ l → (f i).sz ≤ Rows.uptoBulk (D i)) → szL (l.map f) ≤ Rows.uptoBulkAll (l.map D)
  | [], _ => Nat.zero_le _
  | i :: r, h => by
    rw [List.map_cons, List.map_cons, szL, Rows.uptoBulkAll]
    have h1 := h i (List.mem_cons_self ..)
    have h2 := szL_bulk f D r fun j hj => h j (List.mem_cons_of_mem _ hj)
    omega
theorem bulk_mem {d : DataW H} : ∀ {l : List (DataW H)}, d ∈ l → Rows.uptoBulk d ≤ Rows.uptoBulkAll l
  | a :: r, h => by
    rw [Rows.uptoBulkAll]
    rcases List.mem_cons.1 h with rfl | h
    · omega
    · have := bulk_mem h; omega
set_option maxRecDepth 100000 in
/-- What is read as a term is a tree. -/
theorem ex_cs : ∀ (b : Nat) {fuel : Nat} {cs : List Value} {x : DataW H × List MemPlace}, Rows.uptoBulk x.1 ≤ b → DataW.trod enc Try.prog w base spare held fuel 24 cs = some x →
    ∃ (t : Ex) (A : Option Addr) (c : Nat), cs = [.int .i64 t.op, .int .i64 t.vr, .string t.nm, .slice A t.ks.length c] ∧ Rep w.heap.size w A t ∧ t.sz ≤ Rows.uptoBulk x.1 := by
  intro b
  induction b with
  | zero =>
    intro fuel cs x hb h
    obtain ⟨ys, n, _, rfl, _, _, _⟩ := DataW.trod_struct Try.underlying24 h
    simp [Rows.uptoBulk] at hb
  | succ b ih =>
    intro fuel cs x hb h
    obtain ⟨ys, n, _, rfl, hlen, hys, hf⟩ := DataW.trod_struct Try.underlying24 h
    have hl3 : cs.length = 4 := hlen
    have c3 : Try.prog.cellsOf 3 = 1 := by kernel_rfl
    have c22 : Try.prog.cellsOf 22 = 1 := by kernel_rfl
    have c24 : Try.prog.cellsOf 24 = 4 := by kernel_rfl
    match cs, hl3, ys, hys with
    | [c0, c1, c2, c3'], _, [y0, y1, ys', y2], _ =>
      have g0 := hf 0 _ rfl
      have g1 := hf 1 _ rfl
      have gs := hf 2 _ rfl
      have g2 := hf 3 _ rfl
      simp only [List.getElem?_cons_zero, List.getElem?_cons_succ] at g0 g1 gs g2
      obtain ⟨a0, h0, e0, _⟩ := DataW.trod_int Try.underlying3 g0
      obtain ⟨a1, h1, e1, _⟩ := DataW.trod_int Try.underlying3 g1
      obtain ⟨as', hs', es', _⟩ := DataW.trod_string Try.underlying9 gs
      cases h0; cases h1; cases hs'
      have hb2 : Rows.uptoBulk y2.1 + 1 ≤ b + 1 := by
        have : Rows.uptoBulk y2.1 + 1 ≤ Rows.uptoBulk (DataW.agg ([y0, y1, ys', y2].map (·.1))) := by simp only [List.map, Rows.uptoBulk, Rows.uptoBulkAll]; omega
        exact Nat.le_trans this hb
      have hbx : Rows.uptoBulk (DataW.agg ([y0, y1, ys', y2].map (·.1))) = Rows.uptoBulk y0.1 + Rows.uptoBulk y1.1 + Rows.uptoBulk ys'.1 + Rows.uptoBulk y2.1 + 1 := by simp only [List.map, Rows.uptoBulk, Rows.uptoBulkAll]; omega
      rcases open_slice Try.underlying22 g2 with ⟨hcs, hy⟩ | ⟨a, l, c, m, n', D, Pl, hcs, _, hl, hm, hmm, hy, hi⟩
      · cases hcs
        refine ⟨.mk a0 a1 as' [], none, 0, rfl, Rep.leaf rfl, ?_⟩
        show 1 + szL [] ≤ _
        rw [hbx]; simp only [szL]; omega
      · cases hcs
        subst hy
        have hlm : l ≤ m := by rw [hmm]; split <;> omega
        have hbD : ∀ i, i < l → Rows.uptoBulk (D i) ≤ b := fun i hil => by
          have : Rows.uptoBulk (D i) ≤ Rows.uptoBulkAll ((List.range l).map D) := bulk_mem (List.mem_map.2 ⟨i, List.mem_range.2 hil, rfl⟩)
          simp only [Rows.uptoBulk] at hb2
          omega
        have hx : ∀ i, ∃ p : Ex × Option Addr × Nat, i < l → (w.cell? ((a.add (i * 4)).add 0) = some (.int .i64 p.1.op) ∧ w.cell? ((a.add (i * 4)).add 1) = some (.int .i64 p.1.vr) ∧ w.cell? ((a.add (i * 4)).add 2) = some (.string p.1.nm) ∧ w.cell? ((a.add (i * 4)).add 3) = some (.slice p.2.1 p.1.ks.length p.2.2)) ∧ Rep w.heap.size w p.2.1 p.1 ∧ p.1.sz ≤ Rows.uptoBulk (D i) := fun i => by
          by_cases hil : i < l
          · obtain ⟨cs', hc, ht⟩ := hi i (by omega)
            rw [c24] at hc
            obtain ⟨t, A, k, hcs', hR, hsz⟩ := ih (hbD i hil) ht
            obtain ⟨_, _, hat⟩ := World.cells?_some hc
            subst hcs'
            exact ⟨(t, A, k), fun _ => ⟨⟨hat 0 (by omega), hat 1 (by omega), hat 2 (by omega), hat 3 (by omega)⟩, hR, hsz⟩⟩
          · exact ⟨(ex0, none, 0), fun h => absurd h hil⟩
        obtain ⟨f, hf2⟩ : ∃ f : Nat → Ex × Option Addr × Nat, ∀ i, i < l → (w.cell? ((a.add (i * 4)).add 0) = some (.int .i64 (f i).1.op) ∧ w.cell? ((a.add (i * 4)).add 1) = some (.int .i64 (f i).1.vr) ∧ w.cell? ((a.add (i * 4)).add 2) = some (.string (f i).1.nm) ∧ w.cell? ((a.add (i * 4)).add 3) = some (.slice (f i).2.1 (f i).1.ks.length (f i).2.2)) ∧ Rep w.heap.size w (f i).2.1 (f i).1 ∧ (f i).1.sz ≤ Rows.uptoBulk (D i) := ⟨fun i => (hx i).choose, fun i => (hx i).choose_spec⟩
        have hkd : ∀ i, i < l → kd ((List.range l).map fun i => (f i).1) i = (f i).1 := fun i hil => by
          simp [kd, List.getD, hil]
        refine ⟨.mk a0 a1 as' ((List.range l).map fun i => (f i).1), some a, c, ?_, ?_, ?_⟩
        · show _ = [Value.int .i64 a0, Value.int .i64 a1, Value.string as', Value.slice (some a) (((List.range l).map fun i => (f i).1)).length c]
          simp
        · rcases Nat.eq_zero_or_pos l with hl0 | hl0
          · subst hl0; exact Rep.leaf rfl
          · have q := (hf2 0 hl0).1.1
            obtain ⟨b', off, spot⟩ := a
            have hspot : spot = none := by
              have := World.cell?_spot q
              simp only [Addr.add] at this
              revert this
              cases spot <;> simp
            subst hspot
            have hlt : b' < w.heap.size := by
              have := cell_under q
              rw [adr_add, adr_add] at this
              exact this
            refine Rep.node hlt fun i hi' => ?_
            have hil : i < l := by
              have : (((List.range l).map fun i => (f i).1)).length = l := by simp
              exact this ▸ hi'
            obtain ⟨⟨p0, p1, ps, p2⟩, hR, _⟩ := hf2 i hil
            rw [adr_add, adr_add] at p0 p1 ps p2
            refine ⟨(f i).2.1, (f i).2.2, ?_, ?_, ?_, ?_, ?_⟩
            · show _ = some (Value.int .i64 (kd ((List.range l).map fun i => (f i).1) i).op)
              rw [hkd i hil]; exact p0
            · show _ = some (Value.int .i64 (kd ((List.range l).map fun i => (f i).1) i).vr)
              rw [hkd i hil]; exact p1
            · show _ = some (Value.string (kd ((List.range l).map fun i => (f i).1) i).nm)
              rw [hkd i hil]; exact ps
            · show _ = some (Value.slice _ (kd ((List.range l).map fun i => (f i).1) i).ks.length _)
              rw [hkd i hil]; exact p2
            · show Rep _ _ _ (kd ((List.range l).map fun i => (f i).1) i)
              rw [hkd i hil]; exact hR
        · show 1 + szL ((List.range l).map fun i => (f i).1) ≤ _
          have q := szL_bulk (fun i => (f i).1) D (List.range l) fun i hi' => (hf2 i (List.mem_range.1 hi')).2.2
          rw [hbx]
          simp only [Rows.uptoBulk]
          omega
set_option maxRecDepth 100000 in
/-- An argument that is a term. -/
theorem ex_open {r : Reach} {b0 : Nat} {v : Value} {d : DataW H} {p : List MemPlace} (hv : Value.okWide Try.prog w r b0 24 v) (h : DataW.Trod enc Try.prog w base spare held 24 v d p) :
    ∃ (t : Ex) (A : Option Addr) (c : Nat), v = exV t A c ∧ Rep w.heap.size w A t ∧ t.sz ≤ Rows.uptoBulk d := by
  obtain ⟨cs, rfl, hsz⟩ := okWide_struct Try.underlying24 hv
  obtain ⟨fuel, hf⟩ := h
  obtain ⟨t, A, c, ha, hR, hs⟩ := ex_cs _ (Nat.le_refl _) hf
  refine ⟨t, A, c, ?_, hR, hs⟩
  have : cs = exC t A c := by
    apply Array.toList_inj.1
    exact ha
  rw [this]
theorem fszL_bulk (f : Nat → Fx) (D : Nat → DataW H) : ∀ l : List Nat, (∀ i, i ∈ l → (f i).sz ≤ Rows.uptoBulk (D i)) → fszL (l.map f) ≤ Rows.uptoBulkAll (l.map D)
  | [], _ => Nat.zero_le _
  | i :: r, h => by
    rw [List.map_cons, List.map_cons, fszL, Rows.uptoBulkAll]
    have h1 := h i (List.mem_cons_self ..)
    have h2 := fszL_bulk f D r fun j hj => h j (List.mem_cons_of_mem _ hj)
    omega
set_option maxRecDepth 100000 in
set_option maxHeartbeats 1000000 in
/-- What is read as a formula is a tree. -/
theorem fx_cs : ∀ (b : Nat) {fuel : Nat} {cs : List Value} {x : DataW H × List MemPlace}, Rows.uptoBulk x.1 ≤ b → DataW.trod enc Try.prog w base spare held fuel 27 cs = some x →
    ∃ (t : Fx) (E : Option Addr) (d : Nat) (A : Option Addr) (c : Nat), cs = (fC t E d A c).toList ∧ Fm w.heap.size w t E A ∧ t.sz ≤ Rows.uptoBulk x.1 := by
  intro b
  induction b with
  | zero =>
    intro fuel cs x hb h
    obtain ⟨ys, n, _, rfl, _, _, _⟩ := DataW.trod_struct Try.underlying27 h
    simp [Rows.uptoBulk] at hb
  | succ b ih =>
    intro fuel cs x hb h
    have c3 : Try.prog.cellsOf 3 = 1 := by kernel_rfl
    have c24 : Try.prog.cellsOf 24 = 4 := by kernel_rfl
    have c25 : Try.prog.cellsOf 25 = 1 := by kernel_rfl
    have c27 : Try.prog.cellsOf 27 = 6 := by kernel_rfl
    obtain ⟨y0, y1, y2, n, rfl, hlen, g0, g1, g2⟩ := trod_struct3 Try.underlying27 h
    rw [c27] at hlen
    match cs, hlen with
    | [k0, k1, k2, k3, k4, k5], _ =>
      simp only [c3, c24, c25, List.drop_zero, List.drop_succ_cons, List.take_succ_cons, List.take_zero] at g0 g1 g2
      obtain ⟨a0, h0, e0, _⟩ := DataW.trod_int Try.underlying3 g0
      cases h0
      obtain ⟨te, E, dd, hce, hRe, hse⟩ := ex_cs _ (Nat.le_refl _) g1
      have hbx : Rows.uptoBulk (DataW.agg [y0.1, y1.1, y2.1]) = Rows.uptoBulk y0.1 + Rows.uptoBulk y1.1 + Rows.uptoBulk y2.1 + 1 := by simp only [Rows.uptoBulk, Rows.uptoBulkAll]; omega
      have hb2 : Rows.uptoBulk y2.1 + 1 ≤ b + 1 := by
        have hb' : Rows.uptoBulk (DataW.agg [y0.1, y1.1, y2.1]) ≤ b + 1 := hb
        omega
      injection hce with q1 hce
      injection hce with q2 hce
      injection hce with q3 hce
      injection hce with q4 hce
      subst q1 q2 q3 q4
      rcases open_slice Try.underlying25 g2 with ⟨hcs, hy⟩ | ⟨a, l, c, m, n', D, Pl, hcs, _, hl, hm, hmm, hy, hi⟩
      · cases hcs
        refine ⟨.mk a0 te [], E, dd, none, 0, rfl, ⟨hRe, RepF.leaf rfl⟩, ?_⟩
        show te.sz + fszL [] ≤ Rows.uptoBulk (DataW.agg [y0.1, y1.1, y2.1])
        rw [hbx]; simp only [fszL]; omega
      · cases hcs
        subst hy
        have hlm : l ≤ m := by rw [hmm]; split <;> omega
        have hbD : ∀ i, i < l → Rows.uptoBulk (D i) ≤ b := fun i hil => by
          have : Rows.uptoBulk (D i) ≤ Rows.uptoBulkAll ((List.range l).map D) := bulk_mem (List.mem_map.2 ⟨i, List.mem_range.2 hil, rfl⟩)
          simp only [Rows.uptoBulk] at hb2
          omega
        have hx : ∀ i, ∃ p : Fx × Option Addr × Nat × Option Addr × Nat, i < l → (∀ j, j < 6 → w.cell? ((a.add (i * 6)).add j) = (fC p.1 p.2.1 p.2.2.1 p.2.2.2.1 p.2.2.2.2).toList[j]?) ∧ Fm w.heap.size w p.1 p.2.1 p.2.2.2.1 ∧ p.1.sz ≤ Rows.uptoBulk (D i) := fun i => by
          by_cases hil : i < l
          · obtain ⟨cs', hc, ht⟩ := hi i (by omega)
            rw [c27] at hc
            obtain ⟨t, E', d', A', k', hcs', hR, hsz⟩ := ih (hbD i hil) ht
            obtain ⟨_, _, hat⟩ := World.cells?_some hc
            subst hcs'
            refine ⟨(t, E', d', A', k'), fun _ => ⟨fun j hj => ?_, hR, hsz⟩⟩
            rcases (show j = 0 ∨ j = 1 ∨ j = 2 ∨ j = 3 ∨ j = 4 ∨ j = 5 by omega) with rfl | rfl | rfl | rfl | rfl | rfl
            · exact hat 0 (by omega)
            · exact hat 1 (by omega)
            · exact hat 2 (by omega)
            · exact hat 3 (by omega)
            · exact hat 4 (by omega)
            · exact hat 5 (by omega)
          · exact ⟨(fx0, none, 0, none, 0), fun h => absurd h hil⟩
        obtain ⟨f, hf2⟩ : ∃ f : Nat → Fx × Option Addr × Nat × Option Addr × Nat, ∀ i, i < l → (∀ j, j < 6 → w.cell? ((a.add (i * 6)).add j) = (fC (f i).1 (f i).2.1 (f i).2.2.1 (f i).2.2.2.1 (f i).2.2.2.2).toList[j]?) ∧ Fm w.heap.size w (f i).1 (f i).2.1 (f i).2.2.2.1 ∧ (f i).1.sz ≤ Rows.uptoBulk (D i) := ⟨fun i => (hx i).choose, fun i => (hx i).choose_spec⟩
        have hkd : ∀ i, i < l → fkd ((List.range l).map fun i => (f i).1) i = (f i).1 := fun i hil => by
          simp [fkd, List.getD, hil]
        refine ⟨.mk a0 te ((List.range l).map fun i => (f i).1), E, dd, some a, c, ?_, ⟨hRe, ?_⟩, ?_⟩
        · show _ = [Value.int .i64 a0, Value.int .i64 te.op, Value.int .i64 te.vr, Value.string te.nm, Value.slice E te.ks.length dd, Value.slice (some a) (((List.range l).map fun i => (f i).1)).length c]
          simp
        · rcases Nat.eq_zero_or_pos l with hl0 | hl0
          · subst hl0; exact RepF.leaf rfl
          · have q := (hf2 0 hl0).1 0 (by omega)
            have q : w.cell? ((a.add (0 * 6)).add 0) = some (.int .i64 (f 0).1.op) := q
            obtain ⟨b', off, spot⟩ := a
            have hspot : spot = none := by
              have := World.cell?_spot q
              simp only [Addr.add] at this
              revert this
              cases spot <;> simp
            subst hspot
            have hlt : b' < w.heap.size := by
              have := cell_under q
              rw [adr_add, adr_add] at this
              exact this
            refine RepF.node hlt fun i hi' => ?_
            have hil : i < l := by
              have : (((List.range l).map fun i => (f i).1)).length = l := by simp
              exact this ▸ hi'
            obtain ⟨hat, hR, _⟩ := hf2 i hil
            have hat2 : ∀ j, j < 6 → w.cell? ⟨b', off + i * 6 + j, none⟩ = (fC (f i).1 (f i).2.1 (f i).2.2.1 (f i).2.2.2.1 (f i).2.2.2.2).toList[j]? := fun j hj => by
              have h := hat j hj
              rw [adr_add, adr_add] at h
              exact h
            refine ⟨(f i).2.1, (f i).2.2.1, (f i).2.2.2.1, (f i).2.2.2.2, ?_, ?_, ?_⟩
            · show FAt w b' (off + i * 6) (fkd ((List.range l).map fun i => (f i).1) i) _ _ _ _
              rw [hkd i hil]
              exact ⟨hat2 0 (by omega), hat2 1 (by omega), hat2 2 (by omega), hat2 3 (by omega), hat2 4 (by omega), hat2 5 (by omega)⟩
            · show Rep _ _ _ (fkd ((List.range l).map fun i => (f i).1) i).e
              rw [hkd i hil]; exact hR.1
            · show RepF _ _ _ (fkd ((List.range l).map fun i => (f i).1) i)
              rw [hkd i hil]; exact hR.2
        · show te.sz + fszL ((List.range l).map fun i => (f i).1) ≤ Rows.uptoBulk (DataW.agg [y0.1, y1.1, _])
          have q := fszL_bulk (fun i => (f i).1) D (List.range l) fun i hi' => (hf2 i (List.mem_range.1 hi')).2.2
          rw [hbx]
          simp only [Rows.uptoBulk]
          omega
set_option maxRecDepth 100000 in
/-- An argument that is a formula. -/
theorem fx_open {r : Reach} {b0 : Nat} {v : Value} {d : DataW H} {p : List MemPlace} (hv : Value.okWide Try.prog w r b0 27 v) (h : DataW.Trod enc Try.prog w base spare held 27 v d p) :
    ∃ (t : Fx) (E : Option Addr) (dd : Nat) (A : Option Addr) (c : Nat), v = fV t E dd A c ∧ Fm w.heap.size w t E A ∧ t.sz ≤ Rows.uptoBulk d := by
  obtain ⟨cs, rfl, hsz⟩ := okWide_struct Try.underlying27 hv
  obtain ⟨fuel, hf⟩ := h
  obtain ⟨t, E, dd, A, c, ha, hR, hs⟩ := fx_cs _ (Nat.le_refl _) hf
  refine ⟨t, E, dd, A, c, ?_, hR, hs⟩
  have : cs = fC t E dd A c := by
    apply Array.toList_inj.1
    exact ha
  rw [this]
end
end Go.Proofs.Ytnjkphopklbogaa
