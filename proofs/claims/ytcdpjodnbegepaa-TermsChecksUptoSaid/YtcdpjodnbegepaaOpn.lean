/- The arguments of the laws of layer 30 (terms): a term, variables, values; their sizes by the bulk of what is read. -/
import Derived.Test.YtcdpjodnbegepaaFnR
import Derived.Test.YtcdpjodnbegepaaRwt
import Derived.Deep.Grids
import Derived.ChangeOld
import Derived.Carry
import Derived.Deep.Slices
import Derived.Deep.Fields
import Derived.ChangeSame
import Derived.Lib.SmallJoins
namespace Go.Proofs.Ytcdpjodnbegepaa
open Go.ChangeShapes Go.WideShapes Go.Deep Go.RowKit

theorem cell_under {w : World} {a : Addr} {v : Value} (h : w.cell? a = some v) : a.block < w.heap.size := by
  rcases Nat.lt_or_ge a.block w.heap.size with hlt | hge
  · exact hlt
  · have : w.heap[a.block]? = none := Array.getElem?_eq_none hge
    simp [World.cell?, this] at h
section
variable {H : Type} {enc : TypeId × Value → H} {w : World} {base : Nat} {spare : Nat → Bool} {held : Bool}
theorem szL_bulk (f : Nat → Ex) (D : Nat → DataW H) : ∀ l : List Nat, (∀ i, i ∈ l → (f i).sz ≤ Rows.uptoBulk (D i)) → szL (l.map f) ≤ Rows.uptoBulkAll (l.map D)
  | [], _ => Nat.zero_le _
  | i :: r, h => by
    rw [List.map_cons, List.map_cons, szL, Rows.uptoBulkAll]
    have h1 := h i (List.mem_cons_self ..)
    have h2 := szL_bulk f D r fun j hj => h j (List.mem_cons_of_mem _ hj)
    omega
theorem bulk_mem {d : DataW H} : ∀ {l : List (DataW H)}, d ∈ l → Rows.uptoBulk d ≤ Rows.uptoBulkAll l
  | a :: r, h => by
    rw [Rows.uptoBulkAll]
    rcases List.mem_cons.1 h with rfl | h
    · omega
    · have := bulk_mem h; omega
set_option maxRecDepth 100000 in
/-- What is read as a term is a tree. -/
theorem ex_cs : ∀ (b : Nat) {fuel : Nat} {cs : List Value} {x : DataW H × List MemPlace}, Rows.uptoBulk x.1 ≤ b → DataW.trod enc Try.prog w base spare held fuel 24 cs = some x →
    ∃ (t : Ex) (A : Option Addr) (c : Nat), cs = [.int .i64 t.op, .int .i64 t.vr, .string t.nm, .slice A t.ks.length c] ∧ Rep w.heap.size w A t ∧ t.sz ≤ Rows.uptoBulk x.1 := by
  intro b
  induction b with
  | zero =>
    intro fuel cs x hb h
    obtain ⟨ys, n, _, rfl, _, _, _⟩ := DataW.trod_struct Try.underlying24 h
    simp [Rows.uptoBulk] at hb
  | succ b ih =>
    intro fuel cs x hb h
    obtain ⟨ys, n, _, rfl, hlen, hys, hf⟩ := DataW.trod_struct Try.underlying24 h
    have hl3 : cs.length = 4 := hlen
    have c3 : Try.prog.cellsOf 3 = 1 := by kernel_rfl
    have c22 : Try.prog.cellsOf 22 = 1 := by kernel_rfl
    have c24 : Try.prog.cellsOf 24 = 4 := by kernel_rfl
    match cs, hl3, ys, hys with
    | [c0, c1, c2, c3'], _, [y0, y1, ys', y2], _ =>
      have g0 := hf 0 _ rfl
      have g1 := hf 1 _ rfl
      have gs := hf 2 _ rfl
      have g2 := hf 3 _ rfl
      simp only [List.getElem?_cons_zero, List.getElem?_cons_succ] at g0 g1 gs g2
      obtain ⟨a0, h0, e0, _⟩ := DataW.trod_int Try.underlying3 g0
      obtain ⟨a1, h1, e1, _⟩ := DataW.trod_int Try.underlying3 g1
      obtain ⟨as', hs', es', _⟩ := DataW.trod_string Try.underlying9 gs
      cases h0; cases h1; cases hs'
      have hb2 : Rows.uptoBulk y2.1 + 1 ≤ b + 1 := by
        have : Rows.uptoBulk y2.1 + 1 ≤ Rows.uptoBulk (DataW.agg ([y0, y1, ys', y2].map (·.1))) := by simp only [List.map, Rows.uptoBulk, Rows.uptoBulkAll]; omega
        exact Nat.le_trans this hb
      have hbx : Rows.uptoBulk (DataW.agg ([y0, y1, ys', y2].map (·.1))) = Rows.uptoBulk y0.1 + Rows.uptoBulk y1.1 + Rows.uptoBulk ys'.1 + Rows.uptoBulk y2.1 + 1 := by simp only [List.map, Rows.uptoBulk, Rows.uptoBulkAll]; omega
      rcases open_slice Try.underlying22 g2 with ⟨hcs, hy⟩ | ⟨a, l, c, m, n', D, Pl, hcs, _, hl, hm, hmm, hy, hi⟩
      · cases hcs
        refine ⟨.mk a0 a1 as' [], none, 0, rfl, Rep.leaf rfl, ?_⟩
        show 1 + szL [] ≤ _
        rw [hbx]; simp only [szL]; omega
      · cases hcs
        subst hy
        have hlm : l ≤ m := by rw [hmm]; split <;> omega
        have hbD : ∀ i, i < l → Rows.uptoBulk (D i) ≤ b := fun i hil => by
          have : Rows.uptoBulk (D i) ≤ Rows.uptoBulkAll ((List.range l).map D) := bulk_mem (List.mem_map.2 ⟨i, List.mem_range.2 hil, rfl⟩)
          simp only [Rows.uptoBulk] at hb2
          omega
        have hx : ∀ i, ∃ p : Ex × Option Addr × Nat, i < l → (w.cell? ((a.add (i * 4)).add 0) = some (.int .i64 p.1.op) ∧ w.cell? ((a.add (i * 4)).add 1) = some (.int .i64 p.1.vr) ∧ w.cell? ((a.add (i * 4)).add 2) = some (.string p.1.nm) ∧ w.cell? ((a.add (i * 4)).add 3) = some (.slice p.2.1 p.1.ks.length p.2.2)) ∧ Rep w.heap.size w p.2.1 p.1 ∧ p.1.sz ≤ Rows.uptoBulk (D i) := fun i => by
          by_cases hil : i < l
          · obtain ⟨cs', hc, ht⟩ := hi i (by omega)
            rw [c24] at hc
            obtain ⟨t, A, k, hcs', hR, hsz⟩ := ih (hbD i hil) ht
            obtain ⟨_, _, hat⟩ := World.cells?_some hc
            subst hcs'
            exact ⟨(t, A, k), fun _ => ⟨⟨hat 0 (by omega), hat 1 (by omega), hat 2 (by omega), hat 3 (by omega)⟩, hR, hsz⟩⟩
          · exact ⟨(ex0, none, 0), fun h => absurd h hil⟩
        obtain ⟨f, hf2⟩ : ∃ f : Nat → Ex × Option Addr × Nat, ∀ i, i < l → (w.cell? ((a.add (i * 4)).add 0) = some (.int .i64 (f i).1.op) ∧ w.cell? ((a.add (i * 4)).add 1) = some (.int .i64 (f i).1.vr) ∧ w.cell? ((a.add (i * 4)).add 2) = some (.string (f i).1.nm) ∧ w.cell? ((a.add (i * 4)).add 3) = some (.slice (f i).2.1 (f i).1.ks.length (f i).2.2)) ∧ Rep w.heap.size w (f i).2.1 (f i).1 ∧ (f i).1.sz ≤ Rows.uptoBulk (D i) := ⟨fun i => (hx i).choose, fun i => (hx i).choose_spec⟩
        have hkd : ∀ i, i < l → kd ((List.range l).map fun i => (f i).1) i = (f i).1 := fun i hil => by
          simp [kd, List.getD, hil]
        refine ⟨.mk a0 a1 as' ((List.range l).map fun i => (f i).1), some a, c, ?_, ?_, ?_⟩
        · show _ = [Value.int .i64 a0, Value.int .i64 a1, Value.string as', Value.slice (some a) (((List.range l).map fun i => (f i).1)).length c]
          simp
        · rcases Nat.eq_zero_or_pos l with hl0 | hl0
          · subst hl0; exact Rep.leaf rfl
          · have q := (hf2 0 hl0).1.1
            obtain ⟨b', off, spot⟩ := a
            have hspot : spot = none := by
              have := World.cell?_spot q
              simp only [Addr.add] at this
              revert this
              cases spot <;> simp
            subst hspot
            have hlt : b' < w.heap.size := by
              have := cell_under q
              rw [adr_add, adr_add] at this
              exact this
            refine Rep.node hlt fun i hi' => ?_
            have hil : i < l := by
              have : (((List.range l).map fun i => (f i).1)).length = l := by simp
              exact this ▸ hi'
            obtain ⟨⟨p0, p1, ps, p2⟩, hR, _⟩ := hf2 i hil
            rw [adr_add, adr_add] at p0 p1 ps p2
            refine ⟨(f i).2.1, (f i).2.2, ?_, ?_, ?_, ?_, ?_⟩
            · show _ = some (Value.int .i64 (kd ((List.range l).map fun i => (f i).1) i).op)
              rw [hkd i hil]; exact p0
            · show _ = some (Value.int .i64 (kd ((List.range l).map fun i => (f i).1) i).vr)
              rw [hkd i hil]; exact p1
            · show _ = some (Value.string (kd ((List.range l).map fun i => (f i).1) i).nm)
              rw [hkd i hil]; exact ps
            · show _ = some (Value.slice _ (kd ((List.range l).map fun i => (f i).1) i).ks.length _)
              rw [hkd i hil]; exact p2
            · show Rep _ _ _ (kd ((List.range l).map fun i => (f i).1) i)
              rw [hkd i hil]; exact hR
        · show 1 + szL ((List.range l).map fun i => (f i).1) ≤ _
          have q := szL_bulk (fun i => (f i).1) D (List.range l) fun i hi' => (hf2 i (List.mem_range.1 hi')).2.2
          rw [hbx]
          simp only [Rows.uptoBulk]
          omega
set_option maxRecDepth 100000 in
/-- An argument that is a term. -/
theorem ex_open {r : Reach} {b0 : Nat} {v : Value} {d : DataW H} {p : List MemPlace} (hv : Value.okWide Try.prog w r b0 24 v) (h : DataW.Trod enc Try.prog w base spare held 24 v d p) :
    ∃ (t : Ex) (A : Option Addr) (c : Nat), v = exV t A c ∧ Rep w.heap.size w A t ∧ t.sz ≤ Rows.uptoBulk d := by
  obtain ⟨cs, rfl, hsz⟩ := okWide_struct Try.underlying24 hv
  obtain ⟨fuel, hf⟩ := h
  obtain ⟨t, A, c, ha, hR, hs⟩ := ex_cs _ (Nat.le_refl _) hf
  refine ⟨t, A, c, ?_, hR, hs⟩
  have : cs = exC t A c := by
    apply Array.toList_inj.1
    exact ha
  rw [this]
theorem upto_len : ∀ l : List (DataW H), (∀ d, d ∈ l → 1 ≤ Rows.uptoBulk d) → l.length ≤ Rows.uptoBulkAll l
  | [], _ => Nat.zero_le _
  | a :: r, h => by
    rw [Rows.uptoBulkAll, List.length_cons]
    have h1 := h a (List.mem_cons_self ..)
    have h2 := upto_len r (fun d hd => h d (List.mem_cons_of_mem _ hd))
    omega
set_option maxRecDepth 100000 in
/-- An argument that is a slice of variables. -/
theorem vars_open {r : Reach} {b0 : Nat} {v : Value} {d : DataW H} {p : List MemPlace} (hv : Value.okWide Try.prog w r b0 36 v) (h : DataW.Trod enc Try.prog w base spare held 36 v d p) :
    ∃ (l : List Vr) (A : Option Addr) (c : Nat), v = .slice A l.length c ∧ Vars w.heap.size w A l ∧ l.length ≤ Rows.uptoBulk d ∧ ∀ i, i < l.length → (va l i).nm.size ≤ maxLen := by
  obtain ⟨A, len, cap, rfl⟩ := okWide_slice Try.underlying36 hv
  obtain ⟨fuel, hf⟩ := h
  have c57 : Try.prog.cellsOf 57 = 4 := by kernel_rfl
  rcases open_slice Try.underlying36 hf with ⟨hcs, _⟩ | ⟨a, l, c, m, n', D, Pl, hcs, _, hl, hm, hmm, hy, hi⟩
  · simp [Value.cells] at hcs
    obtain ⟨rfl, rfl, rfl⟩ := hcs
    exact ⟨[], none, 0, rfl, fun h => absurd h (by simp), Nat.zero_le _, fun i hi => absurd hi (by simp)⟩
  · simp [Value.cells] at hcs
    obtain ⟨rfl, rfl, rfl⟩ := hcs
    have hd : d = .slice ((List.range len).map D) ((List.range (m - len)).map fun j => D (len + j)) := by
      have := congrArg Prod.fst hy; exact this
    have hlm : len ≤ m := by rw [hmm]; split <;> omega
    have hx : ∀ i, ∃ u : Vr, i < len → (w.cell? ((a.add (i * 4)).add 0) = some (.string u.nm) ∧ w.cell? ((a.add (i * 4)).add 1) = some (.bool u.b) ∧ w.cell? ((a.add (i * 4)).add 2) = some (.int .i64 u.lo) ∧ w.cell? ((a.add (i * 4)).add 3) = some (.int .i64 u.hi)) ∧ u.nm.size ≤ maxLen ∧ 1 ≤ Rows.uptoBulk (D i) := fun i => by
      by_cases hil : i < len
      · obtain ⟨cs', hc, ht⟩ := hi i (by omega)
        rw [c57] at hc
        obtain ⟨_, _, hat⟩ := World.cells?_some hc
        obtain ⟨ys, n2, _, he, hlen, hys, hf2⟩ := DataW.trod_struct Try.underlying57 ht
        have hl4 : cs'.length = 4 := hlen
        match cs', hl4, ys, hys with
        | [x0, x1, x2, x3], _, [y0, y1, y2, y3], _ =>
          have g0 := hf2 0 _ rfl
          have g1 := hf2 1 _ rfl
          have g2 := hf2 2 _ rfl
          have g3 := hf2 3 _ rfl
          simp only [List.getElem?_cons_zero, List.getElem?_cons_succ] at g0 g1 g2 g3
          obtain ⟨s0, k0, _, z0⟩ := DataW.trod_string Try.underlying9 g0
          obtain ⟨s1, k1, _⟩ := DataW.trod_bool Try.underlying4 g1
          obtain ⟨s2, k2, _, _⟩ := DataW.trod_int Try.underlying3 g2
          obtain ⟨s3, k3, _, _⟩ := DataW.trod_int Try.underlying3 g3
          cases k0; cases k1; cases k2; cases k3
          have hD : D i = .agg ([y0, y1, y2, y3].map (·.1)) := by
            have := congrArg Prod.fst he; exact this
          exact ⟨⟨s0, s1, s2, s3⟩, fun _ => ⟨⟨hat 0 (by omega), hat 1 (by omega), hat 2 (by omega), hat 3 (by omega)⟩, z0, by rw [hD]; simp only [Rows.uptoBulk]; omega⟩⟩
      · exact ⟨vr0, fun h => absurd h hil⟩
    obtain ⟨f, hf2⟩ : ∃ f : Nat → Vr, ∀ i, i < len → (w.cell? ((a.add (i * 4)).add 0) = some (.string (f i).nm) ∧ w.cell? ((a.add (i * 4)).add 1) = some (.bool (f i).b) ∧ w.cell? ((a.add (i * 4)).add 2) = some (.int .i64 (f i).lo) ∧ w.cell? ((a.add (i * 4)).add 3) = some (.int .i64 (f i).hi)) ∧ (f i).nm.size ≤ maxLen ∧ 1 ≤ Rows.uptoBulk (D i) := ⟨fun i => (hx i).choose, fun i hil => (hx i).choose_spec hil⟩
    have hva : ∀ i, i < len → va ((List.range len).map f) i = f i := fun i hil => by simp [va, List.getD, hil]
    have hll : ((List.range len).map f).length = len := by simp
    refine ⟨(List.range len).map f, some a, cap, by rw [hll], fun hp => ?_, ?_, fun i hi' => ?_⟩
    · rw [hll] at hp
      have q := (hf2 0 hp).1.1
      obtain ⟨b', off, spot⟩ := a
      have hspot : spot = none := by
        have := World.cell?_spot q
        simp only [Addr.add] at this
        revert this
        cases spot <;> simp
      subst hspot
      have hlt : b' < w.heap.size := by
        have := cell_under q
        rw [adr_add, adr_add] at this
        exact this
      refine ⟨b', off, rfl, hlt, fun i hi' => ?_⟩
      rw [hll] at hi'
      obtain ⟨⟨p0, p1, p2, p3⟩, _, _⟩ := hf2 i hi'
      rw [adr_add, adr_add] at p0 p1 p2 p3
      rw [hva i hi']
      exact ⟨p0, p1, p2, p3⟩
    · rw [hll, hd]
      have h1 := upto_len ((List.range len).map D) (fun d hd => by
        obtain ⟨i, hi', rfl⟩ := List.mem_map.1 hd
        exact (hf2 i (List.mem_range.1 hi')).2.2)
      rw [List.length_map, List.length_range] at h1
      simp only [Rows.uptoBulk]
      omega
    · rw [hll] at hi'
      rw [hva i hi']
      exact (hf2 i hi').2.1
end
set_option maxRecDepth 100000 in
/-- An argument that is a slice of ints. -/
theorem ints_open {H : Type} {enc : TypeId × Value → H} {w : World} {r : Reach} {b0 : Nat} {v : Value} {d : DataW H} {p : List MemPlace}
    (hv : Value.okWide Try.prog w r b0 45 v) (h : DataW.Trod enc Try.prog w 0 (fun _ => true) true 45 v d p) :
    ∃ (A : Option Addr) (c : Nat) (l : List Int), v = .slice A l.length c ∧ RI w w.heap.size A l ∧ l.length ≤ maxLen ∧ ∀ i, I64 (li l i) := by
  obtain ⟨A, len, cap, rfl⟩ := okWide_slice Try.underlying45 hv
  obtain ⟨fuel, hf⟩ := h
  rcases open_ints Try.underlying45 Try.underlying3 (by kernel_rfl) hf with ⟨hcs, _⟩ | ⟨x, l, c, zs, hcs, _, hl, hm, hz, _, hcell, hwz⟩
  · simp [Value.cells] at hcs
    obtain ⟨rfl, rfl, rfl⟩ := hcs
    exact ⟨none, 0, [], rfl, RI.nil, Nat.zero_le _, fun i => by unfold li I64; simp⟩
  · simp [Value.cells] at hcs
    obtain ⟨rfl, rfl, rfl⟩ := hcs
    have hz' : zs.length = cap := by simpa using hz
    have hzl : (zs.take len).length = len := by rw [List.length_take]; omega
    refine ⟨some x, cap, zs.take len, by rw [hzl], fun hp => ?_, by rw [hzl]; omega, fun i => ?_⟩
    · rw [hzl] at hp
      have hc0 := hcell 0 (by omega)
      have hlt := cell_under hc0
      obtain ⟨b, off, spot⟩ := x
      have hspot : spot = none := by simpa [Addr.add] using World.cell?_spot hc0
      subst hspot
      have ha : ∀ j, (⟨b, off, none⟩ : Addr).add j = ⟨b, off + j, none⟩ := fun j => by unfold Addr.add; split <;> simp_all
      refine ⟨b, off, rfl, by simpa [ha] using hlt, fun i hi => ?_⟩
      rw [hzl] at hi
      have := hcell i (by omega)
      rw [ha] at this
      rw [this]
      unfold li
      simp [List.getD, hi]
    · by_cases g : i < (zs.take len).length
      · have hm2 : li (zs.take len) i ∈ zs := List.mem_of_mem_take (li_mem g)
        have := hwz _ hm2
        unfold I64
        simpa [Lit.wf, IntKind.min, IntKind.max, IntKind.signed, IntKind.bits] using this
      · have : li (zs.take len) i = 0 := by unfold li; simp [List.getD, List.getElem?_eq_none (by omega : (zs.take len).length ≤ i)]
        rw [this]; unfold I64; omega
end Go.Proofs.Ytcdpjodnbegepaa
