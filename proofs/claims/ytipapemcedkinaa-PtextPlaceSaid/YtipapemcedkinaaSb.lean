/- The Builder's WriteString, walked; layer 7 (ptext). -/
import Derived.Shelf.Strings.Builder1
import Derived.Test.YtipapemcedkinaaP5
namespace Go.Proofs.Ytipapemcedkinaa
open Go.RowKit

theorem own_keep {w w' : World} {B e size n : Nat} {v : Value} {xs : List Value} (h : w.ownsRow B e size v n xs) (hb : Below w.heap.size w w') : w'.ownsRow B e size v n xs := by
  have hlt := fun g => World.ownsRow.lt h g
  obtain ⟨h1, h2⟩ := h
  refine ⟨h1, ?_⟩
  rcases h2 with h2 | ⟨g, cap, cur, hv, hg, hh, rest⟩
  · exact .inl h2
  · exact .inr ⟨g, cap, cur, hv, hg, (hb.block g (hlt g (by rw [hv]; rfl)).2).trans hh, rest⟩
theorem sizeB : (Try.prog.info? 53).map (·.size) = some 2 := by kernel_rfl
theorem liesB : liesAt Try.prog Try.prog.depth 53 (2 / Try.prog.cellsOf 53) 0 53 1 = true := by kernel_rfl
set_option maxRecDepth 100000 in
set_option maxHeartbeats 1000000 in
theorem b_used (b : Nat) (w : World) (h0 : w.cell? ⟨b, 0, none⟩ = some (.pointer (some ⟨b, 0, none⟩))) : Calls Try.prog 44 #[.pointer (some ⟨b, 0, none⟩)] w fun e w' => e = .returned (.tuple #[]) ∧ w' = w := by
  obtain ⟨j, hj, _⟩ := Option.map_eq_some_iff.1 sizeB
  go_enter Try.func44, Try.ntmps44
  go_wp2
  rw [Lib.run_neq_ptr_same w _ Try.underlying50 hj]
  go_wp2
  go_end0
  exact ⟨rfl, rfl⟩
set_option maxRecDepth 100000 in
set_option maxHeartbeats 1000000 in
theorem b_fresh (b : Nat) (w : World) (h0 : w.cell? ⟨b, 0, none⟩ = some (.pointer none)) (hsh : w.shape? b = some (53, 2)) (hfz : w.frozen? ⟨b, 0, none⟩ = false) :
    Calls Try.prog 44 #[.pointer (some ⟨b, 0, none⟩)] w fun e w' => e = .returned (.tuple #[]) ∧ w' = w.setCell ⟨b, 0, none⟩ (.pointer (some ⟨b, 0, none⟩)) := by
  obtain ⟨j, hj, hjs⟩ := Option.map_eq_some_iff.1 sizeB
  go_enter Try.func44, Try.ntmps44
  go_wp2
  rw [Lib.run_to_unsafe w ⟨b, 0, none⟩ Try.underlying50 Try.underlying85 hj (by rw [hjs]; decide) hsh (Nat.zero_lt_succ 1)]
  simp only [Result.andThen]
  rw [Oper.upon_value]
  go_wp2
  rw [run_callFunc_extern Try.func51 (by kernel_rfl) (by kernel_rfl) (by kernel_rfl) (e := Extern.AbiNoEscape.same) (by kernel_rfl)]
  rw [Lib.run_noEscape]
  simp only [Result.andThen]
  rw [Oper.upon_value]
  go_wp2
  rw [Lib.run_from_unsafe w ⟨b, 0, none⟩ Try.underlying85 Try.underlying50 hj hsh liesB]
  simp only [Result.andThen]
  rw [Oper.upon_value]
  go_wp2
  go_end0
  exact ⟨rfl, rfl⟩
/-- A Builder at b (a block of two cells, type 53) that holds the bytes bs; all of it from B on. -/
abbrev Bd (B b : Nat) (bs : List Value) (w : World) : Prop := Lib.IsBuilder 53 5 B b bs w
theorem b_check (B b : Nat) (bs : List Value) (w : World) (h : Bd B b bs w) :
    Calls Try.prog 44 #[.pointer (some ⟨b, 0, none⟩)] w fun e w' => e = .returned (.tuple #[]) ∧ Lib.BuilderAt 53 5 B b (.pointer (some ⟨b, 0, none⟩)) bs w' ∧ Below B w w' ∧ ∀ k, k ≠ b → w'.heap[k]? = w.heap[k]? := by
  rcases h with h | h
  · refine (b_fresh b w h.cell0 h.shape h.frozen0).mono ?_
    rintro e w' ⟨rfl, rfl⟩
    exact ⟨rfl, h.used _, (Below.refl B w).setCell (p := ⟨b, 0, none⟩) h.1 _, fun k hk => by simp [World.setCell, Array.getElem?_modify, Ne.symm hk]⟩
  · refine (b_used b w h.cell0).mono ?_
    rintro e w' ⟨rfl, rfl⟩
    exact ⟨rfl, h, Below.refl B _, fun _ _ => rfl⟩
/-- Every block of cells that is neither a Builder nor a row of bytes is as it was. -/
def Keep (w w' : World) : Prop := ∀ (k : Nat) (cs : Array Value) (t : TypeId) (fr : Nat × Nat), w.heap[k]? = some (Obj.cells cs t fr) → t ≠ 53 → t ≠ 5 → w'.heap[k]? = some (Obj.cells cs t fr)
theorem info5 : (Try.prog.info? 5).map (fun i => (i.zero, i.size, i.bytes)) = some (some (.int .u8 0), 1, 1) := by kernel_rfl
set_option maxRecDepth 100000 in
set_option maxHeartbeats 2000000 in
theorem b_Write (B b : Nat) (bs : List Value) (s : ByteArray) (w : World) (h : Bd B b bs w) (hlen : bs.length + s.size ≤ 1000000000) (hBw : B ≤ w.heap.size) :
    Calls Try.prog 34 #[.pointer (some ⟨b, 0, none⟩), .string s] w fun e w' => e = .returned (.tuple #[.int .i64 s.size, .nilIface]) ∧ Bd B b (bs ++ Lib.strCells s) w' ∧ Below B w w' ∧ Keep w w' := by
  obtain ⟨i0, hi, hz0, hz1, hz2⟩ := info_parts info5
  have HC := Lib.hid (b_check B b bs w h)
  have HBT : Hid (∃ cs, w.heap[b]? = some (.cells cs 53 (0, 0))) := Lib.hid (by rcases h with ⟨_, v, hk, _⟩ | ⟨_, v, hk, _⟩ <;> exact ⟨_, hk⟩)
  clear h
  go_enter Try.func34, Try.ntmps34
  go_upto_region 2 with (go_at_call 44; (with_reducible refine HC.out.mono ?_); rintro e w1 ⟨rfl, h1, hb1, hkp1⟩)
  obtain ⟨hB, v, hbk, hown, hne⟩ := h1
  have hs1 := hb1.size
  have HB1 := Lib.hid hb1
  have HKP1 := Lib.hid hkp1
  have HK1 := Lib.hid hbk
  have HO1 := Lib.hid hown
  have HN1 := Lib.hid hne
  have c1 : w1.cell? ⟨b, 1, none⟩ = some v := by rw [Lib.cell_of_heap hbk]; rfl
  obtain ⟨A, c, rfl⟩ := owns_slice hown
  clear hb1 hbk hown hne hkp1
  go_upto_region 3 with (at_builtin; refine Lib.wpList_append_own_string _ rfl (.tmp 12) (.tmp 13) 51 9 rfl B 5 i0 Try.underlying51 Try.underlying9 hi hz0 hz1 hz2 _ _ _ rfl HO1.out s rfl (by unfold maxLen; omega) (by omega) (by omega) ?_)
  intro v2 w2 hown2 hgrow _
  have hlt : b < w1.heap.size := by
    rcases Nat.lt_or_ge b w1.heap.size with h' | h'
    · exact h'
    · have := HK1.out; simp [Array.getElem?_eq_none h'] at this
  have hb2 : w2.heap[b]? = some (.cells #[.pointer (some ⟨b, 0, none⟩), .slice A bs.length c] 53 (0, 0)) := by
    rw [hgrow.block b hlt (fun e => HN1.out e.symm)]
    exact HK1.out
  have HG : Hid (Below B w w2) := Lib.hid (HB1.out.grown hgrow (by omega) (fun k hk => (HO1.out.lt k hk).1))
  have HO2 := Lib.hid hown2
  have HK2 := Lib.hid hb2
  have d1 : w2.cell? ⟨b, 1, none⟩ = some (.slice A bs.length c) := by rw [Lib.cell_of_heap hb2]; rfl
  have f1 : w2.frozen? ⟨b, 1, none⟩ = false := Lib.frozen_of_heap hb2 1
  obtain ⟨A2, c2, rfl⟩ := owns_slice hown2
  have HF : Hid (Bd B b (bs ++ Lib.strCells s) (w2.setCell ⟨b, 1, none⟩ (.slice A2 (bs.length + s.size) c2))) := Lib.hid (.inr (Lib.BuilderAt.put (T := 53) (e := 5) hB hb2 (bs' := bs ++ Lib.strCells s) (by simpa [Lib.strCells_length] using hown2) (by decide)))
  have HKP : Hid (Keep w (w2.setCell ⟨b, 1, none⟩ (.slice A2 (bs.length + s.size) c2))) := Lib.hid (fun k cs t fr hk h51 h5 => by
    have hkb : b ≠ k := by
      intro e
      obtain ⟨cs0, h0⟩ := HBT.out
      rw [e, hk] at h0
      injection h0 with h0
      injection h0 with _ h0 _
      exact h51 h0
    have h1 : w1.heap[k]? = some (.cells cs t fr) := (HKP1.out k (Ne.symm hkb)).trans hk
    have hne2 : some k ≠ (Value.slice A bs.length c).ownBlock := by
      intro e
      rcases HO1.out.2 with ⟨hv, _⟩ | ⟨g, cap, cur, hv, _, hg, _⟩
      · rw [hv] at e; simp [Value.ownBlock] at e
      · rw [hv] at e
        simp [Value.ownBlock] at e
        rw [← e, h1] at hg
        injection hg with hg
        injection hg with _ hg _
        exact h5 hg
    have h2 := hgrow.block k (Array.getElem?_eq_some_iff.1 h1).1 hne2
    rw [← h1, ← h2]
    simp [World.setCell, Array.getElem?_modify, hkb])
  have HE : Hid (Below B w (w2.setCell ⟨b, 1, none⟩ (.slice A2 (bs.length + s.size) c2))) := Lib.hid (HG.out.setCell (p := ⟨b, 1, none⟩) hB _)
  clear hown2 hgrow hb2
  go_wp2
  go_ret2
  exact ⟨rfl, HF.out, HE.out, HKP.out⟩
/-- The Builder's own block and its row stay while memory changes elsewhere. -/
theorem Bd.below {B b : Nat} {bs : List Value} {w w' : World} (h : Bd B b bs w) (hb : Below w.heap.size w w') : Bd B b bs w' := by
  rcases h with ⟨hB, v, hk, ho, hne⟩ | ⟨hB, v, hk, ho, hne⟩
  · exact .inl ⟨hB, v, (hb.block b (Array.getElem?_eq_some_iff.1 hk).1).trans hk, own_keep ho hb, hne⟩
  · exact .inr ⟨hB, v, (hb.block b (Array.getElem?_eq_some_iff.1 hk).1).trans hk, own_keep ho hb, hne⟩
theorem Bd.new (w : World) (B : Nat) (hB : B ≤ w.heap.size) : Bd B w.heap.size [] (w.alloc (.cells #[.pointer none, .slice none 0 0] 53)) :=
  .inl ⟨hB, .slice none 0 0, heap_alloc_new w _, World.ownsRow_nil _ _ _ _, by simp [Value.ownBlock]⟩
end Go.Proofs.Ytipapemcedkinaa
