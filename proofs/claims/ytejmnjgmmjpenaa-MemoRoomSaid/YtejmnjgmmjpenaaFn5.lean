/- Contract of Clear of layer 11 (memo), over the translation. -/
import Derived.Test.YtejmnjgmmjpenaaFn4
import Derived.Laws.IdiomCopy
import Derived.Lib.SlicesCompact
namespace Go.Proofs.Ytejmnjgmmjpenaa
open Go.RowKit

theorem blk_setCells {q : Nat} {t : TypeId} : ∀ (vs : List Value) (o : Nat) (w : World) (cs : Array Value), Blk w q t cs → Blk (w.setCells q o vs) q t (Lib.lay cs o vs)
  | [], _, _, _, h => h
  | v :: r, o, w, _cs, h => blk_setCells r (o + 1) (w.setCell ⟨q, o, none⟩ v) _ (h.set_ o v)
theorem blk_setCells_other {q g : Nat} {t : TypeId} {cs : Array Value} (hq : q ≠ g) : ∀ (vs : List Value) (o : Nat) (w : World), Blk w g t cs → Blk (w.setCells q o vs) g t cs
  | [], _, _, h => h
  | _ :: r, o, _, h => blk_setCells_other hq r (o + 1) _ (h.set_other hq _ _)
theorem frm_setCells {S : Nat → Prop} {q : Nat} (hq : S q) : ∀ (vs : List Value) (o : Nat) (w : World), Frm S w (w.setCells q o vs)
  | [], _, w => Frm.refl S w
  | _ :: r, o, w => ((Frm.refl S w).set hq _ _).trans (frm_setCells hq r (o + 1) _)
theorem clear_cells (m : Nat) : (Builtin.zeroCells (Value.pointer none).cells m).toList = (ptrRow (fun _ => none) m).toList := by
  unfold ptrRow
  apply List.ext_getElem?
  intro j
  by_cases hj : j < m
  · simp [Builtin.zeroCells, Value.cells, hj, Nat.mod_one, ptrV]
  · simp [Builtin.zeroCells, Value.cells, hj]
theorem ptr_size (P : Nat → Option Nat) (m : Nat) : (ptrRow P m).size = m := by unfold ptrRow; simp
theorem ptr_one (m : Nat) : ∀ v ∈ (ptrRow (fun _ => none) m).toList, v.oneCell' = true := by
  intro v hv
  unfold ptrRow at hv
  simp at hv
  obtain ⟨_, _, rfl⟩ := hv
  rfl
theorem run_clear_ptrs {w : World} {q m : Nat} {P : Nat → Option Nat} (h : Blk w q 52 (ptrRow P m)) (hm : 0 < m) (ty : TypeId) :
    (Builtin.clear_ #[41] ty #[.slice (some ⟨q, 0, none⟩) m m]).run Try.prog w = .ok (.tuple #[]) (w.setCells q 0 (ptrRow (fun _ => none) m).toList) := by
  have hst := run_storeCells_cells (P := Try.prog) q 0 (ptrRow (fun _ => none) m).toList 0 w (fun j hj => by
    rw [Array.length_toList, ptr_size] at hj
    rw [show 0 + 0 + j = j by omega, h.cell, ptr_at P hj]; rfl) (fun j _ => h.frozen _) (ptr_one m)
  simp only [Nat.add_zero] at hst
  have hv : ∀ w, (zeroValue 52).run Try.prog w = .ok (Value.pointer none) w := fun w => by kernel_rfl
  rw [← clear_cells] at hst ⊢
  obtain ⟨k, rfl⟩ : ∃ k, m = k + 1 := ⟨m - 1, by omega⟩
  simp [Builtin.clear_, run_underlying Try.underlying41, hv, hst]
theorem lay_nils (P : Nat → Option Nat) (m : Nat) : Lib.lay (ptrRow P m) 0 (ptrRow (fun _ => none) m).toList = ptrRow (fun _ => none) m := by
  apply Array.ext_getElem?
  intro j
  rw [Lib.lay_get? _ _ _ _ (by rw [Array.length_toList, ptr_size, ptr_size]; omega)]
  rw [Array.length_toList, ptr_size]
  by_cases hj : j < m
  · rw [if_pos (by omega)]
    simp
  · rw [if_neg (by omega), Array.getElem?_eq_none (by rw [ptr_size]; omega), Array.getElem?_eq_none (by rw [ptr_size]; omega)]
theorem MemoIn.clear {w : World} {S : Nat → Prop} {bm n : Nat} {asked found : Int} {gp : Nat} {P : Nat → Option Nat} {F : Nat → Nat → Rc} (h : MemoIn w S bm n asked found gp P F) :
    MemoIn (w.setCells gp 0 (ptrRow (fun _ => none) ((n - 1) / 128 + 1)).toList) S bm n asked found gp (fun _ => none) F ∧ Frm S w (w.setCells gp 0 (ptrRow (fun _ => none) ((n - 1) / 128 + 1)).toList) := by
  refine ⟨⟨blk_setCells_other (Ne.symm h.ne) _ _ _ h.head, ?_, fun i q' _ hq' => (by cases hq'), fun i j q _ _ hq => (by cases hq), h.ne, h.sm, h.sp⟩, frm_setCells h.sp _ _ _⟩
  have := blk_setCells (ptrRow (fun _ => none) ((n - 1) / 128 + 1)).toList 0 w _ h.ptrs
  rwa [lay_nils] at this
set_option maxRecDepth 100000 in
set_option maxHeartbeats 2000000 in
theorem memo_Clear {w : World} {S : Nat → Prop} {bm n : Nat} {asked found : Int} {T : Nat → Option Rc} (h : Memo w S bm n asked found T) (_hn : 1 ≤ n) (_hn2 : n ≤ 65536) :
    Calls Try.prog 10 #[.pointer (some ⟨bm, 0, none⟩)] w fun e w' => e = .returned (.tuple #[]) ∧ Memo w' S bm n asked found (fun _ => none) ∧ Frm S w w' := by
  obtain ⟨gp, P, F, h, hT0⟩ := h
  obtain ⟨m, hm⟩ : ∃ m, (n - 1) / 128 + 1 = m := ⟨_, rfl⟩
  have hC := h.clear
  have hp := h.ptrs
  have e1 := h.head.cell 1
  rw [hm] at e1 hC hp
  simp at e1
  have hcl : ∀ ty, (Builtin.clear_ #[41] ty #[.slice (some ⟨gp, 0, none⟩) m m]).run Try.prog w = .ok (.tuple #[]) (w.setCells gp 0 (ptrRow (fun _ => none) m).toList) := fun ty => run_clear_ptrs hp (by omega) ty
  have HC := Lib.hid hC
  generalize (ptrRow (fun _ => none) m).toList = Zl at *
  clear h hm hT0 hC hp
  go_enter Try.func10, Try.ntmps10
  go_wp2
  go_end0
  exact ⟨rfl, ⟨gp, fun _ => none, F, HC.out.1, fun x hx => rfl⟩, HC.out.2⟩
end Go.Proofs.Ytejmnjgmmjpenaa
