/- Contract of Clear of layer 11 (memo), over the translation. -/
import Derived.Test.YtmkpkedkdlgfmaaFn4
import Derived.Laws.IdiomCopy
import Derived.Lib.SlicesCompact
namespace Go.Proofs.Ytmkpkedkdlgfmaa
open Go.RowKit

theorem blk_setCells {q : Nat} {t : TypeId} : ∀ (vs : List Value) (o : Nat) (w : World) (cs : Array Value), Blk w q t cs → Blk (w.setCells q o vs) q t (Lib.lay cs o vs)
  | [], _, _, _, h => h
  | v :: r, o, w, _cs, h => blk_setCells r (o + 1) (w.setCell ⟨q, o, none⟩ v) _ (h.set_ o v)
theorem blk_setCells_other {q g : Nat} {t : TypeId} {cs : Array Value} (hq : q ≠ g) : ∀ (vs : List Value) (o : Nat) (w : World), Blk w g t cs → Blk (w.setCells q o vs) g t cs
  | [], _, _, h => h
  | _ :: r, o, _, h => blk_setCells_other hq r (o + 1) _ (h.set_other hq _ _)
theorem frm_setCells {S : Nat → Prop} {q : Nat} (hq : S q) : ∀ (vs : List Value) (o : Nat) (w : World), Frm S w (w.setCells q o vs)
  | [], _, w => Frm.refl S w
  | _ :: r, o, w => ((Frm.refl S w).set hq _ _).trans (frm_setCells hq r (o + 1) _)
theorem zero_cells : (Builtin.zeroCells (Value.agg #[.int .i64 0, .int .i64 0, .int .i64 0, .int .i64 0, .int .i64 0, .bool false]).cells 128).toList = (pageRow fun _ => Rc.zero).toList := by
  apply List.ext_getElem?
  intro j
  by_cases hj : j < 768
  · have e : j = 6 * (j / 6) + j % 6 := by omega
    have h2 : (pageRow fun _ => Rc.zero).toList[j]? = Rc.zero.cells[j % 6]? := by
      rw [Array.getElem?_toList]
      conv => lhs; rw [e]
      exact page_at _ (by omega) (by omega)
    rw [h2]
    have h4 : j % 6 = 0 ∨ j % 6 = 1 ∨ j % 6 = 2 ∨ j % 6 = 3 ∨ j % 6 = 4 ∨ j % 6 = 5 := by omega
    simp [Builtin.zeroCells, Value.cells, hj]
    rcases h4 with q | q | q | q | q | q <;> simp [q, Rc.cells, Rc.zero]
  · rw [List.getElem?_eq_none (by simp [Builtin.zeroCells, Value.cells]; omega), List.getElem?_eq_none (by rw [Array.length_toList, page_size]; omega)]
theorem page_one (f : Nat → Rc) : ∀ v ∈ (pageRow f).toList, v.oneCell' = true := by
  intro v hv
  unfold pageRow at hv
  simp only [List.mem_flatMap] at hv
  obtain ⟨r, _, hr⟩ := hv
  unfold Rc.cells at hr
  simp at hr
  rcases hr with h | h | h | h | h | h <;> rw [h] <;> rfl
theorem run_clear_page {w : World} {q : Nat} {f : Nat → Rc} (h : Blk w q 57 (pageRow f)) (Zl : List Value) (hZ : Zl = (pageRow fun _ => Rc.zero).toList) (ty : TypeId) :
    (Builtin.clear_ #[47] ty #[.slice (some ⟨q, 0, none⟩) 128 128]).run Try.prog w = .ok (.tuple #[]) (w.setCells q 0 Zl) := by
  have hst := run_storeCells_cells (P := Try.prog) q 0 Zl 0 w (fun j hj => by
    rw [hZ, Array.length_toList, page_size] at hj
    rw [show 0 + 0 + j = j by omega, h.cell]
    have e : j = 6 * (j / 6) + j % 6 := by omega
    rw [e, page_at f (by omega) (by omega)]
    have : j % 6 < (f (j / 6)).cells.length := by show j % 6 < 6; omega
    rw [List.getElem?_eq_getElem this]; rfl) (fun j _ => h.frozen _) (by rw [hZ]; exact page_one _)
  simp only [Nat.add_zero] at hst
  rw [hZ] at hst ⊢
  have hv : ∀ w, (zeroValue 55).run Try.prog w = .ok (Value.agg #[.int .i64 0, .int .i64 0, .int .i64 0, .int .i64 0, .int .i64 0, .bool false]) w := Try.zeroValue55
  rw [← zero_cells] at hst ⊢
  simp [Builtin.clear_, run_underlying Try.underlying47, hv, hst]
theorem lay_zero (f : Nat → Rc) (Zl : List Value) (hZ : Zl = (pageRow fun _ => Rc.zero).toList) : Lib.lay (pageRow f) 0 Zl = pageRow fun _ => Rc.zero := by
  apply Array.ext_getElem?
  intro j
  rw [Lib.lay_get? _ _ _ _ (by rw [hZ, Array.length_toList, page_size, page_size]; omega)]
  rw [hZ, Array.length_toList, page_size]
  by_cases hj : j < 768
  · rw [if_pos (by omega)]
    simp
  · rw [if_neg (by omega), Array.getElem?_eq_none (by rw [page_size]; omega), Array.getElem?_eq_none (by rw [page_size]; omega)]
def clr (F : Nat → Nat → Rc) (k : Nat) : Nat → Nat → Rc := fun i => if i < k then fun _ => Rc.zero else F i
theorem MemoIn.clear {w : World} {S : Nat → Prop} {bm n : Nat} {asked found : Int} {gp : Nat} {P : Nat → Option Nat} {F : Nat → Nat → Rc} {k q : Nat} (h : MemoIn w S bm n asked found gp P (clr F k)) (hk : k < (n - 1) / 128 + 1) (hP : P k = some q) (Zl : List Value) (hZ : Zl = (pageRow fun _ => Rc.zero).toList) :
    MemoIn (w.setCells q 0 Zl) S bm n asked found gp P (clr F (k + 1)) ∧ Frm S w (w.setCells q 0 Zl) := by
  obtain ⟨h1, h2, h3, h4⟩ := h.page k q hk hP
  refine ⟨⟨blk_setCells_other h3 _ _ _ h.head, blk_setCells_other h4 _ _ _ h.ptrs, fun i q' hi hq' => ?_, h.inj, h.ne, h.sm, h.sp⟩, frm_setCells h2 _ _ _⟩
  obtain ⟨g1, g2, g3, g4⟩ := h.page i q' hi hq'
  refine ⟨?_, g2, g3, g4⟩
  by_cases e : i = k
  · subst e
    rw [hP] at hq'
    cases hq'
    have := blk_setCells Zl 0 w _ h1
    rw [lay_zero _ _ hZ] at this
    unfold clr
    rw [if_pos (by omega)]
    exact this
  · have e2 : clr F (k + 1) i = clr F k i := by
      unfold clr
      by_cases c : i < k
      · rw [if_pos c, if_pos (by omega)]
      · rw [if_neg c, if_neg (by omega)]
    rw [e2]
    exact blk_setCells_other (fun e3 => e (h.inj i k q' hi hk hq' (by rw [← e3]; exact hP))) _ _ _ g1
theorem MemoIn.skip {w : World} {S : Nat → Prop} {bm n : Nat} {asked found : Int} {gp : Nat} {P : Nat → Option Nat} {F : Nat → Nat → Rc} {k : Nat} (h : MemoIn w S bm n asked found gp P (clr F k)) (hP : P k = none) : MemoIn w S bm n asked found gp P (clr F (k + 1)) := by
  refine ⟨h.head, h.ptrs, fun i q' hi hq' => ?_, h.inj, h.ne, h.sm, h.sp⟩
  have e : i ≠ k := fun e => by rw [e, hP] at hq'; cases hq'
  have e2 : clr F (k + 1) i = clr F k i := by
    unfold clr
    by_cases c : i < k
    · rw [if_pos c, if_pos (by omega)]
    · rw [if_neg c, if_neg (by omega)]
  rw [e2]
  exact h.page i q' hi hq'
theorem look_clear {P : Nat → Option Nat} {F : Nat → Nat → Rc} {m y : Nat} (hy : y / 128 < m) : lookF P (clr F m) y = none := by
  unfold lookF clr
  rw [if_pos hy]
  cases P (y / 128) with
  | none => rfl
  | some q => simp [Rc.zero]
set_option maxRecDepth 100000 in
set_option maxHeartbeats 2000000 in
theorem memo_Clear {w : World} {S : Nat → Prop} {bm n : Nat} {asked found : Int} {T : Nat → Option Rc} (h : Memo w S bm n asked found T) (hn : 1 ≤ n) (hn2 : n ≤ 65536) :
    Calls Try.prog 10 #[.pointer (some ⟨bm, 0, none⟩)] w fun e w' => e = .returned (.tuple #[]) ∧ Memo w' S bm n asked found (fun _ => none) ∧ Frm S w w' := by
  obtain ⟨gp, P, F, h, hT0⟩ := h
  obtain ⟨m, hm⟩ : ∃ m, (n - 1) / 128 + 1 = m := ⟨_, rfl⟩
  have hm2 : m ≤ 512 := by omega
  obtain ⟨Zl, hZ⟩ : ∃ Zl, Zl = (pageRow fun _ => Rc.zero).toList := ⟨_, rfl⟩
  have HZ := Lib.hid hZ
  have HM := Lib.hid hm
  have h0 : MemoIn w S bm n asked found gp P (clr F 0) := h
  have H := Lib.hid h0
  have e1 := h.head.cell 1
  rw [hm] at e1
  simp at e1
  clear h h0 hZ hm hT0
  go_enter Try.func10, Try.ntmps10
  go_wp2
  go_loopw [11] (fun i wr => ∃ k : Nat, k ≤ m ∧ i = .int .i64 k ∧ MemoIn wr S bm n asked found gp P (clr F k) ∧ Frm S w wr) (fun i _ => m - (intOf i).toNat)
  case atStart => exact ⟨0, Nat.zero_le _, rfl, H.out, Frm.refl S w⟩
  case round =>
    obtain ⟨k, hk, rfl, hI, hf⟩ := hrel
    have HI := Lib.hid hI
    have HF := Lib.hid hf
    clear hI hf
    by_cases hlt : k < m
    · have h1' : (k : Int) < (m : Int) := by omega
      have hkm : k < (n - 1) / 128 + 1 := by rw [HM.out]; exact hlt
      have e2 := HI.out.ptrs.cell k
      rw [ptr_at P hkm] at e2
      cases hP : P k with
      | none =>
        rw [hP] at e2
        have e2' : wr.cell? ⟨gp, k, none⟩ = some (.pointer none) := e2
        have HN := Lib.hid (HI.out.skip hP)
        clear e2 hP
        go_wp2
        go_roundw
        case rel => exact ⟨k + 1, by omega, by go_num, HN.out, HF.out⟩
        case measure => simp [intOf]; omega
      | some q =>
        rw [hP] at e2
        have e2' : wr.cell? ⟨gp, k, none⟩ = some (.pointer (some ⟨q, 0, none⟩)) := e2
        have hN := HI.out.clear hkm hP Zl HZ.out
        have HN := Lib.hid hN
        have hcl : ∀ ty, (Builtin.clear_ #[47] ty #[.slice (some ⟨q, 0, none⟩) 128 128]).run Try.prog wr = .ok (.tuple #[]) (wr.setCells q 0 Zl) := fun ty => run_clear_page (HI.out.page k q hkm hP).1 Zl HZ.out ty
        clear e2 hP hN
        go_wp2
        go_roundw
        case rel => exact ⟨k + 1, by omega, by go_num, HN.out.1, HF.out.trans HN.out.2⟩
        case measure => simp [intOf]; omega
    · obtain rfl : k = m := by omega
      go_wp2
      go_end0
      exact ⟨rfl, ⟨gp, P, clr F k, HI.out, fun x hx => look_clear (by have := HM.out; omega)⟩, HF.out⟩
end Go.Proofs.Ytmkpkedkdlgfmaa
