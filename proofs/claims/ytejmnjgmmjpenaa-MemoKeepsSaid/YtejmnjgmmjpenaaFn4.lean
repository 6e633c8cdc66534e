/- Contract of Get of layer 11 (memo), over the translation. -/
import Derived.Test.YtejmnjgmmjpenaaFn3
namespace Go.Proofs.Ytejmnjgmmjpenaa
open Go.RowKit

theorem eq_arr (a b c x y z : Int) (n : Nat) (w : World) : (Op.equalIn (n + 2) 49 (.agg #[.int .i64 a, .int .i64 b, .int .i64 c]) (.agg #[.int .i64 x, .int .i64 y, .int .i64 z])).run Try.prog w = .ok (a == x && (b == y && c == z)) w := by
  obtain ⟨i, hi⟩ := Option.isSome_iff_exists.1 (by kernel_rfl : (Try.prog.info? 45).isSome = true)
  have hc : Try.prog.cellsOf 45 = 1 := by kernel_rfl
  have u45 := Try.underlying45
  rw [show n + 2 = n + 1 + 1 from rfl, run_equalIn_array w _ _ _ Try.underlying49 hi, hc]
  simp only [show List.range 3 = [0, 1, 2] from rfl, Op.eqItems]
  go_simp
  by_cases h1 : a = x <;> by_cases h2 : b = y <;> by_cases h3 : c = z <;> simp [h1, h2, h3]
theorem neq_key (o a b c o' a' b' c' : Int) (w : World) :
    (binOp .neq 51 (.agg #[.int .i64 o, .int .i64 a, .int .i64 b, .int .i64 c]) (.agg #[.int .i64 o', .int .i64 a', .int .i64 b', .int .i64 c'])).run Try.prog w
      = .ok (.bool (!(o == o' && (a == a' && (b == b' && c == c'))))) w := by
  have u3 := Try.underlying3
  have a3 := Try.isAgg3
  have z3 := Try.sizeOf3
  have a51 := Try.isAgg51
  have z51 := Try.sizeOf51
  have hS : Try.prog.underlying 51 = some (.struct (Try.prog.fieldsOf 51)) := by kernel_rfl
  have hp : Try.prog.stoodInHeld 51 = false := by kernel_rfl
  have harr : ∀ w, (Op.equalIn 9999 49 (.agg #[.int .i64 a, .int .i64 b, .int .i64 c]) (.agg #[.int .i64 a', .int .i64 b', .int .i64 c'])).run Try.prog w = .ok (a == a' && (b == b' && c == c')) w := fun w => eq_arr a b c a' b' c' 9997 w
  rw [run_neq_struct, show (10000 : Nat) = 9999 + 1 from rfl, run_equalIn_agg w 9999 51 _ _ hS hp]
  simp only [Program.fieldsOf, Try.underlying51]
  go_simp
  by_cases h1 : o = o' <;> by_cases h2 : a = a' <;> by_cases h3 : b = b' <;> by_cases h4 : c = c' <;> simp [h1, h2, h3, h4]

/-- What Get answers over T. -/
def getR (T : Nat → Option Rc) (op a b c : Int) (n : Nat) : Option Int :=
  match T (slotF op a b c n).toNat with
  | none => none
  | some x => if x.op = op ∧ x.a = a ∧ x.b = b ∧ x.c = c then some x.r else none
def ansV (r : Option Int) : Value := .tuple #[.int .i64 (r.getD 0), .bool r.isSome]
def hitN (r : Option Int) : Int := if r.isSome then 1 else 0
theorem MemoIn.count {w : World} {S : Nat → Prop} {bm n : Nat} {asked found : Int} {gp : Nat} {P : Nat → Option Nat} {F : Nat → Nat → Rc} (h : MemoIn w S bm n asked found gp P F) (a2 : Int) : MemoIn (w.setCell ⟨bm, 2, none⟩ (.int .i64 a2)) S bm n a2 found gp P F ∧ Frm S w (w.setCell ⟨bm, 2, none⟩ (.int .i64 a2)) := by
  refine ⟨⟨?_, h.ptrs.set_other h.ne _ _, fun i q hi hq => ?_, h.inj, h.ne, h.sm, h.sp⟩, (Frm.refl S w).set h.sm _ _⟩
  · have := h.head.set_ 2 (.int .i64 a2)
    simpa using this
  · obtain ⟨x1, x2, x3, x4⟩ := h.page i q hi hq
    exact ⟨x1.set_other (fun e => x3 e.symm) _ _, x2, x3, x4⟩
theorem MemoIn.hit {w : World} {S : Nat → Prop} {bm n : Nat} {asked found : Int} {gp : Nat} {P : Nat → Option Nat} {F : Nat → Nat → Rc} (h : MemoIn w S bm n asked found gp P F) (a2 : Int) : MemoIn (w.setCell ⟨bm, 3, none⟩ (.int .i64 a2)) S bm n asked a2 gp P F ∧ Frm S w (w.setCell ⟨bm, 3, none⟩ (.int .i64 a2)) := by
  refine ⟨⟨?_, h.ptrs.set_other h.ne _ _, fun i q hi hq => ?_, h.inj, h.ne, h.sm, h.sp⟩, (Frm.refl S w).set h.sm _ _⟩
  · have := h.head.set_ 3 (.int .i64 a2)
    simpa using this
  · obtain ⟨x1, x2, x3, x4⟩ := h.page i q hi hq
    exact ⟨x1.set_other (fun e => x3 e.symm) _ _, x2, x3, x4⟩

set_option maxRecDepth 100000 in
set_option maxHeartbeats 2000000 in
theorem memo_Get {w : World} {S : Nat → Prop} {bm n : Nat} {asked found : Int} {T : Nat → Option Rc} (h : Memo w S bm n asked found T) (op a b c : Int) (hn : 1 ≤ n) (hn2 : n ≤ 65536) (ha0 : 0 ≤ asked) (ha1 : asked ≤ 1000000) (hf0 : 0 ≤ found) (hf1 : found ≤ 1000000) :
    Calls Try.prog 18 #[.pointer (some ⟨bm, 0, none⟩), .int .i64 op, .int .i64 a, .int .i64 b, .int .i64 c] w fun e w' => e = .returned (ansV (getR T op a b c n)) ∧ Memo w' S bm n (asked + 1) (found + hitN (getR T op a b c n)) T ∧ Frm S w w' := by
  obtain ⟨gp, P, F, h, hT0⟩ := h
  have hsb := slotF_bd (op := op) (a := a) (b := b) (c := c) (n := n) (by omega)
  obtain ⟨s, hs⟩ := Int.eq_ofNat_of_zero_le hsb.1
  have hsn : s < n := by have := hsb.2; omega
  have hsT : (slotF op a b c n).toNat = s := by omega
  have hgr : getR T op a b c n = (match T s with | none => none | some x => if x.op = op ∧ x.a = a ∧ x.b = b ∧ x.c = c then some x.r else none) := by unfold getR; rw [hsT]
  obtain ⟨R, hR⟩ : ∃ R, getR T op a b c n = R := ⟨_, rfl⟩
  rw [hR] at hgr ⊢
  clear hR
  have HSl := Lib.hid hs
  obtain ⟨i, hi⟩ : ∃ i, s / 128 = i := ⟨_, rfl⟩
  obtain ⟨j, hj⟩ : ∃ j, s % 128 = j := ⟨_, rfl⟩
  have him' : i < (n - 1) / 128 + 1 := by omega
  have hTs : T s = (match P i with | none => none | some _ => if (F i j).kept then some (F i j) else none) := by rw [← hT0 s hsn, ← hi, ← hj]; rfl
  obtain ⟨m, hm⟩ : ∃ m, (n - 1) / 128 + 1 = m := ⟨_, rfl⟩
  have hq : (s : Int) / 128 = (i : Int) := by omega
  have hr : (s : Int) % 128 = (j : Int) := by omega
  have him : (i : Int) < (m : Int) := by omega
  have hj2 : (j : Int) < 128 := by omega
  have hjj : j < 128 := by omega
  have HQ := Lib.hid hq
  have HR := Lib.hid hr
  have HM := Lib.hid hm
  have HT0 := Lib.hid hT0
  have HTs := Lib.hid hTs
  have HG := Lib.hid hgr
  have hbl := h.head.lt
  have e2 := h.head.cell 2
  simp at e2
  have f2 := h.head.frozen 2
  have hc := h.count (asked + 1)
  have H := Lib.hid hc.1
  have hf1w := hc.2
  have hb1l : bm < (w.setCell ⟨bm, 2, none⟩ (.int .i64 (asked + 1))).heap.size := by simpa using hbl
  clear h hs hsb hi hj hq hr hm hsT hT0 hTs hgr hc
  go_enter Try.func18, Try.ntmps18
  go_wp2_with fail
  obtain ⟨w1, hw1⟩ : ∃ w1, w.setCell ⟨bm, 2, none⟩ (.int .i64 (asked + 1)) = w1 := ⟨_, rfl⟩
  have hsz1 : w.heap.size = w1.heap.size := by rw [← hw1]; simp
  rw [hw1] at H hf1w hb1l ⊢
  have hK := Blk.new w1 51 #[.int .i64 op, .int .i64 a, .int .i64 b, .int .i64 c]
  have hb1 : Below w1.heap.size w1 (w1.alloc (.cells #[.int .i64 op, .int .i64 a, .int .i64 b, .int .i64 c] 51)) := (Below.refl _ _).alloc (Nat.le_refl _) _
  rw [hsz1]
  clear hw1 hsz1 e2 f2 hbl
  refine still_tail 5 (by kernel_rfl) (by kernel_rfl) fun w2 hw2 => ?_
  simp only [List.take_succ_cons, List.take_zero, List.drop_succ_cons, List.drop_zero]
  have hK2 : Blk w2 w1.heap.size 51 #[.int .i64 op, .int .i64 a, .int .i64 b, .int .i64 c] := by rw [hw2]; exact hK
  have hb2 : Below w1.heap.size w1 w2 := by rw [hw2]; exact hb1.drew
  have H2 := Lib.hid (H.out.below hb2)
  have e0 := H2.out.head.cell 0
  have k0 := hK2.cell 0
  have k1 := hK2.cell 1
  have k2 := hK2.cell 2
  have k3 := hK2.cell 3
  simp at e0 k0 k1 k2 k3
  have HK := Lib.hid hK2
  clear hK hb1 hK2 hw2
  repeat still_step
  refine wpStill_nil ?_
  clear e0 k0 k1 k2 k3
  go_wp2_with fail
  refine (key_slot op a b c n w2 (by omega) (by omega)).mono ?_; rintro e w3 ⟨rfl, hw3⟩
  rw [HSl.out]
  have hb3 : Below w2.heap.size w2 w3 := by rw [hw3]; exact (Below.refl _ _).alloc (Nat.le_refl _) _
  have H3 := Lib.hid (H2.out.below hb3)
  have HK3 := Lib.hid (HK.out.below hb3 HK.out.lt)
  have hf13 : Frm S w w3 := hf1w.trans (Frm.of_below (hb2.trans (hb3.mono hb2.size)))
  clear hw3 hb3 HK H2 hf1w H
  have e1 := H3.out.head.cell 1
  rw [HM.out] at e1
  simp at e1
  have e2 := H3.out.ptrs.cell i
  rw [HM.out, ptr_at P (by omega)] at e2
  have hq := HQ.out
  have hr := HR.out
  cases hP : P i with
  | none =>
    rw [hP] at e2
    have e2' : w3.cell? ⟨gp, i, none⟩ = some (.pointer none) := e2
    have hTn : T s = none := by have := HTs.out; rw [hP] at this; exact this
    have HRv : Hid (R = none) := by show _ = _; rw [HG.out, hTn]
    clear e2 hTn hP
    go_wp2
    go_ret2
    exact ⟨by rw [HRv.out]; rfl, ⟨gp, P, F, by rw [HRv.out]; simpa [hitN] using H3.out, HT0.out⟩, hf13⟩
  | some q =>
    rw [hP] at e2
    have e2' : w3.cell? ⟨gp, i, none⟩ = some (.pointer (some ⟨q, 0, none⟩)) := e2
    have hTs2 : T s = (if (F i j).kept then some (F i j) else none) := by have := HTs.out; rw [hP] at this; exact this
    have hpg := (H3.out.page i q him' hP).1
    have p0 := hpg.cell (j * 6)
    have p1 := hpg.cell (j * 6 + 1)
    have p2 := hpg.cell (j * 6 + 2)
    have p3 := hpg.cell (j * 6 + 3)
    have p4 := hpg.cell (j * 6 + 4)
    have p5 := hpg.cell (j * 6 + 5)
    rw [show j * 6 = 6 * j + 0 by omega, page_at _ (by omega) (by omega)] at p0
    rw [show j * 6 = 6 * j by omega, page_at _ (by omega) (by omega)] at p1 p2 p3 p4 p5
    rw [show 6 * j + 0 = j * 6 by omega] at p0
    rw [show 6 * j = j * 6 by omega] at p1 p2 p3 p4 p5
    simp [Rc.cells] at p0 p1 p2 p3 p4 p5
    clear e2 hpg hP
    cases hk : (F i j).kept
    · rw [hk] at p5 hTs2
      have hTn : T s = none := by simpa using hTs2
      have HRv : Hid (R = none) := by show _ = _; rw [HG.out, hTn]
      clear hTs2 hTn hk
      go_wp2
      go_quiet (fail)
      go_wp2
      go_ret2
      exact ⟨by rw [HRv.out]; rfl, ⟨gp, P, F, by rw [HRv.out]; simpa [hitN] using H3.out.below (below_drewN (Below.refl _ _) _), HT0.out⟩, hf13.drewN _⟩
    · rw [hk] at p5 hTs2
      have hTn : T s = some (F i j) := by simpa using hTs2
      have hRv : R = (if (F i j).op = op ∧ (F i j).a = a ∧ (F i j).b = b ∧ (F i j).c = c then some (F i j).r else none) := by rw [HG.out, hTn]
      have k0 := HK3.out.cell 0
      have k1 := HK3.out.cell 1
      have k2 := HK3.out.cell 2
      have k3 := HK3.out.cell 3
      have e3 := H3.out.head.cell 3
      have f3 := H3.out.head.frozen 3
      simp at k0 k1 k2 k3 e3
      clear hTs2 hTn hk
      obtain ⟨⟨xo, xa, xb, xc, xr, xk⟩, hx⟩ : ∃ x, F i j = x := ⟨_, rfl⟩
      rw [hx] at p0 p1 p2 p3 p4 hRv
      simp only at p0 p1 p2 p3 p4 hRv
      have hng := neq_key xo xa xb xc op a b c
      have eg := Try.eqGuardType53
      clear hx
      by_cases hkey : xo = op ∧ xa = a ∧ xb = b ∧ xc = c
      · rw [if_pos hkey] at hRv
        have HRv := Lib.hid hRv
        clear hRv
        obtain ⟨rfl, rfl, rfl, rfl⟩ := hkey
        have hng2 : ∀ w, (binOp .neq 51 (.agg #[.int .i64 xo, .int .i64 xa, .int .i64 xb, .int .i64 xc]) (.agg #[.int .i64 xo, .int .i64 xa, .int .i64 xb, .int .i64 xc])).run Try.prog w = .ok (.bool false) w := fun w => by rw [hng]; simp
        clear hng
        go_wp2
        go_quiet (fail)
        go_wp2
        go_ret2
        have hh := (H3.out.below (below_drewN (Below.refl _ _) nq)).hit (found + 1)
        exact ⟨by rw [HRv.out]; rfl, ⟨gp, P, F, by rw [HRv.out]; simpa [hitN] using hh.1, HT0.out⟩, (hf13.drewN _).trans hh.2⟩
      · rw [if_neg hkey] at hRv
        have HRv := Lib.hid hRv
        clear hRv
        have hng2 : ∀ w, (binOp .neq 51 (.agg #[.int .i64 xo, .int .i64 xa, .int .i64 xb, .int .i64 xc]) (.agg #[.int .i64 op, .int .i64 a, .int .i64 b, .int .i64 c])).run Try.prog w = .ok (.bool true) w := fun w => by
          rw [hng]
          congr 2
          rw [Bool.not_eq_true']
          apply Bool.eq_false_iff.2
          intro e
          apply hkey
          simpa using e
        clear hng hkey
        go_wp2
        go_quiet (fail)
        go_wp2
        go_ret2
        exact ⟨by rw [HRv.out]; rfl, ⟨gp, P, F, by rw [HRv.out]; simpa [hitN] using H3.out.below (below_drewN (Below.refl _ _) _), HT0.out⟩, hf13.drewN _⟩
end Go.Proofs.Ytejmnjgmmjpenaa
