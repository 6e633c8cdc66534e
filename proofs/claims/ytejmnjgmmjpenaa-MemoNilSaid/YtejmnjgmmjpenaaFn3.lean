/- Contract of Put of layer 11 (memo), over the translation. -/
import Derived.Test.YtejmnjgmmjpenaaFn2
namespace Go.Proofs.Ytejmnjgmmjpenaa
open Go.RowKit

theorem zero57 (w : World) : (zeroValue 56).run Try.prog w = .ok (.agg (pageRow fun _ => Rc.zero)) w := by kernel_rfl
def put6 (w : World) (q o : Nat) (x : Rc) : World :=
  (((((w.setCell ⟨q, o, none⟩ (.int .i64 x.op)).setCell ⟨q, o + 1, none⟩ (.int .i64 x.a)).setCell ⟨q, o + 2, none⟩ (.int .i64 x.b)).setCell ⟨q, o + 3, none⟩ (.int .i64 x.c)).setCell ⟨q, o + 4, none⟩ (.int .i64 x.r)).setCell ⟨q, o + 5, none⟩ (.bool x.kept)
theorem put6_other {w : World} {g : Nat} {t : TypeId} {cs : Array Value} (h : Blk w g t cs) {q : Nat} (hq : q ≠ g) (o : Nat) (x : Rc) : Blk (put6 w q o x) g t cs :=
  (((((h.set_other hq _ _).set_other hq _ _).set_other hq _ _).set_other hq _ _).set_other hq _ _).set_other hq _ _
theorem put6_frm {S : Nat → Prop} {w : World} {q : Nat} (hq : S q) (o : Nat) (x : Rc) : Frm S w (put6 w q o x) :=
  ((((((Frm.refl S w).set hq _ _).set hq _ _).set hq _ _).set hq _ _).set hq _ _).set hq _ _
theorem put6_page {w : World} {q : Nat} {f : Nat → Rc} (h : Blk w q 56 (pageRow f)) {j : Nat} (hj : j < 128) (x : Rc) : Blk (put6 w q (j * 6) x) q 56 (pageRow (upd f j x)) := by
  have := (((((h.set_ (j * 6) (.int .i64 x.op)).set_ (j * 6 + 1) (.int .i64 x.a)).set_ (j * 6 + 2) (.int .i64 x.b)).set_ (j * 6 + 3) (.int .i64 x.c)).set_ (j * 6 + 4) (.int .i64 x.r)).set_ (j * 6 + 5) (.bool x.kept)
  rw [← page_upd f x hj]
  rw [show j * 6 = 6 * j by omega] at this ⊢
  exact this
theorem MemoIn.store {w : World} {S : Nat → Prop} {bm n : Nat} {asked found : Int} {gp : Nat} {P : Nat → Option Nat} {F : Nat → Nat → Rc} (h : MemoIn w S bm n asked found gp P F) {i q j : Nat} (hi : i < (n - 1) / 128 + 1) (hP : P i = some q) (hj : j < 128) (x : Rc) :
    MemoIn (put6 w q (j * 6) x) S bm n asked found gp P (fun k => if k = i then upd (F i) j x else F k) ∧ Frm S w (put6 w q (j * 6) x) := by
  obtain ⟨h1, h2, h3, h4⟩ := h.page i q hi hP
  refine ⟨⟨put6_other h.head h3 _ _, put6_other h.ptrs h4 _ _, fun k q' hk hq' => ?_, h.inj, h.ne, h.sm, h.sp⟩, put6_frm h2 _ _⟩
  obtain ⟨g1, g2, g3, g4⟩ := h.page k q' hk hq'
  refine ⟨?_, g2, g3, g4⟩
  by_cases e : k = i
  · subst e
    rw [hP] at hq'
    cases hq'
    rw [if_pos rfl]
    exact put6_page h1 hj x
  · rw [if_neg e]
    exact put6_other g1 (fun e2 => e (h.inj k i q' hk hi hq' (e2 ▸ hP))) _ _
/-- A table that keeps T. -/
def Memo (w : World) (S : Nat → Prop) (bm n : Nat) (asked found : Int) (T : Nat → Option Rc) : Prop := ∃ gp P F, MemoIn w S bm n asked found gp P F ∧ ∀ x, x < n → lookF P F x = T x
def putT (T : Nat → Option Rc) (s : Nat) (x : Rc) : Nat → Option Rc := fun y => if y = s then some x else T y
theorem look_store {P : Nat → Option Nat} {F : Nat → Nat → Rc} {s q : Nat} (hP : P (s / 128) = some q) {x : Rc} (hx : x.kept = true) (y : Nat) : lookF P (fun k => if k = s / 128 then upd (F (s / 128)) (s % 128) x else F k) y = putT (lookF P F) s x y := by
  unfold putT lookF
  by_cases e : y = s
  · subst e
    rw [if_pos rfl, hP]
    simp [upd, hx]
  · rw [if_neg e]
    cases hPy : P (y / 128) with
    | none => rfl
    | some q2 =>
      simp only
      by_cases e2 : y / 128 = s / 128
      · have e3 : y % 128 ≠ s % 128 := by omega
        rw [if_pos e2]
        unfold upd
        rw [if_neg e3, e2]
      · rw [if_neg e2]
theorem look_new {P : Nat → Option Nat} {F : Nat → Nat → Rc} {i q : Nat} (hP : P i = none) (y : Nat) : lookF (updP P i q) (fun k => if k = i then fun _ => Rc.zero else F k) y = lookF P F y := by
  unfold lookF updP
  by_cases e : y / 128 = i
  · subst e
    rw [if_pos rfl, hP]
    simp [Rc.zero]
  · simp only [if_neg e]

set_option maxRecDepth 100000 in
set_option maxHeartbeats 1000000 in
theorem memo_Put {w : World} {S : Nat → Prop} {bm n : Nat} {asked found : Int} {T : Nat → Option Rc} (h : Memo w S bm n asked found T) (op a b c r : Int) (hn : 1 ≤ n) (hn2 : n ≤ 65536) (hS : ∀ k, w.heap.size ≤ k → S k) :
    Calls Try.prog 17 #[.pointer (some ⟨bm, 0, none⟩), .int .i64 op, .int .i64 a, .int .i64 b, .int .i64 c, .int .i64 r] w fun e w' => e = .returned (.tuple #[]) ∧ Memo w' S bm n asked found (putT T (slotF op a b c n).toNat ⟨op, a, b, c, r, true⟩) ∧ Frm S w w' := by
  obtain ⟨gp, P, F, h, hT0⟩ := h
  have hsb := slotF_bd (op := op) (a := a) (b := b) (c := c) (n := n) (by omega)
  obtain ⟨s, hs⟩ := Int.eq_ofNat_of_zero_le hsb.1
  have hsn : s < n := by have := hsb.2; omega
  have hsT : (slotF op a b c n).toNat = s := by omega
  rw [hsT]
  have HSl := Lib.hid hs
  obtain ⟨i, hi⟩ : ∃ i, s / 128 = i := ⟨_, rfl⟩
  obtain ⟨j, hj⟩ : ∃ j, s % 128 = j := ⟨_, rfl⟩
  have him' : i < (n - 1) / 128 + 1 := by omega
  obtain ⟨m, hm⟩ : ∃ m, (n - 1) / 128 + 1 = m := ⟨_, rfl⟩
  have hq : (s : Int) / 128 = (i : Int) := by omega
  have hr : (s : Int).tmod 128 = (j : Int) := by rw [Int.tmod_eq_emod_of_nonneg (by omega)]; omega
  have him : (i : Int) < (m : Int) := by omega
  have hj2 : (j : Int) < 128 := by omega
  have HQ := Lib.hid hq
  have HR := Lib.hid hr
  have HM := Lib.hid hm
  have HI := Lib.hid hi
  have HJ := Lib.hid hj
  have HT0 := Lib.hid hT0
  have HSS := Lib.hid hS
  have hbl := h.head.lt
  have H := Lib.hid h
  clear h hs hsb hi hj hq hr hm hsT hT0 hS
  go_enter Try.func17, Try.ntmps17
  go_wp2_with fail
  have hK := Blk.new w 51 #[.int .i64 op, .int .i64 a, .int .i64 b, .int .i64 c]
  have hb1 : Below w.heap.size w (w.alloc (.cells #[.int .i64 op, .int .i64 a, .int .i64 b, .int .i64 c] 51)) := (Below.refl _ _).alloc (Nat.le_refl _) _
  refine still_tail 5 (by kernel_rfl) (by kernel_rfl) fun w2 hw2 => ?_
  simp only [List.take_succ_cons, List.take_zero, List.drop_succ_cons, List.drop_zero]
  have hK2 : Blk w2 w.heap.size 51 #[.int .i64 op, .int .i64 a, .int .i64 b, .int .i64 c] := by rw [hw2]; exact hK
  have hb2 : Below w.heap.size w w2 := by rw [hw2]; exact hb1.drew
  have H2 := Lib.hid (H.out.below hb2)
  have e0 := H2.out.head.cell 0
  have k0 := hK2.cell 0
  have k1 := hK2.cell 1
  have k2 := hK2.cell 2
  have k3 := hK2.cell 3
  simp at e0 k0 k1 k2 k3
  have HK := Lib.hid hK2
  clear hK hb1 hK2 hw2
  repeat still_step
  refine wpStill_nil ?_
  clear e0 k0 k1 k2 k3
  go_wp2_with fail
  refine (key_slot op a b c n w2 (by omega) (by omega)).mono ?_; rintro e w3 ⟨rfl, hw3⟩
  rw [HSl.out]
  have hb3 : Below w2.heap.size w2 w3 := by rw [hw3]; exact (Below.refl _ _).alloc (Nat.le_refl _) _
  have H3 := Lib.hid (H2.out.below hb3)
  have HK3 := Lib.hid (HK.out.below hb3 HK.out.lt)
  have hb13 : Below w.heap.size w w3 := hb2.trans (hb3.mono hb2.size)
  clear hw3 hb3 HK H2
  have e1 := H3.out.head.cell 1
  rw [HM.out] at e1
  simp at e1
  have e2 := H3.out.ptrs.cell i
  rw [HM.out, ptr_at P (by omega)] at e2
  have hq := HQ.out
  obtain ⟨Z, hzv, hZ⟩ : ∃ Z, (∀ w, (zeroValue 56).run Try.prog w = .ok (.agg Z) w) ∧ Z = pageRow fun _ => Rc.zero := ⟨_, zero57, rfl⟩
  have HZ := Lib.hid hZ
  clear hZ
  cases hP : P i with
  | none =>
    rw [hP] at e2
    have e2' : w3.cell? ⟨gp, i, none⟩ = some (.pointer none) := e2
    clear e2
    have hal : Below w3.heap.size w3 (w3.alloc (.cells Z 56)) := (Below.refl _ _).alloc (Nat.le_refl _) _
    have e1p : (w3.alloc (.cells Z 56)).cell? ⟨bm, 1, none⟩ = some (.slice (some ⟨gp, 0, none⟩) m m) := (hal.cell (p := ⟨bm, 1, none⟩) H3.out.head.lt).trans e1
    have e2p : (w3.alloc (.cells Z 56)).cell? ⟨gp, i, none⟩ = some (.pointer none) := (hal.cell (p := ⟨gp, i, none⟩) H3.out.ptrs.lt).trans e2'
    have e2f : (w3.alloc (.cells Z 56)).frozen? ⟨gp, i, none⟩ = false := (hal.frozen (p := ⟨gp, i, none⟩) H3.out.ptrs.lt).trans (H3.out.ptrs.frozen i)
    clear hal
    have HP := Lib.hid hP
    clear hP
    go_wp2
    refine still_tail 8 (by kernel_rfl) (by kernel_rfl) fun w4 hw4 => ?_
    simp only [List.take_succ_cons, List.take_zero, List.drop_succ_cons, List.drop_zero]
    obtain ⟨q, hq4⟩ : ∃ q, w3.heap.size = q := ⟨_, rfl⟩
    have hSq : S q := by rw [← hq4]; exact HSS.out _ hb13.size
    have H4 : Hid (MemoIn w4 S bm n asked found gp (updP P i q) (fun k => if k = i then fun _ => Rc.zero else F k)) := by
      show MemoIn _ _ _ _ _ _ _ _ _
      have g1 := H3.out.head.lt
      have g2 := H3.out.ptrs.lt
      have hA : Blk (w3.alloc (.cells Z 56)) q 56 (pageRow fun _ => Rc.zero) := by rw [← hq4, ← HZ.out]; exact Blk.new w3 56 Z
      refine ⟨?_, ?_, fun k q' hk hq' => ?_, fun k k2 q' hk hk2 hq' hq2 => ?_, H3.out.ne, H3.out.sm, H3.out.sp⟩
      · rw [hw4]; exact (H3.out.head.alloc _).set_other (fun e => H3.out.ne e.symm) _ _
      · rw [hw4]
        have := (H3.out.ptrs.alloc (.cells Z 56)).set_ i (.pointer (some ⟨w3.heap.size, 0, none⟩))
        rw [ptr_upd P _ him', hq4] at this
        rw [hq4]
        exact this
      · unfold updP at hq'
        by_cases e : k = i
        · rw [if_pos e] at hq' ⊢
          cases hq'
          exact ⟨by rw [hw4]; exact hA.set_other (by omega) _ _, hSq, by omega, by omega⟩
        · rw [if_neg e] at hq' ⊢
          obtain ⟨x1, x2, x3, x4⟩ := H3.out.page k q' hk hq'
          exact ⟨by rw [hw4]; exact (x1.alloc _).set_other (fun e => x4 e.symm) _ _, x2, x3, x4⟩
      · unfold updP at hq' hq2
        by_cases e : k = i
        · by_cases e2 : k2 = i
          · omega
          · rw [if_pos e] at hq'
            rw [if_neg e2] at hq2
            cases hq'
            have := (H3.out.page k2 q hk2 hq2).1.lt
            omega
        · rw [if_neg e] at hq'
          by_cases e2 : k2 = i
          · rw [if_pos e2] at hq2
            cases hq2
            have := (H3.out.page k q hk hq').1.lt
            omega
          · rw [if_neg e2] at hq2
            exact H3.out.inj k k2 q' hk hk2 hq' hq2
    have HK4 : Hid (Blk w4 w.heap.size 51 #[.int .i64 op, .int .i64 a, .int .i64 b, .int .i64 c]) := by
      show Blk _ _ _ _
      have hne : gp ≠ w.heap.size := by have := H.out.ptrs.lt; omega
      rw [hw4]; exact (HK3.out.alloc _).set_other hne _ _
    have hf14 : Frm S w w4 := by
      rw [hw4]
      exact (((Frm.of_below hb13).alloc _).set H3.out.sp _ _).trans (Frm.of_below ((Below.refl _ _).drew))
    have hP4 : updP P i q i = some q := by unfold updP; rw [if_pos rfl]
    have HT : Hid (∀ y, y < n → lookF (updP P i q) (fun k => if k = i then upd ((fun k => if k = i then fun _ => Rc.zero else F k) i) j ⟨op, a, b, c, r, true⟩ else (fun k => if k = i then fun _ => Rc.zero else F k) k) y = putT T s ⟨op, a, b, c, r, true⟩ y) := fun y hy => by
      have h1 := HI.out
      have h2 := HJ.out
      subst h1 h2
      rw [look_store (F := fun k => if k = s / 128 then fun _ => Rc.zero else F k) hP4 rfl]
      unfold putT
      rw [look_new HP.out, HT0.out y hy]
    rw [hq4]
    clear hw4 e1 e2' e1p e2p e2f hb13 HK3 H3 hq4
    have k0 := HK4.out.cell 0
    have k1 := HK4.out.cell 1
    have k2 := HK4.out.cell 2
    have k3 := HK4.out.cell 3
    simp at k0 k1 k2 k3
    have hr := HR.out
    repeat still_step
    refine wpStill_nil ?_
    clear k0 k1 k2 k3 hr
    have hpg := (H4.out.page i q him' hP4).1
    have p0 := hpg.cell (j * 6)
    have p1 := hpg.cell (j * 6 + 1)
    have p2 := hpg.cell (j * 6 + 2)
    have p3 := hpg.cell (j * 6 + 3)
    have p4 := hpg.cell (j * 6 + 4)
    have p5 := hpg.cell (j * 6 + 5)
    rw [show j * 6 = 6 * j + 0 by omega, page_at _ (by omega) (by omega)] at p0
    rw [show j * 6 = 6 * j by omega, page_at _ (by omega) (by omega)] at p1 p2 p3 p4 p5
    have f0 := hpg.frozen (j * 6)
    have f1 := hpg.frozen (j * 6 + 1)
    have f2 := hpg.frozen (j * 6 + 2)
    have f3 := hpg.frozen (j * 6 + 3)
    have f4 := hpg.frozen (j * 6 + 4)
    have f5 := hpg.frozen (j * 6 + 5)
    rw [show 6 * j + 0 = j * 6 by omega] at p0
    rw [show 6 * j = j * 6 by omega] at p1 p2 p3 p4 p5
    simp [Rc.cells] at p0 p1 p2 p3 p4 p5
    have hst := H4.out.store him' hP4 (show j < 128 by omega) ⟨op, a, b, c, r, true⟩
    have HST := Lib.hid hst
    clear hpg hst
    go_wp2
    go_end0
    exact ⟨rfl, ⟨gp, _, _, HST.out.1, HT.out⟩, hf14.trans HST.out.2⟩
  | some q =>
    rw [hP] at e2
    have e2' : w3.cell? ⟨gp, i, none⟩ = some (.pointer (some ⟨q, 0, none⟩)) := e2
    clear e2
    have HP := Lib.hid hP
    clear hP
    go_wp2
    refine still_tail 8 (by kernel_rfl) (by kernel_rfl) fun w4 hw4 => ?_
    simp only [List.take_succ_cons, List.take_zero, List.drop_succ_cons, List.drop_zero]
    have H4 : Hid (MemoIn w4 S bm n asked found gp P F) := by rw [hw4]; exact H3.out.below (Below.refl _ _).drew
    have HK4 : Hid (Blk w4 w.heap.size 51 #[.int .i64 op, .int .i64 a, .int .i64 b, .int .i64 c]) := by rw [hw4]; exact HK3.out
    have hf14 : Frm S w w4 := by rw [hw4]; exact Frm.of_below hb13.drew
    have hP4 := HP.out
    have HT : Hid (∀ y, y < n → lookF P (fun k => if k = i then upd (F i) j ⟨op, a, b, c, r, true⟩ else F k) y = putT T s ⟨op, a, b, c, r, true⟩ y) := fun y hy => by
      have h1 := HI.out
      have h2 := HJ.out
      subst h1 h2
      rw [look_store hP4 rfl]
      unfold putT
      rw [HT0.out y hy]
    clear hw4 e1 e2' hb13 HK3 H3
    have k0 := HK4.out.cell 0
    have k1 := HK4.out.cell 1
    have k2 := HK4.out.cell 2
    have k3 := HK4.out.cell 3
    simp at k0 k1 k2 k3
    have hr := HR.out
    repeat still_step
    refine wpStill_nil ?_
    clear k0 k1 k2 k3 hr
    have hpg := (H4.out.page i q him' hP4).1
    have p0 := hpg.cell (j * 6)
    have p1 := hpg.cell (j * 6 + 1)
    have p2 := hpg.cell (j * 6 + 2)
    have p3 := hpg.cell (j * 6 + 3)
    have p4 := hpg.cell (j * 6 + 4)
    have p5 := hpg.cell (j * 6 + 5)
    rw [show j * 6 = 6 * j + 0 by omega, page_at _ (by omega) (by omega)] at p0
    rw [show j * 6 = 6 * j by omega, page_at _ (by omega) (by omega)] at p1 p2 p3 p4 p5
    have f0 := hpg.frozen (j * 6)
    have f1 := hpg.frozen (j * 6 + 1)
    have f2 := hpg.frozen (j * 6 + 2)
    have f3 := hpg.frozen (j * 6 + 3)
    have f4 := hpg.frozen (j * 6 + 4)
    have f5 := hpg.frozen (j * 6 + 5)
    rw [show 6 * j + 0 = j * 6 by omega] at p0
    rw [show 6 * j = j * 6 by omega] at p1 p2 p3 p4 p5
    simp [Rc.cells] at p0 p1 p2 p3 p4 p5
    have hst := H4.out.store him' hP4 (show j < 128 by omega) ⟨op, a, b, c, r, true⟩
    have HST := Lib.hid hst
    clear hpg hst
    go_wp2
    go_end0
    exact ⟨rfl, ⟨gp, _, _, HST.out.1, HT.out⟩, hf14.trans HST.out.2⟩
end Go.Proofs.Ytejmnjgmmjpenaa
