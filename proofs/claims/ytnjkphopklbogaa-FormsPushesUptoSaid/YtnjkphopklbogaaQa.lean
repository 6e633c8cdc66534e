/- Push of layer 32 (forms), the specification's. -/
import Derived.Test.YtnjkphopklbogaaMh
import Derived.Test.YtnjkphopklbogaaMc
namespace Go.Proofs.Ytnjkphopklbogaa
open Go.RowKit

set_option maxRecDepth 100000 in
set_option maxHeartbeats 8000000 in
theorem rf_PushT (t : Fx) (E A : Option Addr) (dd c : Nat) (b : Bool) (w : World) (hv : chkF t = 0) (hs : t.sz ≤ 10000000) (hR : Fm w.heap.size w t E A) :
    Calls Try.prog 22 #[fV t E dd A c, .bool b] w (FmP (pshF t b) w) := by
  obtain ⟨W0, hW0⟩ : ∃ W, (w.alloc (.cells (fC t E dd A c) 27)).alloc (.cells fZ 27) = W := ⟨_, rfl⟩
  have hP := PuW.mk' (dd := dd) (c := c) (Nat.le_refl _) hR
  rw [hW0] at hP
  have HCK : Hid (Calls Try.prog 10 #[fV t E dd A c] W0 fun e w' => e = .returned (.int .i64 (chkF t)) ∧ Below W0.heap.size W0 w') := Lib.hid (rf_fCheck t _ _ _ _ W0 (by omega) (hR.step hP.al))
  have HPU : Hid (∀ wx, Below W0.heap.size W0 wx → Calls Try.prog 47 #[fV t E dd A c, .bool b] wx (PuP w.heap.size (psF t b) wx)) := Lib.hid (fun wx hx => rf_push t.sz t (Nat.le_refl _) (ok_chk hv) w.heap.size E A dd c b wx (by have := hP.al.size; have := hx.size; omega) (hP.rp.under (hx.mono hP.al.size)))
  obtain ⟨y, hy⟩ : ∃ y, psF t b = y := ⟨_, rfl⟩
  rw [hy] at HPU
  rw [show pshF t b = y from (if_pos hv).trans hy]
  have HPW := Lib.hid hP
  have HWW := Lib.hid hW0
  have s0 := hP.b0.cell 0
  have s1 := hP.b0.cell 1
  have s2 := hP.b0.cell 2
  have s3 := hP.b0.cell 3
  have s4 := hP.b0.cell 4
  have s5 := hP.b0.cell 5
  have g0 : (chkF t != 0) = false := by simp [hv]
  generalize chkF t = z at *
  clear hy hv hP hW0 hR hs
  go_enter Try.func22, Try.ntmps22
  go_upto_region 1 with (fail)
  rw [HWW.out]
  go_wp2_with (first
    | (go_at_call 47; have _ := HB1; (with_reducible refine (HPU.out _ HB1.out).mono ?_); rintro e w2 ⟨E2, d2, A2, c2, rfl, hF2, hb2⟩; have zz := HPW.out.b1.below (bt HB1.out hb2) HPW.out.b1.lt; have z0 := zz.cell 0; have z1 := zz.cell 1; have z2 := zz.cell 2; have z3 := zz.cell 3; have z4 := zz.cell 4; have z5 := zz.cell 5; have q0 := zz.frozen 0; have q1 := zz.frozen 1; have q2 := zz.frozen 2; have q3 := zz.frozen 3; have q4 := zz.frozen 4; have q5 := zz.frozen 5; have zl := zz.lt; have HZZ := Lib.hid zz; have HF2 := Lib.hid hF2; have HB2 := Lib.hid hb2; clear zz hF2 hb2)
    | (go_at_call 10; (with_reducible refine HCK.out.mono ?_); rintro e w1 ⟨rfl, hb1⟩; have k1 := HPW.out.b0.below hb1 HPW.out.b0.lt; have r0 := k1.cell 0; have r1 := k1.cell 1; have r2 := k1.cell 2; have r3 := k1.cell 3; have r4 := k1.cell 4; have r5 := k1.cell 5; have HB1 := Lib.hid hb1; clear hb1 k1))
  refine bodyPost_ret (res_fx rfl _ _ (w.heap.size + 1) _ _ _ _ _ _ rfl (z6_ret _ _ _ _ _ _ HZZ.out)) rfl ?_
  have hz := HPW.out.sz
  have hs1 := HB1.out.size
  have hs2 := HB2.out.size
  have h := z6_keep (.int .i64 y.op) (.int .i64 y.e.op) (.int .i64 y.e.vr) (.string y.e.nm) (.slice E2 y.e.ks.length d2) (.slice A2 y.ks.length c2) (w := w) rfl (Nat.le_refl _) (HPW.out.al.trans ((bt HB1.out HB2.out).mono HPW.out.al.size)) (by omega : w.heap.size + 1 + 1 ≤ w1.heap.size) (by omega) HF2.out
  exact ⟨E2, d2, A2, c2, rfl, h.1.toR (fun x hx => Or.elim hx (fun q => Nat.lt_of_lt_of_le q h.2.size) (fun q => q.2)), h.2⟩

set_option maxRecDepth 100000 in
set_option maxHeartbeats 8000000 in
theorem rf_PushF (t : Fx) (E A : Option Addr) (dd c : Nat) (b : Bool) (w : World) (hv : chkF t ≠ 0) (hs : t.sz ≤ 10000000) (hR : Fm w.heap.size w t E A) :
    Calls Try.prog 22 #[fV t E dd A c, .bool b] w (FmP (pshF t b) w) := by
  obtain ⟨W0, hW0⟩ : ∃ W, (w.alloc (.cells (fC t E dd A c) 27)).alloc (.cells fZ 27) = W := ⟨_, rfl⟩
  have hP := PuW.mk' (dd := dd) (c := c) (Nat.le_refl _) hR
  rw [hW0] at hP
  have HCK : Hid (Calls Try.prog 10 #[fV t E dd A c] W0 fun e w' => e = .returned (.int .i64 (chkF t)) ∧ Below W0.heap.size W0 w') := Lib.hid (rf_fCheck t _ _ _ _ W0 (by omega) (hR.step hP.al))
  rw [show pshF t b = t from if_neg hv]
  have HPW := Lib.hid hP
  have HWW := Lib.hid hW0
  have s0 := hP.b0.cell 0
  have s1 := hP.b0.cell 1
  have s2 := hP.b0.cell 2
  have s3 := hP.b0.cell 3
  have s4 := hP.b0.cell 4
  have s5 := hP.b0.cell 5
  have g0 : (chkF t != 0) = true := by simp [hv]
  generalize chkF t = z at *
  clear hv hP hW0 hR hs
  go_enter Try.func22, Try.ntmps22
  go_upto_region 1 with (fail)
  rw [HWW.out]
  go_wp2_with (go_at_call 10; (with_reducible refine HCK.out.mono ?_); rintro e w1 ⟨rfl, hb1⟩; have k1 := HPW.out.b0.below hb1 HPW.out.b0.lt; have r0 := k1.cell 0; have r1 := k1.cell 1; have r2 := k1.cell 2; have r3 := k1.cell 3; have r4 := k1.cell 4; have r5 := k1.cell 5; have zz := HPW.out.b1.below hb1 HPW.out.b1.lt; have z0 := zz.cell 0; have z1 := zz.cell 1; have z2 := zz.cell 2; have z3 := zz.cell 3; have z4 := zz.cell 4; have z5 := zz.cell 5; have q0 := zz.frozen 0; have q1 := zz.frozen 1; have q2 := zz.frozen 2; have q3 := zz.frozen 3; have q4 := zz.frozen 4; have q5 := zz.frozen 5; have zl := zz.lt; have HZZ := Lib.hid zz; have HB1 := Lib.hid hb1; clear hb1 k1 zz)
  refine bodyPost_ret (res_fx rfl _ _ (w.heap.size + 1) _ _ _ _ _ _ rfl (z6_ret _ _ _ _ _ _ HZZ.out)) rfl ?_
  have hz := HPW.out.sz
  have hs1 := HB1.out.size
  have h := z6_keep (.int .i64 t.op) (.int .i64 t.e.op) (.int .i64 t.e.vr) (.string t.e.nm) (.slice E t.e.ks.length dd) (.slice A t.ks.length c) (w := w) rfl (Nat.le_refl _) (HPW.out.al.trans (HB1.out.mono HPW.out.al.size)) (by omega : w.heap.size + 1 + 1 ≤ w1.heap.size) (by omega) ((HPW.out.rp.under (HB1.out.mono (by omega))).toS.mono (fun x hx => (.inl hx : Ot w.heap.size w1.heap.size w1 x)))
  exact ⟨E, dd, A, c, rfl, h.1.toR (fun x hx => Or.elim hx (fun q => Nat.lt_of_lt_of_le q h.2.size) (fun q => q.2)), h.2⟩

theorem rf_Push (t : Fx) (E A : Option Addr) (dd c : Nat) (b : Bool) (w : World) (hs : t.sz ≤ 10000000) (hR : Fm w.heap.size w t E A) : Calls Try.prog 22 #[fV t E dd A c, .bool b] w (FmP (pshF t b) w) := by
  by_cases hv : chkF t = 0
  · exact rf_PushT t E A dd c b w hv hs hR
  · exact rf_PushF t E A dd c b w hv hs hR
end Go.Proofs.Ytnjkphopklbogaa
