/- The contract of the specification's join, of layer 30 (terms). -/
import Derived.Test.YtcdpjodnbegepaaJm
namespace Go.Proofs.Ytcdpjodnbegepaa
open Go.RowKit

/-- What lies when join begins: the node, the result, the type of a truth. -/
structure JoinW (t : Ex) (A : Option Addr) (c : Nat) (w W : World) : Prop where
  hb : Below w.heap.size w W
  hz : w.heap.size + 1 + 1 + 1 ≤ W.heap.size
  b0 : Blk W w.heap.size 24 #[.int .i64 t.op, .int .i64 t.vr, .string t.nm, .slice A t.ks.length c]
  b1 : Blk W (w.heap.size + 1) 39 #[.bool false, .int .i64 0, .int .i64 0]
  b2 : Blk W (w.heap.size + 1 + 1) 39 #[.bool true, .int .i64 0, .int .i64 0]
theorem JoinW.step {t : Ex} {A : Option Addr} {c : Nat} {w W W' : World} (h : JoinW t A c w W) (hb : Below W.heap.size W W') : JoinW t A c w W' :=
  ⟨bt h.hb hb, Nat.le_trans h.hz hb.size, h.b0.below hb h.b0.lt, h.b1.below hb h.b1.lt, h.b2.below hb h.b2.lt⟩
theorem joinW (t : Ex) (A : Option Addr) (c : Nat) (w : World) : JoinW t A c w (((w.alloc (.cells #[.int .i64 t.op, .int .i64 t.vr, .string t.nm, .slice A t.ks.length c] 24)).alloc (.cells #[.bool false, .int .i64 0, .int .i64 0] 39)).alloc (.cells #[.bool true, .int .i64 0, .int .i64 0] 39)) := by
  have blk : ∀ (w : World) (g : Nat) (ty : TypeId) (cs : Array Value), w.heap.size = g → Blk (w.alloc (.cells cs ty)) g ty cs := fun w g ty cs e => by rw [← e]; exact Blk.new w ty cs
  exact ⟨al (al (al (Below.refl _ _) _) _) _, by simp, ((blk _ _ _ _ rfl).alloc _).alloc _, (blk _ _ _ _ (by simp)).alloc _, blk _ _ _ _ (by simp)⟩
set_option maxRecDepth 100000 in
set_option maxHeartbeats 4000000 in
theorem rf_join_tr (t : Ex) (A : Option Addr) (c : Nat) (l : List Ty) (K : Option Addr) (ck : Nat) (w : World) (hT : Tys w.heap.size w K l) (ho : 5 ≤ t.op ∧ t.op ≤ 9) (hl : l.length ≤ 1000000000) :
    Calls Try.prog 68 #[exV t A c, .slice K l.length ck] w (TyE (tyOf t l) w) := by
  obtain ⟨W, hW⟩ : ∃ W, ((w.alloc (.cells #[.int .i64 t.op, .int .i64 t.vr, .string t.nm, .slice A t.ks.length c] 24)).alloc (.cells #[.bool false, .int .i64 0, .int .i64 0] 39)).alloc (.cells #[.bool true, .int .i64 0, .int .i64 0] 39) = W := ⟨_, rfl⟩
  have hJ := joinW t A c w
  rw [hW] at hJ
  have HJ := Lib.hid hJ
  have p0 : W.cell? ⟨w.heap.size, 0, none⟩ = some (.int .i64 t.op) := hJ.b0.cell 0
  have p3 : W.cell? ⟨w.heap.size, 3, none⟩ = some (.slice A t.ks.length c) := hJ.b0.cell 3
  have pl := hJ.b0.lt
  have r0 : W.cell? ⟨w.heap.size + 1, 0, none⟩ = some (.bool false) := hJ.b1.cell 0
  have r1 : W.cell? ⟨w.heap.size + 1, 1, none⟩ = some (.int .i64 0) := hJ.b1.cell 1
  have r2 : W.cell? ⟨w.heap.size + 1, 2, none⟩ = some (.int .i64 0) := hJ.b1.cell 2
  have r3 := hJ.b1.frozen 0
  have r4 := hJ.b1.frozen 1
  have r5 := hJ.b1.frozen 2
  have rl := hJ.b1.lt
  have y0 : W.cell? ⟨w.heap.size + 1 + 1, 0, none⟩ = some (.bool true) := hJ.b2.cell 0
  have y1 : W.cell? ⟨w.heap.size + 1 + 1, 1, none⟩ = some (.int .i64 0) := hJ.b2.cell 1
  have y2 : W.cell? ⟨w.heap.size + 1 + 1, 2, none⟩ = some (.int .i64 0) := hJ.b2.cell 2
  have yl := hJ.b2.lt
  have G1 := Lib.hid hJ.b1
  have HBW := Lib.hid hJ.hb
  have HWW := Lib.hid hW
  have HTW := Lib.hid (hT.step hJ.hb)
  rw [join_tr ho]
  have HC := Lib.hid (rf_truths l K ck W HTW.out hl)
  show Calls Try.prog 68 #[.agg #[.int .i64 t.op, .int .i64 t.vr, .string t.nm, .slice A t.ks.length c], .slice K l.length ck] w _
  generalize (trC l == l.length) = q at *
  generalize t.op = o at *
  generalize t.vr = v at *
  generalize t.nm = m at *
  generalize t.ks.length = n at *
  clear hT hJ hW HTW hl
  cases q
  · rw [if_neg (by simp)]
    rcases (by omega : o = 5 ∨ o = 6 ∨ o = 7 ∨ o = 8 ∨ o = 9) with rfl | rfl | rfl | rfl | rfl
    all_goals
      clear ho
      go_enter Try.func68, Try.ntmps68
      go_upto_region 3 with (go_at_call 999)
      rw [HWW.out]
      go_wp2_with (go_at_call 86; (with_reducible refine HC.out.mono ?_); rintro e w1 ⟨rfl, rfl⟩)
      refine bodyPost_ret (res_ty rfl _ _ (w.heap.size + 1) _ _ _ rfl (((G1.out.set_ 0 _).set_ 1 _).set_ 2 _)) rfl ⟨rfl, ?_⟩
      exact below_set (below_set (below_set HBW.out (by omega) _ _) (by omega) _ _) (by omega) _ _
  · rw [if_pos rfl]
    rcases (by omega : o = 5 ∨ o = 6 ∨ o = 7 ∨ o = 8 ∨ o = 9) with rfl | rfl | rfl | rfl | rfl
    all_goals
      clear ho
      go_enter Try.func68, Try.ntmps68
      go_upto_region 3 with (go_at_call 999)
      rw [HWW.out]
      go_wp2_with (go_at_call 86; (with_reducible refine HC.out.mono ?_); rintro e w1 ⟨rfl, rfl⟩)
      refine bodyPost_ret (res_ty rfl _ _ (w.heap.size + 1) _ _ _ rfl (((G1.out.set_ 0 _).set_ 1 _).set_ 2 _)) rfl ⟨rfl, ?_⟩
      exact below_set (below_set (below_set HBW.out (by omega) _ _) (by omega) _ _) (by omega) _ _
set_option maxRecDepth 100000 in
set_option maxHeartbeats 4000000 in
theorem rf_join_eq (t : Ex) (A : Option Addr) (c : Nat) (a0 a1 : Ty) (K : Option Addr) (ck : Nat) (w : World) (hT : Tys w.heap.size w K [a0, a1]) (ho : t.op = 10 ∨ t.op = 11) :
    Calls Try.prog 68 #[exV t A c, .slice K 2 ck] w (TyE (tyOf t [a0, a1]) w) := by
  obtain ⟨W, hW⟩ : ∃ W, ((w.alloc (.cells #[.int .i64 t.op, .int .i64 t.vr, .string t.nm, .slice A t.ks.length c] 24)).alloc (.cells #[.bool false, .int .i64 0, .int .i64 0] 39)).alloc (.cells #[.bool true, .int .i64 0, .int .i64 0] 39) = W := ⟨_, rfl⟩
  have hJ := joinW t A c w
  rw [hW] at hJ
  have HJ := Lib.hid hJ
  have p0 : W.cell? ⟨w.heap.size, 0, none⟩ = some (.int .i64 t.op) := hJ.b0.cell 0
  have p3 : W.cell? ⟨w.heap.size, 3, none⟩ = some (.slice A t.ks.length c) := hJ.b0.cell 3
  have pl := hJ.b0.lt
  have r0 : W.cell? ⟨w.heap.size + 1, 0, none⟩ = some (.bool false) := hJ.b1.cell 0
  have r1 : W.cell? ⟨w.heap.size + 1, 1, none⟩ = some (.int .i64 0) := hJ.b1.cell 1
  have r2 : W.cell? ⟨w.heap.size + 1, 2, none⟩ = some (.int .i64 0) := hJ.b1.cell 2
  have r3 := hJ.b1.frozen 0
  have r4 := hJ.b1.frozen 1
  have r5 := hJ.b1.frozen 2
  have rl := hJ.b1.lt
  have y0 : W.cell? ⟨w.heap.size + 1 + 1, 0, none⟩ = some (.bool true) := hJ.b2.cell 0
  have y1 : W.cell? ⟨w.heap.size + 1 + 1, 1, none⟩ = some (.int .i64 0) := hJ.b2.cell 1
  have y2 : W.cell? ⟨w.heap.size + 1 + 1, 2, none⟩ = some (.int .i64 0) := hJ.b2.cell 2
  have yl := hJ.b2.lt
  have G1 := Lib.hid hJ.b1
  have HBW := Lib.hid hJ.hb
  have HWW := Lib.hid hW
  have HTW := Lib.hid (hT.step hJ.hb)
  rw [join_eq ho]
  obtain ⟨R, hR⟩ : ∃ R : Ty × Int, (if (a0.b != a1.b) = true then (ty0, (13 : Int)) else (tyT, 0)) = R := ⟨_, rfl⟩
  rw [hR]
  obtain ⟨b, f, rfl, hbl, hc⟩ := HTW.out (by show 0 < 2; omega)
  obtain ⟨c0, c1, c2⟩ := hc 0 (by show 0 < 2; omega)
  obtain ⟨c3, c4, c5⟩ := hc 1 (by show 1 < 2; omega)
  simp only [Nat.zero_mul, Nat.one_mul, Nat.add_zero] at c0 c1 c2 c3 c4 c5
  have d0 : W.cell? ⟨b, f, none⟩ = some (.bool a0.b) := c0
  have d1 : W.cell? ⟨b, f + 1, none⟩ = some (.int .i64 a0.lo) := c1
  have d2 : W.cell? ⟨b, f + 2, none⟩ = some (.int .i64 a0.hi) := c2
  have d3 : W.cell? ⟨b, f + 3, none⟩ = some (.bool a1.b) := c3
  have d4 : W.cell? ⟨b, f + 3 + 1, none⟩ = some (.int .i64 a1.lo) := c4
  have d5 : W.cell? ⟨b, f + 3 + 2, none⟩ = some (.int .i64 a1.hi) := c5
  clear hc c0 c1 c2 c3 c4 c5
  show Calls Try.prog 68 #[.agg #[.int .i64 t.op, .int .i64 t.vr, .string t.nm, .slice A t.ks.length c], .slice (some ⟨b, f, none⟩) 2 ck] w _
  generalize t.op = o at *
  generalize t.vr = v at *
  generalize t.nm = m at *
  generalize t.ks.length = n at *
  obtain ⟨ab, al', ah⟩ := a0
  obtain ⟨bb, bl, bh⟩ := a1
  dsimp only at d0 d3
  clear hT hJ hW HTW d1 d2 d4 d5
  cases ab <;> cases bb
  all_goals
    rcases ho with rfl | rfl
    all_goals
      first | (obtain rfl : R = (ty0, 13) := hR.symm) | (obtain rfl : R = (tyT, 0) := hR.symm)
      clear hR
      go_enter Try.func68, Try.ntmps68
      go_upto_region 3 with (go_at_call 999)
      rw [HWW.out]
      go_wp2
      go_quiet (fail)
      go_wp2
      first
         | (refine bodyPost_ret (res_ty rfl _ _ (w.heap.size + 1) _ _ _ rfl (((G1.out.set_ 0 _).set_ 1 _).set_ 2 _)) rfl ⟨rfl, ?_⟩; exact below_set (below_set (below_set HBW.out (by omega) _ _) (by omega) _ _) (by omega) _ _)
         | (refine bodyPost_ret (res_ty rfl _ _ (w.heap.size + 1) _ _ _ rfl ((((G1.out.drewN _).set_ 0 _).set_ 1 _).set_ 2 _)) rfl ⟨rfl, ?_⟩; exact below_set (below_set (below_set (below_drewN HBW.out _) (by omega) _ _) (by omega) _ _) (by omega) _ _)
set_option maxRecDepth 100000 in
set_option maxHeartbeats 4000000 in
theorem rf_join_cmp (t : Ex) (A : Option Addr) (c : Nat) (a0 a1 : Ty) (K : Option Addr) (ck : Nat) (w : World) (hT : Tys w.heap.size w K [a0, a1]) (ho : t.op = 12 ∨ t.op = 13) :
    Calls Try.prog 68 #[exV t A c, .slice K 2 ck] w (TyE (tyOf t [a0, a1]) w) := by
  obtain ⟨W, hW⟩ : ∃ W, ((w.alloc (.cells #[.int .i64 t.op, .int .i64 t.vr, .string t.nm, .slice A t.ks.length c] 24)).alloc (.cells #[.bool false, .int .i64 0, .int .i64 0] 39)).alloc (.cells #[.bool true, .int .i64 0, .int .i64 0] 39) = W := ⟨_, rfl⟩
  have hJ := joinW t A c w
  rw [hW] at hJ
  have HJ := Lib.hid hJ
  have p0 : W.cell? ⟨w.heap.size, 0, none⟩ = some (.int .i64 t.op) := hJ.b0.cell 0
  have p3 : W.cell? ⟨w.heap.size, 3, none⟩ = some (.slice A t.ks.length c) := hJ.b0.cell 3
  have pl := hJ.b0.lt
  have r0 : W.cell? ⟨w.heap.size + 1, 0, none⟩ = some (.bool false) := hJ.b1.cell 0
  have r1 : W.cell? ⟨w.heap.size + 1, 1, none⟩ = some (.int .i64 0) := hJ.b1.cell 1
  have r2 : W.cell? ⟨w.heap.size + 1, 2, none⟩ = some (.int .i64 0) := hJ.b1.cell 2
  have r3 := hJ.b1.frozen 0
  have r4 := hJ.b1.frozen 1
  have r5 := hJ.b1.frozen 2
  have rl := hJ.b1.lt
  have y0 : W.cell? ⟨w.heap.size + 1 + 1, 0, none⟩ = some (.bool true) := hJ.b2.cell 0
  have y1 : W.cell? ⟨w.heap.size + 1 + 1, 1, none⟩ = some (.int .i64 0) := hJ.b2.cell 1
  have y2 : W.cell? ⟨w.heap.size + 1 + 1, 2, none⟩ = some (.int .i64 0) := hJ.b2.cell 2
  have yl := hJ.b2.lt
  have G1 := Lib.hid hJ.b1
  have HBW := Lib.hid hJ.hb
  have HWW := Lib.hid hW
  have HTW := Lib.hid (hT.step hJ.hb)
  rw [join_cmp ho]
  obtain ⟨R, hR⟩ : ∃ R : Ty × Int, (if (a0.b || a1.b) = true then (ty0, (13 : Int)) else (tyT, 0)) = R := ⟨_, rfl⟩
  rw [hR]
  obtain ⟨b, f, rfl, hbl, hc⟩ := HTW.out (by show 0 < 2; omega)
  obtain ⟨c0, c1, c2⟩ := hc 0 (by show 0 < 2; omega)
  obtain ⟨c3, c4, c5⟩ := hc 1 (by show 1 < 2; omega)
  simp only [Nat.zero_mul, Nat.one_mul, Nat.add_zero] at c0 c1 c2 c3 c4 c5
  have d0 : W.cell? ⟨b, f, none⟩ = some (.bool a0.b) := c0
  have d1 : W.cell? ⟨b, f + 1, none⟩ = some (.int .i64 a0.lo) := c1
  have d2 : W.cell? ⟨b, f + 2, none⟩ = some (.int .i64 a0.hi) := c2
  have d3 : W.cell? ⟨b, f + 3, none⟩ = some (.bool a1.b) := c3
  have d4 : W.cell? ⟨b, f + 3 + 1, none⟩ = some (.int .i64 a1.lo) := c4
  have d5 : W.cell? ⟨b, f + 3 + 2, none⟩ = some (.int .i64 a1.hi) := c5
  clear hc c0 c1 c2 c3 c4 c5
  show Calls Try.prog 68 #[.agg #[.int .i64 t.op, .int .i64 t.vr, .string t.nm, .slice A t.ks.length c], .slice (some ⟨b, f, none⟩) 2 ck] w _
  generalize t.op = o at *
  generalize t.vr = v at *
  generalize t.nm = m at *
  generalize t.ks.length = n at *
  obtain ⟨ab, al', ah⟩ := a0
  obtain ⟨bb, bl, bh⟩ := a1
  dsimp only at d0 d3
  clear hT hJ hW HTW d1 d2 d4 d5
  cases ab <;> cases bb
  all_goals
    rcases ho with rfl | rfl
    all_goals
      first | (obtain rfl : R = (ty0, 13) := hR.symm) | (obtain rfl : R = (tyT, 0) := hR.symm)
      clear hR
      go_enter Try.func68, Try.ntmps68
      go_upto_region 3 with (go_at_call 999)
      rw [HWW.out]
      go_wp2
      first
         | (refine bodyPost_ret (res_ty rfl _ _ (w.heap.size + 1) _ _ _ rfl (((G1.out.set_ 0 _).set_ 1 _).set_ 2 _)) rfl ⟨rfl, ?_⟩; exact below_set (below_set (below_set HBW.out (by omega) _ _) (by omega) _ _) (by omega) _ _)
         | (refine bodyPost_ret (res_ty rfl _ _ (w.heap.size + 1) _ _ _ rfl ((((G1.out.drewN _).set_ 0 _).set_ 1 _).set_ 2 _)) rfl ⟨rfl, ?_⟩; exact below_set (below_set (below_set (below_drewN HBW.out _) (by omega) _ _) (by omega) _ _) (by omega) _ _)
end Go.Proofs.Ytcdpjodnbegepaa
