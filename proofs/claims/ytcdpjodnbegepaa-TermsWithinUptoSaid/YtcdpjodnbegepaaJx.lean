/- The contract of the specification's join: sums, products, remainders, choices; layer 30 (terms). -/
import Derived.Test.YtcdpjodnbegepaaJw
namespace Go.Proofs.Ytcdpjodnbegepaa
open Go.RowKit

set_option maxRecDepth 100000 in
set_option maxHeartbeats 8000000 in
theorem rf_join_add (t : Ex) (A : Option Addr) (c : Nat) (a0 a1 : Ty) (K : Option Addr) (ck : Nat) (w : World) (hT : Tys w.heap.size w K [a0, a1]) (ho : t.op = 14) (k0 : TyK a0) (k1 : TyK a1) :
    Calls Try.prog 68 #[exV t A c, .slice K 2 ck] w (TyE (tyOf t [a0, a1]) w) := by
  obtain ⟨W, hW⟩ : ∃ W, ((w.alloc (.cells #[.int .i64 t.op, .int .i64 t.vr, .string t.nm, .slice A t.ks.length c] 24)).alloc (.cells #[.bool false, .int .i64 0, .int .i64 0] 39)).alloc (.cells #[.bool true, .int .i64 0, .int .i64 0] 39) = W := ⟨_, rfl⟩
  have hJ := joinW t A c w
  rw [hW] at hJ
  have HJ := Lib.hid hJ
  have p0 : W.cell? ⟨w.heap.size, 0, none⟩ = some (.int .i64 t.op) := hJ.b0.cell 0
  have p3 : W.cell? ⟨w.heap.size, 3, none⟩ = some (.slice A t.ks.length c) := hJ.b0.cell 3
  have pl := hJ.b0.lt
  have r0 : W.cell? ⟨w.heap.size + 1, 0, none⟩ = some (.bool false) := hJ.b1.cell 0
  have r1 : W.cell? ⟨w.heap.size + 1, 1, none⟩ = some (.int .i64 0) := hJ.b1.cell 1
  have r2 : W.cell? ⟨w.heap.size + 1, 2, none⟩ = some (.int .i64 0) := hJ.b1.cell 2
  have r3 := hJ.b1.frozen 0
  have r4 := hJ.b1.frozen 1
  have r5 := hJ.b1.frozen 2
  have rl := hJ.b1.lt
  have y0 : W.cell? ⟨w.heap.size + 1 + 1, 0, none⟩ = some (.bool true) := hJ.b2.cell 0
  have y1 : W.cell? ⟨w.heap.size + 1 + 1, 1, none⟩ = some (.int .i64 0) := hJ.b2.cell 1
  have y2 : W.cell? ⟨w.heap.size + 1 + 1, 2, none⟩ = some (.int .i64 0) := hJ.b2.cell 2
  have yl := hJ.b2.lt
  have G1 := Lib.hid hJ.b1
  have HBW := Lib.hid hJ.hb
  have HWW := Lib.hid hW
  rw [join_add ho k0 k1]
  obtain ⟨b, f, rfl, hbl, hc⟩ := hT (by show 0 < 2; omega)
  obtain ⟨c0, c1, c2⟩ := hc 0 (by show 0 < 2; omega)
  obtain ⟨c3, c4, c5⟩ := hc 1 (by show 1 < 2; omega)
  simp only [Nat.zero_mul, Nat.one_mul, Nat.add_zero] at c0 c1 c2 c3 c4 c5
  have d0 : W.cell? ⟨b, f, none⟩ = some (.bool a0.b) := (hJ.hb.cell (p := ⟨b, f, none⟩) hbl).trans c0
  have d1 : W.cell? ⟨b, f + 1, none⟩ = some (.int .i64 a0.lo) := (hJ.hb.cell (p := ⟨b, f + 1, none⟩) hbl).trans c1
  have d2 : W.cell? ⟨b, f + 2, none⟩ = some (.int .i64 a0.hi) := (hJ.hb.cell (p := ⟨b, f + 2, none⟩) hbl).trans c2
  have d3 : W.cell? ⟨b, f + 3, none⟩ = some (.bool a1.b) := (hJ.hb.cell (p := ⟨b, f + 3, none⟩) hbl).trans c3
  have d4 : W.cell? ⟨b, f + 3 + 1, none⟩ = some (.int .i64 a1.lo) := (hJ.hb.cell (p := ⟨b, f + 3 + 1, none⟩) hbl).trans c4
  have d5 : W.cell? ⟨b, f + 3 + 2, none⟩ = some (.int .i64 a1.hi) := (hJ.hb.cell (p := ⟨b, f + 3 + 2, none⟩) hbl).trans c5
  have hbl2 : b < W.heap.size := by have := hJ.hz; omega
  have hne : ¬ b = w.heap.size + 1 := by omega
  clear hc c0 c1 c2 c3 c4 c5
  show Calls Try.prog 68 #[.agg #[.int .i64 t.op, .int .i64 t.vr, .string t.nm, .slice A t.ks.length c], .slice (some ⟨b, f, none⟩) 2 ck] w _
  rw [ho] at p0 hW HWW ⊢
  have HWX := Lib.hid hW
  generalize t.vr = v at *
  generalize t.nm = m at *
  obtain ⟨ab, al1, ah⟩ := a0
  obtain ⟨bb, bl, bh⟩ := a1
  unfold TyK at k0 k1
  dsimp only at d0 d1 d2 d3 d4 d5 k0 k1
  have HS := Lib.hid (fun w => rf_numbers (al1 + bl) (ah + bh) w)
  have g1 : IntKind.i64.wrap (al1 + bl) = al1 + bl := by rw [IntKind.wrap_i64]; omega
  have g2 : IntKind.i64.wrap (ah + bh) = ah + bh := by rw [IntKind.wrap_i64]; omega
  have g3 : wrap64 (al1 + bl) = al1 + bl := by unfold wrap64; omega
  have g4 : wrap64 (ah + bh) = ah + bh := by unfold wrap64; omega
  clear hT hJ hW HWW k0 k1 ho
  cases ab <;> cases bb
  · show Calls Try.prog 68 _ w (TyE (spanS (al1 + bl) (ah + bh)) w)
    obtain ⟨R, hR⟩ : ∃ R, spanS (al1 + bl) (ah + bh) = R := ⟨_, rfl⟩
    rw [hR] at HS ⊢
    clear hR
    obtain ⟨⟨Rb, Rl, Rh⟩, Re⟩ := R
    go_enter Try.func68, Try.ntmps68
    go_upto_region 3 with (go_at_call 999)
    rw [HWX.out]
    go_wp2
    go_region_held3 (fun wx => wx.cell? ⟨b, f + 1, none⟩ = some (.int .i64 al1) ∧ wx.cell? ⟨b, f + 3 + 1, none⟩ = some (.int .i64 bl) ∧ wx.cell? ⟨b, f + 2, none⟩ = some (.int .i64 ah) ∧ wx.cell? ⟨b, f + 3 + 2, none⟩ = some (.int .i64 bh)) (first | with_reducible exact ⟨e0, e1, e2, e3⟩ | with_reducible exact ⟨(cell3 hne _ _ _ _).trans e0, (cell3 hne _ _ _ _).trans e1, (cell3 hne _ _ _ _).trans e2, (cell3 hne _ _ _ _).trans e3⟩ | exact ⟨d1, d4, d2, d5⟩ | go_keep) (first
      | (go_at_call 67; (with_reducible refine (HS.out _).mono ?_); rintro e w2 ⟨rfl, hb2⟩; have hbx : Below W.heap.size W w2 := Below.trans ((Below.refl _ _).drew) hb2; have e0 := (hbx.cell (p := ⟨b, f + 1, none⟩) hbl2).trans d1; have e1 := (hbx.cell (p := ⟨b, f + 3 + 1, none⟩) hbl2).trans d4; have e2 := (hbx.cell (p := ⟨b, f + 2, none⟩) hbl2).trans d2; have e3 := (hbx.cell (p := ⟨b, f + 3 + 2, none⟩) hbl2).trans d5; have g2 := (HJ.out.step hbx).b1; have r0 : w2.cell? ⟨w.heap.size + 1, 0, none⟩ = _ := g2.cell 0; have r1 : w2.cell? ⟨w.heap.size + 1, 1, none⟩ = _ := g2.cell 1; have r2 : w2.cell? ⟨w.heap.size + 1, 2, none⟩ = _ := g2.cell 2; have r3 := g2.frozen 0; have r4 := g2.frozen 1; have r5 := g2.frozen 2; have rl := g2.lt; have G2 := Lib.hid g2; have HB2 := Lib.hid (bt HBW.out hbx); clear hb2 hbx g2))
    all_goals
      go_wp2
      refine bodyPost_ret (res_ty rfl _ _ (w.heap.size + 1) _ _ _ rfl (((G2.out.set_ 0 _).set_ 1 _).set_ 2 _)) rfl ⟨rfl, ?_⟩
      exact below_set (below_set (below_set HB2.out (by omega) _ _) (by omega) _ _) (by omega) _ _
  all_goals
    clear g1 g2 g3 g4 HS
    show Calls Try.prog 68 _ w (TyE (ty0, 13) w)
    go_enter Try.func68, Try.ntmps68
    go_upto_region 3 with (go_at_call 999)
    rw [HWX.out]
    go_wp2
    refine bodyPost_ret (res_ty rfl _ _ (w.heap.size + 1) _ _ _ rfl (((G1.out.set_ 0 _).set_ 1 _).set_ 2 _)) rfl ⟨rfl, ?_⟩
    exact below_set (below_set (below_set HBW.out (by omega) _ _) (by omega) _ _) (by omega) _ _
set_option maxRecDepth 100000 in
set_option maxHeartbeats 8000000 in
theorem rf_join_sub (t : Ex) (A : Option Addr) (c : Nat) (a0 a1 : Ty) (K : Option Addr) (ck : Nat) (w : World) (hT : Tys w.heap.size w K [a0, a1]) (ho : t.op = 15) (k0 : TyK a0) (k1 : TyK a1) :
    Calls Try.prog 68 #[exV t A c, .slice K 2 ck] w (TyE (tyOf t [a0, a1]) w) := by
  obtain ⟨W, hW⟩ : ∃ W, ((w.alloc (.cells #[.int .i64 t.op, .int .i64 t.vr, .string t.nm, .slice A t.ks.length c] 24)).alloc (.cells #[.bool false, .int .i64 0, .int .i64 0] 39)).alloc (.cells #[.bool true, .int .i64 0, .int .i64 0] 39) = W := ⟨_, rfl⟩
  have hJ := joinW t A c w
  rw [hW] at hJ
  have HJ := Lib.hid hJ
  have p0 : W.cell? ⟨w.heap.size, 0, none⟩ = some (.int .i64 t.op) := hJ.b0.cell 0
  have p3 : W.cell? ⟨w.heap.size, 3, none⟩ = some (.slice A t.ks.length c) := hJ.b0.cell 3
  have pl := hJ.b0.lt
  have r0 : W.cell? ⟨w.heap.size + 1, 0, none⟩ = some (.bool false) := hJ.b1.cell 0
  have r1 : W.cell? ⟨w.heap.size + 1, 1, none⟩ = some (.int .i64 0) := hJ.b1.cell 1
  have r2 : W.cell? ⟨w.heap.size + 1, 2, none⟩ = some (.int .i64 0) := hJ.b1.cell 2
  have r3 := hJ.b1.frozen 0
  have r4 := hJ.b1.frozen 1
  have r5 := hJ.b1.frozen 2
  have rl := hJ.b1.lt
  have y0 : W.cell? ⟨w.heap.size + 1 + 1, 0, none⟩ = some (.bool true) := hJ.b2.cell 0
  have y1 : W.cell? ⟨w.heap.size + 1 + 1, 1, none⟩ = some (.int .i64 0) := hJ.b2.cell 1
  have y2 : W.cell? ⟨w.heap.size + 1 + 1, 2, none⟩ = some (.int .i64 0) := hJ.b2.cell 2
  have yl := hJ.b2.lt
  have G1 := Lib.hid hJ.b1
  have HBW := Lib.hid hJ.hb
  have HWW := Lib.hid hW
  rw [join_sub ho k0 k1]
  obtain ⟨b, f, rfl, hbl, hc⟩ := hT (by show 0 < 2; omega)
  obtain ⟨c0, c1, c2⟩ := hc 0 (by show 0 < 2; omega)
  obtain ⟨c3, c4, c5⟩ := hc 1 (by show 1 < 2; omega)
  simp only [Nat.zero_mul, Nat.one_mul, Nat.add_zero] at c0 c1 c2 c3 c4 c5
  have d0 : W.cell? ⟨b, f, none⟩ = some (.bool a0.b) := (hJ.hb.cell (p := ⟨b, f, none⟩) hbl).trans c0
  have d1 : W.cell? ⟨b, f + 1, none⟩ = some (.int .i64 a0.lo) := (hJ.hb.cell (p := ⟨b, f + 1, none⟩) hbl).trans c1
  have d2 : W.cell? ⟨b, f + 2, none⟩ = some (.int .i64 a0.hi) := (hJ.hb.cell (p := ⟨b, f + 2, none⟩) hbl).trans c2
  have d3 : W.cell? ⟨b, f + 3, none⟩ = some (.bool a1.b) := (hJ.hb.cell (p := ⟨b, f + 3, none⟩) hbl).trans c3
  have d4 : W.cell? ⟨b, f + 3 + 1, none⟩ = some (.int .i64 a1.lo) := (hJ.hb.cell (p := ⟨b, f + 3 + 1, none⟩) hbl).trans c4
  have d5 : W.cell? ⟨b, f + 3 + 2, none⟩ = some (.int .i64 a1.hi) := (hJ.hb.cell (p := ⟨b, f + 3 + 2, none⟩) hbl).trans c5
  have hbl2 : b < W.heap.size := by have := hJ.hz; omega
  have hne : ¬ b = w.heap.size + 1 := by omega
  clear hc c0 c1 c2 c3 c4 c5
  show Calls Try.prog 68 #[.agg #[.int .i64 t.op, .int .i64 t.vr, .string t.nm, .slice A t.ks.length c], .slice (some ⟨b, f, none⟩) 2 ck] w _
  rw [ho] at p0 hW HWW ⊢
  have HWX := Lib.hid hW
  generalize t.vr = v at *
  generalize t.nm = m at *
  obtain ⟨ab, al1, ah⟩ := a0
  obtain ⟨bb, bl, bh⟩ := a1
  unfold TyK at k0 k1
  dsimp only at d0 d1 d2 d3 d4 d5 k0 k1
  have HS := Lib.hid (fun w => rf_numbers (al1 - bh) (ah - bl) w)
  have g1 : IntKind.i64.wrap (al1 - bh) = al1 - bh := by rw [IntKind.wrap_i64]; omega
  have g2 : IntKind.i64.wrap (ah - bl) = ah - bl := by rw [IntKind.wrap_i64]; omega
  have g3 : wrap64 (al1 - bh) = al1 - bh := by unfold wrap64; omega
  have g4 : wrap64 (ah - bl) = ah - bl := by unfold wrap64; omega
  clear hT hJ hW HWW k0 k1 ho
  cases ab <;> cases bb
  · show Calls Try.prog 68 _ w (TyE (spanS (al1 - bh) (ah - bl)) w)
    obtain ⟨R, hR⟩ : ∃ R, spanS (al1 - bh) (ah - bl) = R := ⟨_, rfl⟩
    rw [hR] at HS ⊢
    clear hR
    obtain ⟨⟨Rb, Rl, Rh⟩, Re⟩ := R
    go_enter Try.func68, Try.ntmps68
    go_upto_region 3 with (go_at_call 999)
    rw [HWX.out]
    go_wp2
    go_region_held3 (fun wx => wx.cell? ⟨b, f + 1, none⟩ = some (.int .i64 al1) ∧ wx.cell? ⟨b, f + 3 + 1, none⟩ = some (.int .i64 bl) ∧ wx.cell? ⟨b, f + 2, none⟩ = some (.int .i64 ah) ∧ wx.cell? ⟨b, f + 3 + 2, none⟩ = some (.int .i64 bh)) (first | with_reducible exact ⟨e0, e1, e2, e3⟩ | with_reducible exact ⟨(cell3 hne _ _ _ _).trans e0, (cell3 hne _ _ _ _).trans e1, (cell3 hne _ _ _ _).trans e2, (cell3 hne _ _ _ _).trans e3⟩ | exact ⟨d1, d4, d2, d5⟩ | go_keep) (first
      | (go_at_call 67; (with_reducible refine (HS.out _).mono ?_); rintro e w2 ⟨rfl, hb2⟩; have hbx : Below W.heap.size W w2 := Below.trans ((Below.refl _ _).drew) hb2; have e0 := (hbx.cell (p := ⟨b, f + 1, none⟩) hbl2).trans d1; have e1 := (hbx.cell (p := ⟨b, f + 3 + 1, none⟩) hbl2).trans d4; have e2 := (hbx.cell (p := ⟨b, f + 2, none⟩) hbl2).trans d2; have e3 := (hbx.cell (p := ⟨b, f + 3 + 2, none⟩) hbl2).trans d5; have g2 := (HJ.out.step hbx).b1; have r0 : w2.cell? ⟨w.heap.size + 1, 0, none⟩ = _ := g2.cell 0; have r1 : w2.cell? ⟨w.heap.size + 1, 1, none⟩ = _ := g2.cell 1; have r2 : w2.cell? ⟨w.heap.size + 1, 2, none⟩ = _ := g2.cell 2; have r3 := g2.frozen 0; have r4 := g2.frozen 1; have r5 := g2.frozen 2; have rl := g2.lt; have G2 := Lib.hid g2; have HB2 := Lib.hid (bt HBW.out hbx); clear hb2 hbx g2))
    all_goals
      go_wp2
      refine bodyPost_ret (res_ty rfl _ _ (w.heap.size + 1) _ _ _ rfl (((G2.out.set_ 0 _).set_ 1 _).set_ 2 _)) rfl ⟨rfl, ?_⟩
      exact below_set (below_set (below_set HB2.out (by omega) _ _) (by omega) _ _) (by omega) _ _
  all_goals
    clear g1 g2 g3 g4 HS
    show Calls Try.prog 68 _ w (TyE (ty0, 13) w)
    go_enter Try.func68, Try.ntmps68
    go_upto_region 3 with (go_at_call 999)
    rw [HWX.out]
    go_wp2
    refine bodyPost_ret (res_ty rfl _ _ (w.heap.size + 1) _ _ _ rfl (((G1.out.set_ 0 _).set_ 1 _).set_ 2 _)) rfl ⟨rfl, ?_⟩
    exact below_set (below_set (below_set HBW.out (by omega) _ _) (by omega) _ _) (by omega) _ _
set_option maxRecDepth 100000 in
set_option maxHeartbeats 8000000 in
theorem rf_join_mul (t : Ex) (A : Option Addr) (c : Nat) (a0 a1 : Ty) (K : Option Addr) (ck : Nat) (w : World) (hT : Tys w.heap.size w K [a0, a1]) (ho : t.op = 16) (k0 : TyK a0) (k1 : TyK a1) :
    Calls Try.prog 68 #[exV t A c, .slice K 2 ck] w (TyE (tyOf t [a0, a1]) w) := by
  obtain ⟨W, hW⟩ : ∃ W, ((w.alloc (.cells #[.int .i64 t.op, .int .i64 t.vr, .string t.nm, .slice A t.ks.length c] 24)).alloc (.cells #[.bool false, .int .i64 0, .int .i64 0] 39)).alloc (.cells #[.bool true, .int .i64 0, .int .i64 0] 39) = W := ⟨_, rfl⟩
  have hJ := joinW t A c w
  rw [hW] at hJ
  have HJ := Lib.hid hJ
  have p0 : W.cell? ⟨w.heap.size, 0, none⟩ = some (.int .i64 t.op) := hJ.b0.cell 0
  have p3 : W.cell? ⟨w.heap.size, 3, none⟩ = some (.slice A t.ks.length c) := hJ.b0.cell 3
  have pl := hJ.b0.lt
  have r0 : W.cell? ⟨w.heap.size + 1, 0, none⟩ = some (.bool false) := hJ.b1.cell 0
  have r1 : W.cell? ⟨w.heap.size + 1, 1, none⟩ = some (.int .i64 0) := hJ.b1.cell 1
  have r2 : W.cell? ⟨w.heap.size + 1, 2, none⟩ = some (.int .i64 0) := hJ.b1.cell 2
  have r3 := hJ.b1.frozen 0
  have r4 := hJ.b1.frozen 1
  have r5 := hJ.b1.frozen 2
  have rl := hJ.b1.lt
  have y0 : W.cell? ⟨w.heap.size + 1 + 1, 0, none⟩ = some (.bool true) := hJ.b2.cell 0
  have y1 : W.cell? ⟨w.heap.size + 1 + 1, 1, none⟩ = some (.int .i64 0) := hJ.b2.cell 1
  have y2 : W.cell? ⟨w.heap.size + 1 + 1, 2, none⟩ = some (.int .i64 0) := hJ.b2.cell 2
  have yl := hJ.b2.lt
  have G1 := Lib.hid hJ.b1
  have HBW := Lib.hid hJ.hb
  have HWW := Lib.hid hW
  rw [join_mul ho k0 k1]
  obtain ⟨b, f, rfl, hbl, hc⟩ := hT (by show 0 < 2; omega)
  obtain ⟨c0, c1, c2⟩ := hc 0 (by show 0 < 2; omega)
  obtain ⟨c3, c4, c5⟩ := hc 1 (by show 1 < 2; omega)
  simp only [Nat.zero_mul, Nat.one_mul, Nat.add_zero] at c0 c1 c2 c3 c4 c5
  have d0 : W.cell? ⟨b, f, none⟩ = some (.bool a0.b) := (hJ.hb.cell (p := ⟨b, f, none⟩) hbl).trans c0
  have d1 : W.cell? ⟨b, f + 1, none⟩ = some (.int .i64 a0.lo) := (hJ.hb.cell (p := ⟨b, f + 1, none⟩) hbl).trans c1
  have d2 : W.cell? ⟨b, f + 2, none⟩ = some (.int .i64 a0.hi) := (hJ.hb.cell (p := ⟨b, f + 2, none⟩) hbl).trans c2
  have d3 : W.cell? ⟨b, f + 3, none⟩ = some (.bool a1.b) := (hJ.hb.cell (p := ⟨b, f + 3, none⟩) hbl).trans c3
  have d4 : W.cell? ⟨b, f + 3 + 1, none⟩ = some (.int .i64 a1.lo) := (hJ.hb.cell (p := ⟨b, f + 3 + 1, none⟩) hbl).trans c4
  have d5 : W.cell? ⟨b, f + 3 + 2, none⟩ = some (.int .i64 a1.hi) := (hJ.hb.cell (p := ⟨b, f + 3 + 2, none⟩) hbl).trans c5
  have hbl2 : b < W.heap.size := by have := hJ.hz; omega
  have hne : ¬ b = w.heap.size + 1 := by omega
  clear hc c0 c1 c2 c3 c4 c5
  show Calls Try.prog 68 #[.agg #[.int .i64 t.op, .int .i64 t.vr, .string t.nm, .slice A t.ks.length c], .slice (some ⟨b, f, none⟩) 2 ck] w _
  rw [ho] at p0 hW HWW ⊢
  have HWX := Lib.hid hW
  generalize t.vr = v at *
  generalize t.nm = m at *
  have HP := Lib.hid (fun w => rf_products a0 a1 w)
  obtain ⟨R, hR⟩ : ∃ R, spanS (mnN (prods a0 a1) 3) (mxN (prods a0 a1) 3) = R := ⟨_, rfl⟩
  have HS := Lib.hid (fun w => rf_numbers (mnN (prods a0 a1) 3) (mxN (prods a0 a1) 3) w)
  rw [hR] at HS ⊢
  generalize mnN (prods a0 a1) 3 = mn at *
  generalize mxN (prods a0 a1) 3 = mx at *
  obtain ⟨ab, al1, ah⟩ := a0
  obtain ⟨bb, bl, bh⟩ := a1
  dsimp only at d0 d1 d2 d3 d4 d5
  clear hT hJ hW HWW k0 k1 ho hR
  cases ab <;> cases bb
  · show Calls Try.prog 68 _ w (TyE R w)
    obtain ⟨⟨Rb, Rl, Rh⟩, Re⟩ := R
    go_enter Try.func68, Try.ntmps68
    go_upto_region 3 with (go_at_call 999)
    rw [HWX.out]
    go_wp2
    go_region_held3 (fun wx => wx.cell? ⟨b, f, none⟩ = some (.bool false) ∧ wx.cell? ⟨b, f + 1, none⟩ = some (.int .i64 al1) ∧ wx.cell? ⟨b, f + 2, none⟩ = some (.int .i64 ah) ∧ wx.cell? ⟨b, f + 3, none⟩ = some (.bool false) ∧ wx.cell? ⟨b, f + 3 + 1, none⟩ = some (.int .i64 bl) ∧ wx.cell? ⟨b, f + 3 + 2, none⟩ = some (.int .i64 bh)) (first | with_reducible exact ⟨e0, e1, e2, e3, e4, e5⟩ | with_reducible exact ⟨(cell3 hne _ _ _ _).trans e0, (cell3 hne _ _ _ _).trans e1, (cell3 hne _ _ _ _).trans e2, (cell3 hne _ _ _ _).trans e3, (cell3 hne _ _ _ _).trans e4, (cell3 hne _ _ _ _).trans e5⟩ | exact ⟨d0, d1, d2, d3, d4, d5⟩ | go_keep) (first
      | (go_at_call 87; (with_reducible refine (HP.out _).mono ?_); rintro e w2 ⟨rfl, hb2⟩; have hbx : Below W.heap.size W w2 := Below.trans ((Below.refl _ _).drew) hb2; have e0 := (hbx.cell (p := ⟨b, f, none⟩) hbl2).trans d0; have e1 := (hbx.cell (p := ⟨b, f + 1, none⟩) hbl2).trans d1; have e2 := (hbx.cell (p := ⟨b, f + 2, none⟩) hbl2).trans d2; have e3 := (hbx.cell (p := ⟨b, f + 3, none⟩) hbl2).trans d3; have e4 := (hbx.cell (p := ⟨b, f + 3 + 1, none⟩) hbl2).trans d4; have e5 := (hbx.cell (p := ⟨b, f + 3 + 2, none⟩) hbl2).trans d5; have g2 := (HJ.out.step hbx).b1; have r0 : w2.cell? ⟨w.heap.size + 1, 0, none⟩ = _ := g2.cell 0; have r1 : w2.cell? ⟨w.heap.size + 1, 1, none⟩ = _ := g2.cell 1; have r2 : w2.cell? ⟨w.heap.size + 1, 2, none⟩ = _ := g2.cell 2; have r3 := g2.frozen 0; have r4 := g2.frozen 1; have r5 := g2.frozen 2; have rl := g2.lt; have G2 := Lib.hid g2; have HB2 := Lib.hid (bt HBW.out hbx); clear hb2 hbx g2))
    all_goals
      clear e0 e1 e2 e3 e4 e5
      go_wp2_with (go_at_call 67; (with_reducible refine (HS.out _).mono ?_); rintro e w3 ⟨rfl, hb3⟩; have g3 := G2.out.below hb3 rl; have u0 : w3.cell? ⟨w.heap.size + 1, 0, none⟩ = _ := g3.cell 0; have u1 : w3.cell? ⟨w.heap.size + 1, 1, none⟩ = _ := g3.cell 1; have u2 : w3.cell? ⟨w.heap.size + 1, 2, none⟩ = _ := g3.cell 2; have u3 := g3.frozen 0; have u4 := g3.frozen 1; have u5 := g3.frozen 2; have ul := g3.lt; have G3 := Lib.hid g3; have HB3 := Lib.hid (bt HB2.out hb3); clear hb3 g3)
      refine bodyPost_ret (res_ty rfl _ _ (w.heap.size + 1) _ _ _ rfl (((G3.out.set_ 0 _).set_ 1 _).set_ 2 _)) rfl ⟨rfl, ?_⟩
      exact below_set (below_set (below_set HB3.out (by omega) _ _) (by omega) _ _) (by omega) _ _
  all_goals
    clear HS HP
    show Calls Try.prog 68 _ w (TyE (ty0, 13) w)
    go_enter Try.func68, Try.ntmps68
    go_upto_region 3 with (go_at_call 999)
    rw [HWX.out]
    go_wp2
    refine bodyPost_ret (res_ty rfl _ _ (w.heap.size + 1) _ _ _ rfl (((G1.out.set_ 0 _).set_ 1 _).set_ 2 _)) rfl ⟨rfl, ?_⟩
    exact below_set (below_set (below_set HBW.out (by omega) _ _) (by omega) _ _) (by omega) _ _
set_option maxRecDepth 100000 in
set_option maxHeartbeats 8000000 in
theorem rf_join_if (t : Ex) (A : Option Addr) (c : Nat) (a0 a1 a2 : Ty) (K : Option Addr) (ck : Nat) (w : World) (hT : Tys w.heap.size w K [a0, a1, a2]) (ho : t.op = 18) :
    Calls Try.prog 68 #[exV t A c, .slice K 3 ck] w (TyE (tyOf t [a0, a1, a2]) w) := by
  obtain ⟨W, hW⟩ : ∃ W, ((w.alloc (.cells #[.int .i64 t.op, .int .i64 t.vr, .string t.nm, .slice A t.ks.length c] 24)).alloc (.cells #[.bool false, .int .i64 0, .int .i64 0] 39)).alloc (.cells #[.bool true, .int .i64 0, .int .i64 0] 39) = W := ⟨_, rfl⟩
  have hJ := joinW t A c w
  rw [hW] at hJ
  have HJ := Lib.hid hJ
  have p0 : W.cell? ⟨w.heap.size, 0, none⟩ = some (.int .i64 t.op) := hJ.b0.cell 0
  have p3 : W.cell? ⟨w.heap.size, 3, none⟩ = some (.slice A t.ks.length c) := hJ.b0.cell 3
  have pl := hJ.b0.lt
  have r0 : W.cell? ⟨w.heap.size + 1, 0, none⟩ = some (.bool false) := hJ.b1.cell 0
  have r1 : W.cell? ⟨w.heap.size + 1, 1, none⟩ = some (.int .i64 0) := hJ.b1.cell 1
  have r2 : W.cell? ⟨w.heap.size + 1, 2, none⟩ = some (.int .i64 0) := hJ.b1.cell 2
  have r3 := hJ.b1.frozen 0
  have r4 := hJ.b1.frozen 1
  have r5 := hJ.b1.frozen 2
  have rl := hJ.b1.lt
  have y0 : W.cell? ⟨w.heap.size + 1 + 1, 0, none⟩ = some (.bool true) := hJ.b2.cell 0
  have y1 : W.cell? ⟨w.heap.size + 1 + 1, 1, none⟩ = some (.int .i64 0) := hJ.b2.cell 1
  have y2 : W.cell? ⟨w.heap.size + 1 + 1, 2, none⟩ = some (.int .i64 0) := hJ.b2.cell 2
  have yl := hJ.b2.lt
  have G1 := Lib.hid hJ.b1
  have HBW := Lib.hid hJ.hb
  have HWW := Lib.hid hW
  rw [join_if ho]
  obtain ⟨b, f, rfl, hbl, hc⟩ := hT (by show 0 < 3; omega)
  obtain ⟨c0, c1, c2⟩ := hc 0 (by show 0 < 3; omega)
  obtain ⟨c3, c4, c5⟩ := hc 1 (by show 1 < 3; omega)
  obtain ⟨c6, c7, c8⟩ := hc 2 (by show 2 < 3; omega)
  simp only [Nat.zero_mul, Nat.one_mul, Nat.add_zero, Nat.reduceMul] at c0 c1 c2 c3 c4 c5 c6 c7 c8
  have d0 : W.cell? ⟨b, f, none⟩ = some (.bool a0.b) := (hJ.hb.cell (p := ⟨b, f, none⟩) hbl).trans c0
  have d1 : W.cell? ⟨b, f + 1, none⟩ = some (.int .i64 a0.lo) := (hJ.hb.cell (p := ⟨b, f + 1, none⟩) hbl).trans c1
  have d2 : W.cell? ⟨b, f + 2, none⟩ = some (.int .i64 a0.hi) := (hJ.hb.cell (p := ⟨b, f + 2, none⟩) hbl).trans c2
  have d3 : W.cell? ⟨b, f + 3, none⟩ = some (.bool a1.b) := (hJ.hb.cell (p := ⟨b, f + 3, none⟩) hbl).trans c3
  have d4 : W.cell? ⟨b, f + 3 + 1, none⟩ = some (.int .i64 a1.lo) := (hJ.hb.cell (p := ⟨b, f + 3 + 1, none⟩) hbl).trans c4
  have d5 : W.cell? ⟨b, f + 3 + 2, none⟩ = some (.int .i64 a1.hi) := (hJ.hb.cell (p := ⟨b, f + 3 + 2, none⟩) hbl).trans c5
  have d6 : W.cell? ⟨b, f + 6, none⟩ = some (.bool a2.b) := (hJ.hb.cell (p := ⟨b, f + 6, none⟩) hbl).trans c6
  have d7 : W.cell? ⟨b, f + 6 + 1, none⟩ = some (.int .i64 a2.lo) := (hJ.hb.cell (p := ⟨b, f + 6 + 1, none⟩) hbl).trans c7
  have d8 : W.cell? ⟨b, f + 6 + 2, none⟩ = some (.int .i64 a2.hi) := (hJ.hb.cell (p := ⟨b, f + 6 + 2, none⟩) hbl).trans c8
  have hbl2 : b < W.heap.size := by have := hJ.hz; omega
  have hne : ¬ b = w.heap.size + 1 := by omega
  clear hc c0 c1 c2 c3 c4 c5 c6 c7 c8
  show Calls Try.prog 68 #[.agg #[.int .i64 t.op, .int .i64 t.vr, .string t.nm, .slice A t.ks.length c], .slice (some ⟨b, f, none⟩) 3 ck] w _
  rw [ho] at p0 hW HWW ⊢
  have HWX := Lib.hid hW
  generalize t.vr = v at *
  generalize t.nm = m at *
  obtain ⟨ab, al1, ah⟩ := a0
  obtain ⟨bb, bl, bh⟩ := a1
  obtain ⟨cb, cl, ch⟩ := a2
  dsimp only at d0 d1 d2 d3 d4 d5 d6 d7 d8
  have HS := Lib.hid (fun w => rf_numbers (min bl cl) (max bh ch) w)
  clear hT hJ hW HWW ho d1 d2
  cases ab
  · show Calls Try.prog 68 _ w (TyE (ty0, 13) w)
    clear HS
    go_enter Try.func68, Try.ntmps68
    go_upto_region 3 with (go_at_call 999)
    rw [HWX.out]
    go_wp2
    go_quiet (fail)
    go_wp2
    first
       | (refine bodyPost_ret (res_ty rfl _ _ (w.heap.size + 1) _ _ _ rfl (((G1.out.set_ 0 _).set_ 1 _).set_ 2 _)) rfl ⟨rfl, ?_⟩; exact below_set (below_set (below_set HBW.out (by omega) _ _) (by omega) _ _) (by omega) _ _)
       | (refine bodyPost_ret (res_ty rfl _ _ (w.heap.size + 1) _ _ _ rfl ((((G1.out.drewN _).set_ 0 _).set_ 1 _).set_ 2 _)) rfl ⟨rfl, ?_⟩; exact below_set (below_set (below_set (below_drewN HBW.out _) (by omega) _ _) (by omega) _ _) (by omega) _ _)
  · cases bb <;> cases cb
    · show Calls Try.prog 68 _ w (TyE (spanS (min bl cl) (max bh ch)) w)
      obtain ⟨R, hR⟩ : ∃ R, spanS (min bl cl) (max bh ch) = R := ⟨_, rfl⟩
      rw [hR] at HS ⊢
      clear hR
      obtain ⟨⟨Rb, Rl, Rh⟩, Re⟩ := R
      go_enter Try.func68, Try.ntmps68
      go_upto_region 3 with (go_at_call 999)
      rw [HWX.out]
      go_wp2
      go_quiet (fail)
      go_wp2
      obtain ⟨Wn, hWn⟩ : ∃ Wn, W.drewN nq = Wn := ⟨_, rfl⟩
      have hbn : Below W.heap.size W Wn := by rw [← hWn]; exact below_drewN (Below.refl _ _) _
      have HJn := Lib.hid (HJ.out.step hbn)
      have HBWn := Lib.hid (bt HBW.out hbn)
      have dn4 : Wn.cell? ⟨b, f + 3 + 1, none⟩ = some (.int .i64 bl) := by rw [← hWn]; exact d4
      have dn5 : Wn.cell? ⟨b, f + 3 + 2, none⟩ = some (.int .i64 bh) := by rw [← hWn]; exact d5
      have dn7 : Wn.cell? ⟨b, f + 6 + 1, none⟩ = some (.int .i64 cl) := by rw [← hWn]; exact d7
      have dn8 : Wn.cell? ⟨b, f + 6 + 2, none⟩ = some (.int .i64 ch) := by rw [← hWn]; exact d8
      have hbl3 : b < Wn.heap.size := by rw [← hWn]; exact hbl2
      rw [hWn]
      clear hWn hbn d0 d3 d4 d5 d6 d7 d8 r0 r1 r2 r3 r4 r5 rl y0 y1 y2 yl p0 p3 pl hbl2
      go_region_held3 (fun wx => wx.cell? ⟨b, f + 3 + 1, none⟩ = some (.int .i64 bl) ∧ wx.cell? ⟨b, f + 6 + 1, none⟩ = some (.int .i64 cl) ∧ wx.cell? ⟨b, f + 3 + 2, none⟩ = some (.int .i64 bh) ∧ wx.cell? ⟨b, f + 6 + 2, none⟩ = some (.int .i64 ch)) (first | with_reducible exact ⟨e0, e1, e2, e3⟩ | with_reducible exact ⟨(cell3 hne _ _ _ _).trans e0, (cell3 hne _ _ _ _).trans e1, (cell3 hne _ _ _ _).trans e2, (cell3 hne _ _ _ _).trans e3⟩ | exact ⟨dn4, dn7, dn5, dn8⟩ | go_keep) (first
      | (go_at_call 67; (with_reducible refine (HS.out _).mono ?_); rintro e w2 ⟨rfl, hb2⟩; have hbx : Below Wn.heap.size Wn w2 := Below.trans ((Below.refl _ _).drew) hb2; have e0 := (hbx.cell (p := ⟨b, f + 3 + 1, none⟩) hbl3).trans dn4; have e1 := (hbx.cell (p := ⟨b, f + 6 + 1, none⟩) hbl3).trans dn7; have e2 := (hbx.cell (p := ⟨b, f + 3 + 2, none⟩) hbl3).trans dn5; have e3 := (hbx.cell (p := ⟨b, f + 6 + 2, none⟩) hbl3).trans dn8; have g2 := (HJn.out.step hbx).b1; have r0 : w2.cell? ⟨w.heap.size + 1, 0, none⟩ = _ := g2.cell 0; have r1 : w2.cell? ⟨w.heap.size + 1, 1, none⟩ = _ := g2.cell 1; have r2 : w2.cell? ⟨w.heap.size + 1, 2, none⟩ = _ := g2.cell 2; have r3 := g2.frozen 0; have r4 := g2.frozen 1; have r5 := g2.frozen 2; have rl := g2.lt; have G2 := Lib.hid g2; have HB2 := Lib.hid (bt HBWn.out hbx); clear hb2 hbx g2))
      all_goals
        go_wp2
        refine bodyPost_ret (res_ty rfl _ _ (w.heap.size + 1) _ _ _ rfl (((G2.out.set_ 0 _).set_ 1 _).set_ 2 _)) rfl ⟨rfl, ?_⟩
        exact below_set (below_set (below_set HB2.out (by omega) _ _) (by omega) _ _) (by omega) _ _
    · show Calls Try.prog 68 _ w (TyE (ty0, 13) w)
      clear HS
      go_enter Try.func68, Try.ntmps68
      go_upto_region 3 with (go_at_call 999)
      rw [HWX.out]
      go_wp2
      go_quiet (fail)
      go_wp2
      first
         | (refine bodyPost_ret (res_ty rfl _ _ (w.heap.size + 1) _ _ _ rfl (((G1.out.set_ 0 _).set_ 1 _).set_ 2 _)) rfl ⟨rfl, ?_⟩; exact below_set (below_set (below_set HBW.out (by omega) _ _) (by omega) _ _) (by omega) _ _)
         | (refine bodyPost_ret (res_ty rfl _ _ (w.heap.size + 1) _ _ _ rfl ((((G1.out.drewN _).set_ 0 _).set_ 1 _).set_ 2 _)) rfl ⟨rfl, ?_⟩; exact below_set (below_set (below_set (below_drewN HBW.out _) (by omega) _ _) (by omega) _ _) (by omega) _ _)
    · show Calls Try.prog 68 _ w (TyE (ty0, 13) w)
      clear HS
      go_enter Try.func68, Try.ntmps68
      go_upto_region 3 with (go_at_call 999)
      rw [HWX.out]
      go_wp2
      go_quiet (fail)
      go_wp2
      first
         | (refine bodyPost_ret (res_ty rfl _ _ (w.heap.size + 1) _ _ _ rfl (((G1.out.set_ 0 _).set_ 1 _).set_ 2 _)) rfl ⟨rfl, ?_⟩; exact below_set (below_set (below_set HBW.out (by omega) _ _) (by omega) _ _) (by omega) _ _)
         | (refine bodyPost_ret (res_ty rfl _ _ (w.heap.size + 1) _ _ _ rfl ((((G1.out.drewN _).set_ 0 _).set_ 1 _).set_ 2 _)) rfl ⟨rfl, ?_⟩; exact below_set (below_set (below_set (below_drewN HBW.out _) (by omega) _ _) (by omega) _ _) (by omega) _ _)
    · show Calls Try.prog 68 _ w (TyE (tyT, 0) w)
      clear HS
      go_enter Try.func68, Try.ntmps68
      go_upto_region 3 with (go_at_call 999)
      rw [HWX.out]
      go_wp2
      go_quiet (fail)
      go_wp2
      first
         | (refine bodyPost_ret (res_ty rfl _ _ (w.heap.size + 1) _ _ _ rfl (((G1.out.set_ 0 _).set_ 1 _).set_ 2 _)) rfl ⟨rfl, ?_⟩; exact below_set (below_set (below_set HBW.out (by omega) _ _) (by omega) _ _) (by omega) _ _)
         | (refine bodyPost_ret (res_ty rfl _ _ (w.heap.size + 1) _ _ _ rfl ((((G1.out.drewN _).set_ 0 _).set_ 1 _).set_ 2 _)) rfl ⟨rfl, ?_⟩; exact below_set (below_set (below_set (below_drewN HBW.out _) (by omega) _ _) (by omega) _ _) (by omega) _ _)
set_option maxRecDepth 100000 in
set_option maxHeartbeats 8000000 in
theorem rf_join_mod (t : Ex) (A : Option Addr) (c : Nat) (a0 a1 : Ty) (K : Option Addr) (ck : Nat) (w : World) (hR : Rep w.heap.size w A t) (hT : Tys w.heap.size w K [a0, a1]) (ho : t.op = 17) (hk : t.ks.length = 2) (hv : -255 ≤ (kd t.ks 1).vr ∧ (kd t.ks 1).vr ≤ 255) :
    Calls Try.prog 68 #[exV t A c, .slice K 2 ck] w (TyE (tyOf t [a0, a1]) w) := by
  obtain ⟨b2, f2, rfl, hbk, hck⟩ := hR.out (by omega)
  obtain ⟨ka, kc, q0, q1, _, _, _⟩ := hck 1 (by omega)
  simp only [Nat.one_mul] at q0 q1
  obtain ⟨W, hW⟩ : ∃ W, ((w.alloc (.cells #[.int .i64 t.op, .int .i64 t.vr, .string t.nm, .slice (some ⟨b2, f2, none⟩) t.ks.length c] 24)).alloc (.cells #[.bool false, .int .i64 0, .int .i64 0] 39)).alloc (.cells #[.bool true, .int .i64 0, .int .i64 0] 39) = W := ⟨_, rfl⟩
  have hJ := joinW t (some ⟨b2, f2, none⟩) c w
  rw [hW] at hJ
  have HJ := Lib.hid hJ
  have p0 : W.cell? ⟨w.heap.size, 0, none⟩ = some (.int .i64 t.op) := hJ.b0.cell 0
  have p3 : W.cell? ⟨w.heap.size, 3, none⟩ = some (.slice (some ⟨b2, f2, none⟩) t.ks.length c) := hJ.b0.cell 3
  have pl := hJ.b0.lt
  have r0 : W.cell? ⟨w.heap.size + 1, 0, none⟩ = some (.bool false) := hJ.b1.cell 0
  have r1 : W.cell? ⟨w.heap.size + 1, 1, none⟩ = some (.int .i64 0) := hJ.b1.cell 1
  have r2 : W.cell? ⟨w.heap.size + 1, 2, none⟩ = some (.int .i64 0) := hJ.b1.cell 2
  have r3 := hJ.b1.frozen 0
  have r4 := hJ.b1.frozen 1
  have r5 := hJ.b1.frozen 2
  have rl := hJ.b1.lt
  have y0 : W.cell? ⟨w.heap.size + 1 + 1, 0, none⟩ = some (.bool true) := hJ.b2.cell 0
  have y1 : W.cell? ⟨w.heap.size + 1 + 1, 1, none⟩ = some (.int .i64 0) := hJ.b2.cell 1
  have y2 : W.cell? ⟨w.heap.size + 1 + 1, 2, none⟩ = some (.int .i64 0) := hJ.b2.cell 2
  have yl := hJ.b2.lt
  have G1 := Lib.hid hJ.b1
  have HBW := Lib.hid hJ.hb
  have HWW := Lib.hid hW
  rw [join_mod ho]
  have x0 := (hJ.hb.cell (p := ⟨b2, f2 + 4, none⟩) hbk).trans q0
  have x1 := (hJ.hb.cell (p := ⟨b2, f2 + 4 + 1, none⟩) hbk).trans q1
  obtain ⟨b, f, rfl, hbl, hc⟩ := hT (by show 0 < 2; omega)
  obtain ⟨c0, c1, c2⟩ := hc 0 (by show 0 < 2; omega)
  obtain ⟨c3, c4, c5⟩ := hc 1 (by show 1 < 2; omega)
  simp only [Nat.zero_mul, Nat.one_mul, Nat.add_zero] at c0 c1 c2 c3 c4 c5
  have d0 : W.cell? ⟨b, f, none⟩ = some (.bool a0.b) := (hJ.hb.cell (p := ⟨b, f, none⟩) hbl).trans c0
  have d1 : W.cell? ⟨b, f + 1, none⟩ = some (.int .i64 a0.lo) := (hJ.hb.cell (p := ⟨b, f + 1, none⟩) hbl).trans c1
  have d2 : W.cell? ⟨b, f + 2, none⟩ = some (.int .i64 a0.hi) := (hJ.hb.cell (p := ⟨b, f + 2, none⟩) hbl).trans c2
  have d3 : W.cell? ⟨b, f + 3, none⟩ = some (.bool a1.b) := (hJ.hb.cell (p := ⟨b, f + 3, none⟩) hbl).trans c3
  have d4 : W.cell? ⟨b, f + 3 + 1, none⟩ = some (.int .i64 a1.lo) := (hJ.hb.cell (p := ⟨b, f + 3 + 1, none⟩) hbl).trans c4
  have d5 : W.cell? ⟨b, f + 3 + 2, none⟩ = some (.int .i64 a1.hi) := (hJ.hb.cell (p := ⟨b, f + 3 + 2, none⟩) hbl).trans c5
  have hbl2 : b < W.heap.size := by have := hJ.hz; omega
  have hne : ¬ b = w.heap.size + 1 := by omega
  clear hc c0 c1 c2 c3 c4 c5
  show Calls Try.prog 68 #[.agg #[.int .i64 t.op, .int .i64 t.vr, .string t.nm, .slice (some ⟨b2, f2, none⟩) t.ks.length c], .slice (some ⟨b, f, none⟩) 2 ck] w _
  rw [ho] at p0 hW HWW ⊢
  rw [hk] at p3 hW HWW ⊢
  have HWX := Lib.hid hW
  generalize t.vr = v at *
  generalize t.nm = m at *
  generalize (kd t.ks 1).op = o2 at *
  generalize (kd t.ks 1).vr = v2 at *
  obtain ⟨ab, al1, ah⟩ := a0
  obtain ⟨bb, bl, bh⟩ := a1
  dsimp only at d0 d1 d2 d3 d4 d5
  have HS := Lib.hid (fun w => rf_numbers 0 (v2 - 1) w)
  obtain ⟨vl, vh⟩ := hv
  clear hT hJ hW HWW ho d1 d2 d4 d5 hR hck q0 q1 hk
  cases ab <;> cases bb
  · show Calls Try.prog 68 _ w (TyE (if o2 = 1 ∧ 0 < v2 then spanS 0 (v2 - 1) else (ty0, 2)) w)
    by_cases g1 : o2 = 1
    · by_cases g2 : 0 < v2
      · rw [if_pos ⟨g1, g2⟩]
        subst g1
        obtain ⟨R, hRr⟩ : ∃ R, spanS 0 (v2 - 1) = R := ⟨_, rfl⟩
        rw [hRr] at HS ⊢
        clear hRr
        obtain ⟨⟨Rb, Rl, Rh⟩, Re⟩ := R
        have g3 : ¬ v2 < 1 := by omega
        go_enter Try.func68, Try.ntmps68
        go_upto_region 3 with (go_at_call 999)
        rw [HWX.out]
        go_wp2_with (go_at_call 67; (with_reducible refine (HS.out _).mono ?_); rintro e w2 ⟨rfl, hbx⟩; have g2 := (HJ.out.step hbx).b1; have r0 : w2.cell? ⟨w.heap.size + 1, 0, none⟩ = _ := g2.cell 0; have r1 : w2.cell? ⟨w.heap.size + 1, 1, none⟩ = _ := g2.cell 1; have r2 : w2.cell? ⟨w.heap.size + 1, 2, none⟩ = _ := g2.cell 2; have r3 := g2.frozen 0; have r4 := g2.frozen 1; have r5 := g2.frozen 2; have rl := g2.lt; have G2 := Lib.hid g2; have HB2 := Lib.hid (bt HBW.out hbx); clear hbx g2)
        refine bodyPost_ret (res_ty rfl _ _ (w.heap.size + 1) _ _ _ rfl (((G2.out.set_ 0 _).set_ 1 _).set_ 2 _)) rfl ⟨rfl, ?_⟩
        exact below_set (below_set (below_set HB2.out (by omega) _ _) (by omega) _ _) (by omega) _ _
      · rw [if_neg (fun h => g2 h.2)]
        subst g1
        have g3 : v2 < 1 := by omega
        clear HS g2
        go_enter Try.func68, Try.ntmps68
        go_upto_region 3 with (go_at_call 999)
        rw [HWX.out]
        go_wp2
        refine bodyPost_ret (res_ty rfl _ _ (w.heap.size + 1) _ _ _ rfl (((G1.out.set_ 0 _).set_ 1 _).set_ 2 _)) rfl ⟨rfl, ?_⟩
        exact below_set (below_set (below_set HBW.out (by omega) _ _) (by omega) _ _) (by omega) _ _
    · rw [if_neg (fun h => g1 h.1)]
      have g2 : (o2 == 1) = false := by simp [g1]
      have g3 : (o2 != 1) = true := by simp [g1]
      clear HS g1
      go_enter Try.func68, Try.ntmps68
      go_upto_region 3 with (go_at_call 999)
      rw [HWX.out]
      go_wp2
      refine bodyPost_ret (res_ty rfl _ _ (w.heap.size + 1) _ _ _ rfl (((G1.out.set_ 0 _).set_ 1 _).set_ 2 _)) rfl ⟨rfl, ?_⟩
      exact below_set (below_set (below_set HBW.out (by omega) _ _) (by omega) _ _) (by omega) _ _
  all_goals
    clear HS x0 x1
    show Calls Try.prog 68 _ w (TyE (ty0, 13) w)
    go_enter Try.func68, Try.ntmps68
    go_upto_region 3 with (go_at_call 999)
    rw [HWX.out]
    go_wp2
    refine bodyPost_ret (res_ty rfl _ _ (w.heap.size + 1) _ _ _ rfl (((G1.out.set_ 0 _).set_ 1 _).set_ 2 _)) rfl ⟨rfl, ?_⟩
    exact below_set (below_set (below_set HBW.out (by omega) _ _) (by omega) _ _) (by omega) _ _
end Go.Proofs.Ytcdpjodnbegepaa
