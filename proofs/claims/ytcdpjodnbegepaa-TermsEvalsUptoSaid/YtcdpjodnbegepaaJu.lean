/- The contract of the specification's typed, of layer 30 (terms). -/
import Derived.Test.YtcdpjodnbegepaaJt
namespace Go.Proofs.Ytcdpjodnbegepaa
open Go.RowKit

/-- What lies while typed runs: the node, the result. -/
structure TypW (t : Ex) (A : Option Addr) (c : Nat) (w W : World) : Prop where
  hb : Below w.heap.size w W
  hz : w.heap.size + 1 + 1 ≤ W.heap.size
  b0 : Blk W w.heap.size 24 #[.int .i64 t.op, .int .i64 t.vr, .string t.nm, .slice A t.ks.length c]
  b1 : Blk W (w.heap.size + 1) 39 #[.bool false, .int .i64 0, .int .i64 0]
theorem TypW.step {t : Ex} {A : Option Addr} {c : Nat} {w W W' : World} (h : TypW t A c w W) (hb : Below (w.heap.size + 1 + 1) W W') : TypW t A c w W' :=
  ⟨h.hb.trans (hb.mono (by omega)), Nat.le_trans h.hz hb.size, h.b0.below hb (by omega), h.b1.below hb (by omega)⟩
theorem typW (t : Ex) (A : Option Addr) (c : Nat) (w : World) : TypW t A c w ((w.alloc (.cells #[.int .i64 t.op, .int .i64 t.vr, .string t.nm, .slice A t.ks.length c] 24)).alloc (.cells #[.bool false, .int .i64 0, .int .i64 0] 39)) := by
  have blk : ∀ (w : World) (g : Nat) (ty : TypeId) (cs : Array Value), w.heap.size = g → Blk (w.alloc (.cells cs ty)) g ty cs := fun w g ty cs e => by rw [← e]; exact Blk.new w ty cs
  exact ⟨al (al (Below.refl _ _) _) _, by simp, (blk _ _ _ _ rfl).alloc _, blk _ _ _ _ (by simp)⟩
set_option maxRecDepth 100000 in
set_option maxHeartbeats 4000000 in
/-- typed at a leaf. -/
theorem rf_typed_leaf (vs : List Vr) (V : Option Addr) (cv : Nat) (nx : Bool) (t : Ex) (A : Option Addr) (c : Nat) (w : World) (hV : Vars w.heap.size w V vs) (hvl : vs.length ≤ 1000000000) (ho : 1 ≤ t.op ∧ t.op ≤ 4) :
    Calls Try.prog 47 #[.slice V vs.length cv, exV t A c, .bool nx] w (TyE (nodeT vs nx t []) w) := by
  obtain ⟨W, hW⟩ : ∃ W, (w.alloc (.cells #[.int .i64 t.op, .int .i64 t.vr, .string t.nm, .slice A t.ks.length c] 24)).alloc (.cells #[.bool false, .int .i64 0, .int .i64 0] 39) = W := ⟨_, rfl⟩
  have hJ := typW t A c w
  rw [hW] at hJ
  have HJ := Lib.hid hJ
  have p0 : W.cell? ⟨w.heap.size, 0, none⟩ = some (.int .i64 t.op) := hJ.b0.cell 0
  have p1 : W.cell? ⟨w.heap.size, 1, none⟩ = some (.int .i64 t.vr) := hJ.b0.cell 1
  have p2 : W.cell? ⟨w.heap.size, 2, none⟩ = some (.string t.nm) := hJ.b0.cell 2
  have p3 : W.cell? ⟨w.heap.size, 3, none⟩ = some (.slice A t.ks.length c) := hJ.b0.cell 3
  have pl := hJ.b0.lt
  have r0 : W.cell? ⟨w.heap.size + 1, 0, none⟩ = some (.bool false) := hJ.b1.cell 0
  have r1 : W.cell? ⟨w.heap.size + 1, 1, none⟩ = some (.int .i64 0) := hJ.b1.cell 1
  have r2 : W.cell? ⟨w.heap.size + 1, 2, none⟩ = some (.int .i64 0) := hJ.b1.cell 2
  have r3 := hJ.b1.frozen 0
  have r4 := hJ.b1.frozen 1
  have r5 := hJ.b1.frozen 2
  have rl := hJ.b1.lt
  have G1 := Lib.hid hJ.b1
  have HBW := Lib.hid hJ.hb
  have HWW := Lib.hid hW
  by_cases o1 : t.op = 1
  · have X : Hid (nodeT vs nx t [] = spanS t.vr t.vr) := Lib.hid (by unfold nodeT tyOf; rw [if_neg (by omega), if_neg (by rw [o1]; decide), if_pos o1])
    rw [X.out]
    show Calls Try.prog 47 #[.slice V vs.length cv, .agg #[.int .i64 t.op, .int .i64 t.vr, .string t.nm, .slice A t.ks.length c], .bool nx] w _
    rw [o1] at p0 hW HWW ⊢
    have HWX := Lib.hid hW
    have HS := Lib.hid (fun w => rf_numbers t.vr t.vr w)
    obtain ⟨R, hR⟩ : ∃ R, spanS t.vr t.vr = R := ⟨_, rfl⟩
    rw [hR] at HS ⊢
    generalize t.vr = v at *
    generalize t.nm = m at *
    generalize t.ks.length = n at *
    clear hV hJ hW HWW X hR ho o1
    obtain ⟨⟨Rb, Rl, Rh⟩, Re⟩ := R
    go_enter Try.func47, Try.ntmps47
    go_upto_region 1 with (go_at_call 999)
    rw [HWX.out]
    go_wp2_with (go_at_call 67; (with_reducible refine (HS.out _).mono ?_); rintro e w2 ⟨rfl, hbx⟩; have g2 := (HJ.out.step (hbx.mono HJ.out.hz)).b1; have r0 : w2.cell? ⟨w.heap.size + 1, 0, none⟩ = _ := g2.cell 0; have r1 : w2.cell? ⟨w.heap.size + 1, 1, none⟩ = _ := g2.cell 1; have r2 : w2.cell? ⟨w.heap.size + 1, 2, none⟩ = _ := g2.cell 2; have r3 := g2.frozen 0; have r4 := g2.frozen 1; have r5 := g2.frozen 2; have rl := g2.lt; have G2 := Lib.hid g2; have HB2 := Lib.hid (bt HBW.out hbx); clear hbx g2)
    refine bodyPost_ret (res_ty rfl _ _ (w.heap.size + 1) _ _ _ rfl (((G2.out.set_ 0 _).set_ 1 _).set_ 2 _)) rfl ⟨rfl, ?_⟩
    exact below_set (below_set (below_set HB2.out (by omega) _ _) (by omega) _ _) (by omega) _ _
  by_cases o2 : t.op = 2
  · have X : Hid (nodeT vs nx t [] = (tyT, 0)) := Lib.hid (by unfold nodeT tyOf; rw [if_neg (by omega), if_neg (by rw [o2]; decide), if_neg (by omega), if_neg (by omega), if_neg (by omega), if_neg (by omega)])
    rw [X.out]
    show Calls Try.prog 47 #[.slice V vs.length cv, .agg #[.int .i64 t.op, .int .i64 t.vr, .string t.nm, .slice A t.ks.length c], .bool nx] w _
    rw [o2] at p0 hW HWW ⊢
    have HWX := Lib.hid hW
    generalize t.vr = v at *
    generalize t.nm = m at *
    generalize t.ks.length = n at *
    clear hV hJ hW HWW X ho o1 o2
    go_enter Try.func47, Try.ntmps47
    go_upto_region 1 with (go_at_call 999)
    rw [HWX.out]
    go_wp2
    refine bodyPost_ret (res_ty rfl _ _ (w.heap.size + 1) _ _ _ rfl (((G1.out.set_ 0 _).set_ 1 _).set_ 2 _)) rfl ⟨rfl, ?_⟩
    exact below_set (below_set (below_set HBW.out (by omega) _ _) (by omega) _ _) (by omega) _ _
  have o34 : t.op = 3 ∨ t.op = 4 := by omega
  have HX := Lib.hid (fun w1 (h : Below w.heap.size w w1) => rf_Index vs V cv t.nm w1 (hV.step h) hvl)
  obtain ⟨R, hR⟩ : ∃ R, nodeT vs nx t [] = R := ⟨_, rfl⟩
  rw [hR]
  unfold nodeT at hR
  rw [if_pos o34] at hR
  unfold varT at hR
  have HIX : Hid (Calls Try.prog 29 #[.slice V vs.length cv, .string t.nm] W fun e w' => e = .returned (.int .i64 (idxI t.nm vs)) ∧ W = w') := Lib.hid (HX.out W hJ.hb)
  show Calls Try.prog 47 #[.slice V vs.length cv, .agg #[.int .i64 t.op, .int .i64 t.vr, .string t.nm, .slice A t.ks.length c], .bool nx] w _
  have hid : ∀ i, idxN t.nm vs = some i → idxI t.nm vs = (i : Int) := fun i h => by unfold idxI; rw [h]
  have hin : idxN t.nm vs = none → idxI t.nm vs = -1 := fun h => by unfold idxI; rw [h]
  generalize t.vr = v at *
  generalize t.nm = m at *
  generalize t.ks.length = n at *
  clear ho o1 o2 HX
  cases hi : idxN m vs with
  | none =>
    rw [hi] at hR
    have hR2 : (ty0, 12) = R := hR
    rw [hin hi] at HIX
    rw [← hR2]
    have l0 : (-1 : Int) < 0 := by omega
    clear hR hR2 hid hin hi hV hJ
    rcases o34 with o | o
    all_goals
      rw [o] at p0 hW HWW ⊢
      have HWX := Lib.hid hW
      clear hW HWW o
      go_enter Try.func47, Try.ntmps47
      go_upto_region 1 with (go_at_call 999)
      rw [HWX.out]
      go_wp2_with (go_at_call 29; (with_reducible refine HIX.out.mono ?_); rintro e w2 ⟨rfl, rfl⟩)
      refine bodyPost_ret (res_ty rfl _ _ (w.heap.size + 1) _ _ _ rfl (((G1.out.set_ 0 _).set_ 1 _).set_ 2 _)) rfl ⟨rfl, ?_⟩
      exact below_set (below_set (below_set HBW.out (by omega) _ _) (by omega) _ _) (by omega) _ _
  | some i =>
    rw [hi] at hR
    have hR2 : (if t.op = 4 ∧ nx = false then (ty0, 24) else vspan (va vs i)) = R := hR
    have hlt := idxN_lt hi
    rw [hid i hi] at HIX
    have i0 : ¬ (i : Int) < 0 := by omega
    have i1 : (i : Int) < (vs.length : Int) := by omega
    obtain ⟨b, f, rfl, hbl, hc⟩ := hV (by omega)
    obtain ⟨c0, c1, c2, c3⟩ := hc i hlt
    have d1 := (hJ.hb.cell (p := ⟨b, f + i * 4 + 1, none⟩) hbl).trans c1
    have d2 := (hJ.hb.cell (p := ⟨b, f + i * 4 + 2, none⟩) hbl).trans c2
    have d3 := (hJ.hb.cell (p := ⟨b, f + i * 4 + 3, none⟩) hbl).trans c3
    have hbl2 : b < W.heap.size := by have := hJ.hz; omega
    have hne : ¬ b = w.heap.size + 1 := by omega
    have hvd : vspan (va vs i) = if (va vs i).b then (tyT, 0) else spanS (va vs i).lo (va vs i).hi := rfl
    rw [hvd] at hR2
    clear hR hid hin hi hc c0 c1 c2 c3 hvd hV hJ
    generalize va vs i = u at *
    obtain ⟨um, ub, ul, uh⟩ := u
    dsimp only at d1 d2 d3 hR2
    have HS := Lib.hid (fun w => rf_numbers ul uh w)
    by_cases o4 : t.op = 4 ∧ nx = false
    · rw [if_pos o4] at hR2
      obtain ⟨o, rfl⟩ := o4
      rw [← hR2]
      rw [o] at p0 hW HWW ⊢
      have HWX := Lib.hid hW
      clear hW HWW o o34 HS hR2
      go_enter Try.func47, Try.ntmps47
      go_upto_region 1 with (go_at_call 999)
      rw [HWX.out]
      go_wp2_with (go_at_call 29; (with_reducible refine HIX.out.mono ?_); rintro e w2 ⟨rfl, rfl⟩)
      refine bodyPost_ret (res_ty rfl _ _ (w.heap.size + 1) _ _ _ rfl (((G1.out.set_ 0 _).set_ 1 _).set_ 2 _)) rfl ⟨rfl, ?_⟩
      exact below_set (below_set (below_set HBW.out (by omega) _ _) (by omega) _ _) (by omega) _ _
    · rw [if_neg o4] at hR2
      have o5 : t.op = 3 ∨ t.op = 4 ∧ nx = true := by
        rcases o34 with o | o
        · exact .inl o
        · cases nx
          · exact absurd ⟨o, rfl⟩ o4
          · exact .inr ⟨o, rfl⟩
      clear o4 o34
      cases ub
      · rw [if_neg (by simp)] at hR2
        rw [hR2] at HS
        clear hR2
        obtain ⟨⟨Rb, Rl, Rh⟩, Re⟩ := R
        rcases o5 with o | ⟨o, rfl⟩
        all_goals
          rw [o] at p0 hW HWW ⊢
          have HWX := Lib.hid hW
          clear hW HWW o
          go_enter Try.func47, Try.ntmps47
          go_upto_region 1 with (go_at_call 999)
          rw [HWX.out]
          go_wp2_with (go_at_call 29; (with_reducible refine HIX.out.mono ?_); rintro e w2 ⟨rfl, rfl⟩)
          go_region_held3 (fun wx => wx.cell? ⟨b, f + i * 4 + 2, none⟩ = some (.int .i64 ul) ∧ wx.cell? ⟨b, f + i * 4 + 3, none⟩ = some (.int .i64 uh)) (first | with_reducible exact ⟨e0, e1⟩ | with_reducible exact ⟨(cell3 hne _ _ _ _).trans e0, (cell3 hne _ _ _ _).trans e1⟩ | exact ⟨d2, d3⟩ | go_keep) (first
            | (go_at_call 67; (with_reducible refine (HS.out _).mono ?_); rintro e w2 ⟨rfl, hb2⟩; have hbx : Below W.heap.size W w2 := Below.trans ((Below.refl _ _).drew) hb2; have e0 := (hbx.cell (p := ⟨b, f + i * 4 + 2, none⟩) hbl2).trans d2; have e1 := (hbx.cell (p := ⟨b, f + i * 4 + 3, none⟩) hbl2).trans d3; have g2 := (HJ.out.step (hbx.mono HJ.out.hz)).b1; have r0 : w2.cell? ⟨w.heap.size + 1, 0, none⟩ = _ := g2.cell 0; have r1 : w2.cell? ⟨w.heap.size + 1, 1, none⟩ = _ := g2.cell 1; have r2 : w2.cell? ⟨w.heap.size + 1, 2, none⟩ = _ := g2.cell 2; have r3 := g2.frozen 0; have r4 := g2.frozen 1; have r5 := g2.frozen 2; have rl := g2.lt; have G2 := Lib.hid g2; have HB2 := Lib.hid (bt HBW.out hbx); clear hb2 hbx g2))
          all_goals
            go_wp2
            refine bodyPost_ret (res_ty rfl _ _ (w.heap.size + 1) _ _ _ rfl (((G2.out.set_ 0 _).set_ 1 _).set_ 2 _)) rfl ⟨rfl, ?_⟩
            exact below_set (below_set (below_set HB2.out (by omega) _ _) (by omega) _ _) (by omega) _ _
      · rw [if_pos rfl] at hR2
        rw [← hR2]
        clear hR2 HS
        rcases o5 with o | ⟨o, rfl⟩
        all_goals
          rw [o] at p0 hW HWW ⊢
          have HWX := Lib.hid hW
          clear hW HWW o
          go_enter Try.func47, Try.ntmps47
          go_upto_region 1 with (go_at_call 999)
          rw [HWX.out]
          go_wp2_with (go_at_call 29; (with_reducible refine HIX.out.mono ?_); rintro e w2 ⟨rfl, rfl⟩)
          refine bodyPost_ret (res_ty rfl _ _ (w.heap.size + 1) _ _ _ rfl (((G1.out.set_ 0 _).set_ 1 _).set_ 2 _)) rfl ⟨rfl, ?_⟩
          exact below_set (below_set (below_set HBW.out (by omega) _ _) (by omega) _ _) (by omega) _ _
end Go.Proofs.Ytcdpjodnbegepaa
