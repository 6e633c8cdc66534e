/- The walk of lives, over the contracts of its calls; layer 30 (terms). -/
import Derived.Test.YtcdpjodnbegepaaFnV
import Derived.Deep.DeepCutAuto
namespace Go.Proofs.Ytcdpjodnbegepaa
open Go.RowKit Go.PlainAid

/-- What stays: the name x lies at b. -/
abbrev LvS (_ : World) (b : Nat) (wx : World) : Prop := wx.cell? ⟨b, 0, none⟩ = some (.int .i64 3) ∧ wx.cell? ⟨b, 1, none⟩ = some (.int .i64 0) ∧ wx.cell? ⟨b, 2, none⟩ = some (.string ⟨#[120]⟩) ∧ wx.cell? ⟨b, 3, none⟩ = some (.slice none 0 0)
/-- .. and the difference at g. -/
abbrev LvD (g : Nat) (A : Option Addr) (c : Nat) (wx : World) : Prop := wx.cell? ⟨g, 0, none⟩ = some (.int .i64 15) ∧ wx.cell? ⟨g, 1, none⟩ = some (.int .i64 0) ∧ wx.cell? ⟨g, 2, none⟩ = some (.string ⟨#[]⟩) ∧ wx.cell? ⟨g, 3, none⟩ = some (.slice A 2 c)
def RetT (w : World) (e : Ending) (w' : World) : Prop := e = .returned (.bool true) ∧ Below w.heap.size w w'
set_option maxRecDepth 100000 in
set_option maxHeartbeats 16000000 in
theorem law_lives (w : World) : Calls Try.prog 10 #[] w (RetT w) := by
  go_enter Try.func10, Try.ntmps10
  go_upto_region 3 with (go_at_call 31; (with_reducible refine (pr_name _ _).mono ?_); rintro e w1 ⟨rfl, hb1⟩; have HB1 := Lib.hid hb1; clear hb1)
  have hv1 : vB w.heap.size w1 := Blk.below (Blk.new w 57 #[.string ⟨#[120]⟩, .bool false, .int .i64 0, .int .i64 3]) HB1.out (by simp)
  obtain ⟨w2, hw2⟩ : ∃ w2, w1.alloc (.cells #[.int .i64 3, .int .i64 0, .string ⟨#[120]⟩, .slice none 0 0] 24) = w2 := ⟨_, rfl⟩
  have hx2 : Blk w2 w1.heap.size 24 #[.int .i64 3, .int .i64 0, .string ⟨#[120]⟩, .slice none 0 0] := by rw [← hw2]; exact Blk.new _ _ _
  have hv2 : vB w.heap.size w2 := by rw [← hw2]; exact Blk.alloc hv1 _
  have HW2 : Hid (Below w.heap.size w w2) := Lib.hid (by rw [← hw2]; exact al (bt (al (Below.refl _ _) _) HB1.out) _)
  rw [hw2]
  clear hw2 hv1 HB1
  obtain ⟨b, hb⟩ : ∃ b, w1.heap.size = b := ⟨_, rfl⟩
  obtain ⟨h, hh⟩ : ∃ h, w.heap.size = h := ⟨_, rfl⟩
  rw [hb] at hx2 ⊢
  rw [hh] at hv2 ⊢
  have HS : Hid (∀ wx, Below w2.heap.size w2 wx → LvS w2 b wx ∧ b < wx.heap.size) := Lib.hid (fun wx hb => by
    have hk := hx2.below hb hx2.lt
    exact ⟨⟨hk.cell 0, hk.cell 1, hk.cell 2, hk.cell 3⟩, hk.lt⟩)
  have HSL := HS
  have HS : Hid (∀ wx, Below w2.heap.size w2 wx → LvS w2 b wx) := Lib.hid (fun wx hb => (HSL.out wx hb).1)
  have HV : Hid (∀ wx, Below w2.heap.size w2 wx → vB h wx) := Lib.hid (fun wx hb => Blk.below hv2 hb (Blk.lt hv2))
  have HB2 : Hid (Below w2.heap.size w2 w2) := Lib.hid (Below.refl _ _)
  clear hb hh hx2 hv2
  go_upto_region 3 with (go_at_call 999)
  go_cut [3, 4] (fun s1 s2 wx => ∃ g, s1 = .pointer (some ⟨g, 0, none⟩) ∧ Blk wx g 39 #[.bool false, .int .i64 1, .int .i64 4] ∧ s2 = .int .i64 0 ∧ Below w2.heap.size w2 wx)
  case first =>
    have HSn : Hid (∀ wx, Below w2.heap.size w2 wx → LvS w2 b wx) := Lib.hid (fun wx hb => HS.out _ (bt HB2.out hb))
    have HVn : Hid (∀ wx, Below w2.heap.size w2 wx → vB h wx) := Lib.hid (fun wx hb => HV.out _ (bt HB2.out hb))
    have hS0 := HSn.out _ (Below.refl _ _)
    have hD : Below w2.heap.size w2 w2.drew := (Below.refl _ _).drew
    go_region_held3 (fun wx => LvS w2 b wx) (first | with_reducible exact HSn.out _ hC | with_reducible exact HSn.out _ (al hC _) | with_reducible exact HSn.out _ (below_set (below_set (below_set hC (by omega) _ _) (by omega) _ _) (by omega) _ _) | with_reducible exact HSn.out _ hB | with_reducible exact HSn.out _ (al hB _) | with_reducible exact HSn.out _ hA | with_reducible exact HSn.out _ (al hA _) | exact hS0 | exact HSn.out _ (al hD _) | exact HSn.out _ hD | go_keep) (first
      | (go_at_call 30; (with_reducible refine (pr_num 1 _).mono ?_); rintro e wA ⟨rfl, hA0⟩; have hA : Below w2.heap.size w2 wA := (by first | exact bt hD hA0 | exact bt (al hD _) hA0); have hAs := hA.size; first | have zA : Blk wA w2.heap.size 39 #[.bool false, .int .i64 0, .int .i64 0] := (Blk.new w2.drew 39 #[.bool false, .int .i64 0, .int .i64 0]).below hA0 (by simp) | skip; clear hA0)
      | (go_at_call 32; first | ((with_reducible refine (lv_two 14 1 _).mono ?_); rintro e wB ⟨AB, cB, rfl, hRB, hB0, hAB⟩; have hB : Below w2.heap.size w2 wB := (by first | exact bt hA hB0 | exact bt (al hA _) hB0); have hBs := hB.size; first | have zB := zA.below hB0 zA.lt | have zB : Blk wB wA.heap.size 39 #[.bool false, .int .i64 0, .int .i64 0] := (Blk.new wA 39 #[.bool false, .int .i64 0, .int .i64 0]).below hB0 (by simp) | skip; clear hB0))
      | (go_at_call 20; first | ((with_reducible refine (lv_T1 h AB cB wB (HVn.out _ hB) hRB).mono ?_); rintro e wC ⟨rfl, hC0⟩; have hC := bt hB hC0; (first | (have zC := zB.below hC0 zB.lt; have z0 : wC.cell? ⟨_, 0, none⟩ = some (.bool false) := zC.cell 0; have y0 := zC.frozen 0; have z1 : wC.cell? ⟨_, 1, none⟩ = some (.int .i64 0) := zC.cell 1; have y1 := zC.frozen 1; have z2 : wC.cell? ⟨_, 2, none⟩ = some (.int .i64 0) := zC.cell 2; have y2 := zC.frozen 2; have zz := zC.lt; have ZC := Lib.hid zC; clear zC) | skip); clear hC0) | ((with_reducible refine (lv_T1 h AB cB _ (HVn.out _ (al hB _)) (hRB.step (al (Below.refl _ _) _))).mono ?_); rintro e wC ⟨rfl, hC0⟩; have hC := bt (al hB _) hC0; have zC : Blk wC wB.heap.size 39 #[.bool false, .int .i64 0, .int .i64 0] := (Blk.new wB 39 #[.bool false, .int .i64 0, .int .i64 0]).below hC0 (by simp); have z0 : wC.cell? ⟨_, 0, none⟩ = some (.bool false) := zC.cell 0; have y0 := zC.frozen 0; have z1 : wC.cell? ⟨_, 1, none⟩ = some (.int .i64 0) := zC.cell 1; have y1 := zC.frozen 1; have z2 : wC.cell? ⟨_, 2, none⟩ = some (.int .i64 0) := zC.cell 2; have y2 := zC.frozen 2; have zz := zC.lt; have ZC := Lib.hid zC; clear zC; clear hC0)))
    all_goals
      go_wp2_with fail
      go_meet
      first
        | exact ⟨_, rfl, (((ZC.out.set_ 0 _).set_ 1 _).set_ 2 _), rfl, (below_set (below_set (below_set hC (by omega) _ _) (by omega) _ _) (by omega) _ _)⟩
        | exact ⟨_, rfl, Blk.new _ _ _, rfl, al hC _⟩
  case rest =>
  obtain ⟨w3g, rfl, w3k, rfl, w3b⟩ := hcut
  obtain ⟨w3, w3e⟩ : ∃ x, x = wc := ⟨_, rfl⟩
  subst w3e
  have HB3 : Hid (Below w2.heap.size w2 w3) := Lib.hid w3b
  have HK3 := Lib.hid w3k
  clear w3b w3k HB2
  go_upto_region 4 with (go_at_call 999)
  go_cut [5, 6] (fun s1 s2 wx => ∃ g, s1 = .pointer (some ⟨g, 0, none⟩) ∧ Blk wx g 39 #[.bool true, .int .i64 0, .int .i64 0] ∧ s2 = .int .i64 0 ∧ Below w3.heap.size w3 wx)
  case first =>
    have HSn : Hid (∀ wx, Below w3.heap.size w3 wx → LvS w2 b wx) := Lib.hid (fun wx hb => HS.out _ (bt HB3.out hb))
    have HVn : Hid (∀ wx, Below w3.heap.size w3 wx → vB h wx) := Lib.hid (fun wx hb => HV.out _ (bt HB3.out hb))
    have hS0 := HSn.out _ (Below.refl _ _)
    have hD : Below w3.heap.size w3 w3.drew := (Below.refl _ _).drew
    go_region_held3 (fun wx => LvS w2 b wx) (first | with_reducible exact HSn.out _ hC | with_reducible exact HSn.out _ (al hC _) | with_reducible exact HSn.out _ (below_set (below_set (below_set hC (by omega) _ _) (by omega) _ _) (by omega) _ _) | with_reducible exact HSn.out _ hB | with_reducible exact HSn.out _ (al hB _) | with_reducible exact HSn.out _ hA | with_reducible exact HSn.out _ (al hA _) | exact hS0 | exact HSn.out _ (al hD _) | exact HSn.out _ hD | go_keep) (first
      | (go_at_call 30; (with_reducible refine (pr_num 3 _).mono ?_); rintro e wA ⟨rfl, hA0⟩; have hA : Below w3.heap.size w3 wA := (by first | exact bt hD hA0 | exact bt (al hD _) hA0); have hAs := hA.size; first | have zA : Blk wA w3.heap.size 39 #[.bool false, .int .i64 0, .int .i64 0] := (Blk.new w3.drew 39 #[.bool false, .int .i64 0, .int .i64 0]).below hA0 (by simp) | skip; clear hA0)
      | (go_at_call 32; first | ((with_reducible refine (lv_two 10 3 _).mono ?_); rintro e wB ⟨AB, cB, rfl, hRB, hB0, hAB⟩; have hB : Below w3.heap.size w3 wB := (by first | exact bt hA hB0 | exact bt (al hA _) hB0); have hBs := hB.size; first | have zB := zA.below hB0 zA.lt | have zB : Blk wB wA.heap.size 39 #[.bool false, .int .i64 0, .int .i64 0] := (Blk.new wA 39 #[.bool false, .int .i64 0, .int .i64 0]).below hB0 (by simp) | skip; clear hB0))
      | (go_at_call 20; first | ((with_reducible refine (lv_T2 h AB cB wB (HVn.out _ hB) hRB).mono ?_); rintro e wC ⟨rfl, hC0⟩; have hC := bt hB hC0; (first | (have zC := zB.below hC0 zB.lt; have z0 : wC.cell? ⟨_, 0, none⟩ = some (.bool false) := zC.cell 0; have y0 := zC.frozen 0; have z1 : wC.cell? ⟨_, 1, none⟩ = some (.int .i64 0) := zC.cell 1; have y1 := zC.frozen 1; have z2 : wC.cell? ⟨_, 2, none⟩ = some (.int .i64 0) := zC.cell 2; have y2 := zC.frozen 2; have zz := zC.lt; have ZC := Lib.hid zC; clear zC) | skip); clear hC0) | ((with_reducible refine (lv_T2 h AB cB _ (HVn.out _ (al hB _)) (hRB.step (al (Below.refl _ _) _))).mono ?_); rintro e wC ⟨rfl, hC0⟩; have hC := bt (al hB _) hC0; have zC : Blk wC wB.heap.size 39 #[.bool false, .int .i64 0, .int .i64 0] := (Blk.new wB 39 #[.bool false, .int .i64 0, .int .i64 0]).below hC0 (by simp); have z0 : wC.cell? ⟨_, 0, none⟩ = some (.bool false) := zC.cell 0; have y0 := zC.frozen 0; have z1 : wC.cell? ⟨_, 1, none⟩ = some (.int .i64 0) := zC.cell 1; have y1 := zC.frozen 1; have z2 : wC.cell? ⟨_, 2, none⟩ = some (.int .i64 0) := zC.cell 2; have y2 := zC.frozen 2; have zz := zC.lt; have ZC := Lib.hid zC; clear zC; clear hC0)))
    all_goals
      go_wp2_with fail
      go_meet
      first
        | exact ⟨_, rfl, (((ZC.out.set_ 0 _).set_ 1 _).set_ 2 _), rfl, (below_set (below_set (below_set hC (by omega) _ _) (by omega) _ _) (by omega) _ _)⟩
        | exact ⟨_, rfl, Blk.new _ _ _, rfl, al hC _⟩
  case rest =>
  obtain ⟨w4g, rfl, w4k, rfl, w4b⟩ := hcut
  obtain ⟨w4, w4e⟩ : ∃ x, x = wc := ⟨_, rfl⟩
  subst w4e
  have HB4 : Hid (Below w2.heap.size w2 w4) := Lib.hid (bt HB3.out w4b)
  have HK4 := Lib.hid (HK3.out.below w4b HK3.out.lt)
  have HJ4 := Lib.hid w4k
  clear w4b w4k HB3 HK3
  go_upto_region 5 with (go_at_call 999)
  go_cut [7, 8] (fun s1 s2 wx => ∃ g, s1 = .pointer (some ⟨g, 0, none⟩) ∧ Blk wx g 39 #[.bool false, .int .i64 0, .int .i64 0] ∧ s2 = .int .i64 2 ∧ Below w4.heap.size w4 wx)
  case first =>
    have HSn : Hid (∀ wx, Below w4.heap.size w4 wx → LvS w2 b wx) := Lib.hid (fun wx hb => HS.out _ (bt HB4.out hb))
    have HVn : Hid (∀ wx, Below w4.heap.size w4 wx → vB h wx) := Lib.hid (fun wx hb => HV.out _ (bt HB4.out hb))
    have hS0 := HSn.out _ (Below.refl _ _)
    have hD : Below w4.heap.size w4 w4.drew := (Below.refl _ _).drew
    go_region_held3 (fun wx => LvS w2 b wx) (first | with_reducible exact HSn.out _ hC | with_reducible exact HSn.out _ (al hC _) | with_reducible exact HSn.out _ (below_set (below_set (below_set hC (by omega) _ _) (by omega) _ _) (by omega) _ _) | with_reducible exact HSn.out _ hB | with_reducible exact HSn.out _ (al hB _) | with_reducible exact HSn.out _ hA | with_reducible exact HSn.out _ (al hA _) | exact hS0 | exact HSn.out _ (al hD _) | exact HSn.out _ hD | go_keep) (first
      | (go_at_call 30; (with_reducible refine (pr_num 0 _).mono ?_); rintro e wA ⟨rfl, hA0⟩; have hA : Below w4.heap.size w4 wA := (by first | exact bt hD hA0 | exact bt (al hD _) hA0); have hAs := hA.size; first | have zA : Blk wA w4.heap.size 39 #[.bool false, .int .i64 0, .int .i64 0] := (Blk.new w4.drew 39 #[.bool false, .int .i64 0, .int .i64 0]).below hA0 (by simp) | skip; clear hA0)
      | (go_at_call 32; first | ((with_reducible refine (lv_two 17 0 _).mono ?_); rintro e wB ⟨AB, cB, rfl, hRB, hB0, hAB⟩; have hB : Below w4.heap.size w4 wB := (by first | exact bt hA hB0 | exact bt (al hA _) hB0); have hBs := hB.size; first | have zB := zA.below hB0 zA.lt | have zB : Blk wB wA.heap.size 39 #[.bool false, .int .i64 0, .int .i64 0] := (Blk.new wA 39 #[.bool false, .int .i64 0, .int .i64 0]).below hB0 (by simp) | skip; clear hB0))
      | (go_at_call 20; first | ((with_reducible refine (lv_T3 h AB cB wB (HVn.out _ hB) hRB).mono ?_); rintro e wC ⟨rfl, hC0⟩; have hC := bt hB hC0; (first | (have zC := zB.below hC0 zB.lt; have z0 : wC.cell? ⟨_, 0, none⟩ = some (.bool false) := zC.cell 0; have y0 := zC.frozen 0; have z1 : wC.cell? ⟨_, 1, none⟩ = some (.int .i64 0) := zC.cell 1; have y1 := zC.frozen 1; have z2 : wC.cell? ⟨_, 2, none⟩ = some (.int .i64 0) := zC.cell 2; have y2 := zC.frozen 2; have zz := zC.lt; have ZC := Lib.hid zC; clear zC) | skip); clear hC0) | ((with_reducible refine (lv_T3 h AB cB _ (HVn.out _ (al hB _)) (hRB.step (al (Below.refl _ _) _))).mono ?_); rintro e wC ⟨rfl, hC0⟩; have hC := bt (al hB _) hC0; have zC : Blk wC wB.heap.size 39 #[.bool false, .int .i64 0, .int .i64 0] := (Blk.new wB 39 #[.bool false, .int .i64 0, .int .i64 0]).below hC0 (by simp); have z0 : wC.cell? ⟨_, 0, none⟩ = some (.bool false) := zC.cell 0; have y0 := zC.frozen 0; have z1 : wC.cell? ⟨_, 1, none⟩ = some (.int .i64 0) := zC.cell 1; have y1 := zC.frozen 1; have z2 : wC.cell? ⟨_, 2, none⟩ = some (.int .i64 0) := zC.cell 2; have y2 := zC.frozen 2; have zz := zC.lt; have ZC := Lib.hid zC; clear zC; clear hC0)))
    all_goals
      go_wp2_with fail
      go_meet
      first
        | exact ⟨_, rfl, (((ZC.out.set_ 0 _).set_ 1 _).set_ 2 _), rfl, (below_set (below_set (below_set hC (by omega) _ _) (by omega) _ _) (by omega) _ _)⟩
        | exact ⟨_, rfl, Blk.new _ _ _, rfl, al hC _⟩
  case rest =>
  obtain ⟨w5g, rfl, w5k, rfl, w5b⟩ := hcut
  obtain ⟨w5, w5e⟩ : ∃ x, x = wc := ⟨_, rfl⟩
  subst w5e
  have HB5 : Hid (Below w2.heap.size w2 w5) := Lib.hid (bt HB4.out w5b)
  have HK5 := Lib.hid (HK4.out.below w5b HK4.out.lt)
  have HJ5 := Lib.hid (HJ4.out.below w5b HJ4.out.lt)
  clear w5b w5k HB4 HK4 HJ4
  obtain ⟨⟨x0, x1, x2, x3⟩, x4⟩ := HSL.out _ HB5.out
  go_upto_region 7 with (first
    | (go_at_call 20; (with_reducible refine (lv_T4 h A6 c6 w6a (HV.out _ (bt HB5.out HB6.out)) HR6.out).mono ?_); rintro e w6 ⟨rfl, hb6⟩; have HB7 := Lib.hid hb6; clear hb6)
    | (go_at_call 32; (with_reducible refine (lv_two2 _).mono ?_); rintro e w6a ⟨A6, c6, rfl, hr6, hb6, _⟩; have HR6 := Lib.hid hr6; have HB6 := Lib.hid hb6; clear hr6 hb6))
  clear x0 x1 x2 x3 x4
  have HB6b : Hid (Below w5.heap.size w5 (w6.alloc (.cells #[.bool false, .int .i64 0, .int .i64 0] 39))) := Lib.hid (al (bt HB6.out HB7.out) _)
  go_upto_region 8 with (go_at_call 20; (with_reducible refine (lv_T5 h _ (HV.out _ (bt HB5.out HB6b.out))).mono ?_); rintro e w7 ⟨rfl, hb8⟩; have HB8 := Lib.hid hb8; clear hb8)
  obtain ⟨w8, hw8⟩ : ∃ w8, w7.alloc (.cells #[.bool false, .int .i64 0, .int .i64 0] 39) = w8 := ⟨_, rfl⟩
  have hb8 : Below w5.heap.size w5 w8 := by rw [← hw8]; exact al (bt HB6b.out HB8.out) _
  rw [hw8]
  have HB9 : Hid (Below w2.heap.size w2 w8) := Lib.hid (bt HB5.out hb8)
  have HK8 := Lib.hid (HK5.out.below hb8 HK5.out.lt)
  have HJ8 := Lib.hid (HJ5.out.below hb8 HJ5.out.lt)
  clear hw8 hb8 HB6 HB7 HB8 HB6b HR6 HK5 HJ5 HB5
  go_cut [13] (fun s1 wx => ∃ g A c, s1 = .pointer (some ⟨g, 0, none⟩) ∧ Blk wx g 24 #[.int .i64 15, .int .i64 0, .string ⟨#[]⟩, .slice A 2 c] ∧ Rep wx.heap.size wx A tLS ∧ Below w8.heap.size w8 wx)
  case first =>
    have HSn : Hid (∀ wx, Below w8.heap.size w8 wx → LvS w2 b wx) := Lib.hid (fun wx hb => HS.out _ (bt HB9.out hb))
    have HVn : Hid (∀ wx, Below w8.heap.size w8 wx → vB h wx) := Lib.hid (fun wx hb => HV.out _ (bt HB9.out hb))
    have hS0 := HSn.out _ (Below.refl _ _)
    have hD : Below w8.heap.size w8 w8.drew := (Below.refl _ _).drew
    go_region_held3 (fun wx => LvS w2 b wx) (first | with_reducible exact HSn.out _ hB | with_reducible exact HSn.out _ (al hB _) | with_reducible exact HSn.out _ (below_set (below_set (below_set (below_set hB (by omega) _ _) (by omega) _ _) (by omega) _ _) (by omega) _ _) | with_reducible exact HSn.out _ hB | with_reducible exact HSn.out _ (al hB _) | with_reducible exact HSn.out _ hA | with_reducible exact HSn.out _ (al hA _) | exact hS0 | exact HSn.out _ (al hD _) | exact HSn.out _ hD | go_keep) (first
      | (go_at_call 30; (with_reducible refine (pr_num 5 _).mono ?_); rintro e wA ⟨rfl, hA0⟩; have hA : Below w8.heap.size w8 wA := (by first | exact bt hD hA0 | exact bt (al hD _) hA0); have hAs := hA.size; first | have zA : Blk wA w8.heap.size 24 #[.int .i64 0, .int .i64 0, .string ⟨#[]⟩, .slice none 0 0] := (Blk.new w8.drew 24 #[.int .i64 0, .int .i64 0, .string ⟨#[]⟩, .slice none 0 0]).below hA0 (by simp) | skip; clear hA0)
      | (go_at_call 32; (with_reducible refine (lv_two 15 5 _).mono ?_); rintro e wB ⟨AB, cB, rfl, hRB, hB0, hAB⟩; have hB : Below w8.heap.size w8 wB := (by first | exact bt hA hB0 | exact bt (al hA _) hB0); have hBs := hB.size; (first | (have zl := zA.lt; have zB := zA.below hB0 zl; have z0 : wB.cell? ⟨_, 0, none⟩ = some (.int .i64 0) := zB.cell 0; have y0 := zB.frozen 0; have z1 : wB.cell? ⟨_, 1, none⟩ = some (.int .i64 0) := zB.cell 1; have y1 := zB.frozen 1; have z2 : wB.cell? ⟨_, 2, none⟩ = some (.string ⟨#[]⟩) := zB.cell 2; have y2 := zB.frozen 2; have z3 : wB.cell? ⟨_, 3, none⟩ = some (.slice none 0 0) := zB.cell 3; have y3 := zB.frozen 3; have zz := zB.lt; have ZC := Lib.hid zB; clear zB) | (have zB : Blk wB wA.heap.size 24 #[.int .i64 0, .int .i64 0, .string ⟨#[]⟩, .slice none 0 0] := (Blk.new wA 24 #[.int .i64 0, .int .i64 0, .string ⟨#[]⟩, .slice none 0 0]).below hB0 (by simp); have z0 : wB.cell? ⟨_, 0, none⟩ = some (.int .i64 0) := zB.cell 0; have y0 := zB.frozen 0; have z1 : wB.cell? ⟨_, 1, none⟩ = some (.int .i64 0) := zB.cell 1; have y1 := zB.frozen 1; have z2 : wB.cell? ⟨_, 2, none⟩ = some (.string ⟨#[]⟩) := zB.cell 2; have y2 := zB.frozen 2; have z3 : wB.cell? ⟨_, 3, none⟩ = some (.slice none 0 0) := zB.cell 3; have y3 := zB.frozen 3; have zz := zB.lt; have ZC := Lib.hid zB; clear zB) | skip); clear hB0))
    all_goals
      go_wp2_with fail
      go_meet
      obtain ⟨gB, rfl, hgB⟩ := hAB
      have hgB2 := hgB
      try simp at hgB2
      first
        | exact ⟨_, _, _, rfl, ((((ZC.out.set_ 0 _).set_ 1 _).set_ 2 _).set_ 3 _), (rep_leafs hRB (fun i hi => by have hi2 : i < 2 := hi; rcases (by omega : i = 0 ∨ i = 1) with rfl | rfl <;> rfl) (fun o => ((cell1 (by omega) _ _ _).trans ((cell1 (by omega) _ _ _).trans ((cell1 (by omega) _ _ _).trans (cell1 (by omega) _ _ _)))))).more (by simp), (below_set (below_set (below_set (below_set hB (by omega) _ _) (by omega) _ _) (by omega) _ _) (by omega) _ _)⟩
        | exact ⟨_, _, _, rfl, Blk.new _ _ _, hRB.step (al (Below.refl _ _) _), al hB _⟩
  case rest =>
  obtain ⟨g13, A13, c13, rfl, w9k, w9r, w9b⟩ := hcut
  obtain ⟨w9, w9e⟩ : ∃ x, x = wc := ⟨_, rfl⟩
  subst w9e
  have HB10 : Hid (Below w2.heap.size w2 w9) := Lib.hid (bt HB9.out w9b)
  have HK9 := Lib.hid (HK8.out.below w9b HK8.out.lt)
  have HJ9 := Lib.hid (HJ8.out.below w9b HJ8.out.lt)
  have HD9 := Lib.hid w9k
  have HR9 := Lib.hid w9r
  have d0 : w9.cell? ⟨g13, 0, none⟩ = some (.int .i64 15) := w9k.cell 0
  have d1 : w9.cell? ⟨g13, 1, none⟩ = some (.int .i64 0) := w9k.cell 1
  have d2 : w9.cell? ⟨g13, 2, none⟩ = some (.string ⟨#[]⟩) := w9k.cell 2
  have d3 : w9.cell? ⟨g13, 3, none⟩ = some (.slice A13 2 c13) := w9k.cell 3
  have d4 := w9k.lt
  clear w9b w9k w9r HB9 HK8 HJ8
  go_upto_region 10 with (go_at_call 22; (with_reducible refine (lv_E1 h w9.heap.size A13 c13 (w9.alloc (.cells #[.int .i64 2] 3)) (HV.out _ (al HB10.out _)) (Blk.new _ _ _) (HR9.out.step (al (Below.refl _ _) _))).mono ?_); rintro e w10 ⟨rfl, hb10⟩; have HB11 := Lib.hid hb10; clear hb10)
  clear d0 d1 d2 d3 d4
  have hb11 : Below w9.heap.size w9 w10 := bt (al (Below.refl _ _) _) HB11.out
  have HB12 : Hid (Below w2.heap.size w2 w10) := Lib.hid (bt HB10.out hb11)
  have HK10 := Lib.hid (HK9.out.below hb11 HK9.out.lt)
  have HJ10 := Lib.hid (HJ9.out.below hb11 HJ9.out.lt)
  have HD10 := Lib.hid (HD9.out.below hb11 HD9.out.lt)
  have HR10 := Lib.hid (HR9.out.step hb11)
  clear hb11 HB11 HB10 HK9 HJ9 HD9 HR9
  go_cut [16, 17] (fun s1 s2 wx => s1 = .int .i64 1 ∧ s2 = .bool true ∧ Below w10.heap.size w10 wx)
  case first =>
    have HSn : Hid (∀ wx, Below w10.heap.size w10 wx → LvD g13 A13 c13 wx) := Lib.hid (fun wx hb => by
      have hk := HD10.out.below hb HD10.out.lt
      exact ⟨hk.cell 0, hk.cell 1, hk.cell 2, hk.cell 3⟩)
    have HVn : Hid (∀ wx, Below w10.heap.size w10 wx → vB h wx) := Lib.hid (fun wx hb => HV.out _ (bt HB12.out hb))
    have HRn : Hid (∀ wx, Below w10.heap.size w10 wx → Rep wx.heap.size wx A13 tLS) := Lib.hid (fun wx hb => HR10.out.step hb)
    have hS0 := HSn.out _ (Below.refl _ _)
    have hD : Below w10.heap.size w10 w10.drew := (Below.refl _ _).drew
    go_region_held3 (fun wx => LvD g13 A13 c13 wx) (first | with_reducible exact HSn.out _ hC | with_reducible exact HSn.out _ (al hC _) | with_reducible exact HSn.out _ hC | with_reducible exact HSn.out _ hB | with_reducible exact HSn.out _ (al hB _) | with_reducible exact HSn.out _ hA | with_reducible exact HSn.out _ (al hA _) | exact hS0 | exact HSn.out _ (al hD _) | exact HSn.out _ hD | go_keep) (first
      | (go_at_call 30; (with_reducible refine (pr_num 4 _).mono ?_); rintro e wA ⟨rfl, hA0⟩; have hA : Below w10.heap.size w10 wA := (by first | exact bt hD hA0 | exact bt (al hD _) hA0); have hAs := hA.size; first | have zA : Blk wA w10.heap.size 3 #[.int .i64 2] := (Blk.new w10.drew 3 #[.int .i64 2]).below hA0 (by simp) | skip; clear hA0)
      | (go_at_call 32; first | ((with_reducible refine (lv_two3 A13 c13 wA (HRn.out _ hA)).mono ?_); rintro e wB ⟨AB, cB, rfl, hRB, hB0, hAB⟩; have hB := bt hA hB0; (first | have zB := zA.below hB0 zA.lt | skip); clear hB0) | ((with_reducible refine (lv_two3 A13 c13 _ (HRn.out _ (al hA _))).mono ?_); rintro e wB ⟨AB, cB, rfl, hRB, hB0, hAB⟩; have hB := bt (al hA _) hB0; have zB : Blk wB wA.heap.size 3 #[.int .i64 2] := (Blk.new wA 3 #[.int .i64 2]).below hB0 (by simp); clear hB0))
      | (go_at_call 22; first | ((with_reducible refine (lv_E2 h _ AB cB wB (HVn.out _ hB) zB hRB).mono ?_); rintro e wC ⟨rfl, hC0⟩; have hC := bt hB hC0; clear hC0) | ((with_reducible refine (lv_E2 h _ AB cB _ (HVn.out _ (al hB _)) (Blk.new _ _ _) (hRB.step (al (Below.refl _ _) _))).mono ?_); rintro e wC ⟨rfl, hC0⟩; have hC := bt (al hB _) hC0; clear hC0)))
    all_goals
      go_wp2_with fail
      go_meet
      exact ⟨rfl, rfl, hC⟩
  case rest =>
  obtain ⟨rfl, rfl, w11b⟩ := hcut
  obtain ⟨w11, w11e⟩ : ∃ x, x = wc := ⟨_, rfl⟩
  subst w11e
  have k1 := HK10.out.below w11b HK10.out.lt
  have k2 := HJ10.out.below w11b HJ10.out.lt
  have HFIN : Hid (Below w.heap.size w w11) := Lib.hid (bt HW2.out (bt HB12.out w11b))
  have e0 : w11.cell? ⟨w3g, 0, none⟩ = some (.bool false) := k1.cell 0
  have e1 : w11.cell? ⟨w3g, 1, none⟩ = some (.int .i64 1) := k1.cell 1
  have e2 : w11.cell? ⟨w3g, 2, none⟩ = some (.int .i64 4) := k1.cell 2
  have e3 : w11.cell? ⟨w4g, 0, none⟩ = some (.bool true) := k2.cell 0
  have e4 : w11.cell? ⟨w4g, 1, none⟩ = some (.int .i64 0) := k2.cell 1
  have e5 : w11.cell? ⟨w4g, 2, none⟩ = some (.int .i64 0) := k2.cell 2
  clear k1 k2 w11b HK10 HJ10 HD10 HR10 HB12 HW2 HS HSL HV
  go_wp2
  go_ret
  exact ⟨rfl, HFIN.out⟩
end Go.Proofs.Ytcdpjodnbegepaa
