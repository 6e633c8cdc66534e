/- push of an until (operator 9), of the program; layer 32 (forms). push of an until (operator 13), of the program; layer 32 (forms). push of an until (operator 9), of the specification; layer 32 (forms). push of an until (operator 13), of the specification; layer 32 (forms). push of a negation, function 45; layer 32 (forms). push of a negation, function 47; layer 32 (forms). push of a term, function 45; layer 32 (forms). push of a term, function 47; layer 32 (forms). The specification's push of an implication; layer 32 (forms). push of the operators with a dual, the program's; layer 32 (forms). -/
import Derived.Test.YtnjkphopklbogaaMf
import Derived.Deep.DeepCutAuto
import Derived.Test.YtnjkphopklbogaaMe
namespace Go.Proofs.Ytnjkphopklbogaa
open Go.RowKit

set_option maxRecDepth 100000 in
set_option maxHeartbeats 16000000 in
theorem pr_push9 (B : Nat) (t : Fx) (E A : Option Addr) (dd c : Nat) (b : Bool) (w : World) (ho : t.op = 9) (hn : t.ks.length = 2) (hB : B ≤ w.heap.size) (hR : Fm B w t E A) (hI : PuI 45 B t) :
    Calls Try.prog 45 #[fV t E dd A c, .bool b] w (PuP B (psF t b) w) := by
  obtain ⟨W0, hW0⟩ : ∃ W, (w.alloc (.cells (fC t E dd A c) 27)).alloc (.cells fZ 27) = W := ⟨_, rfl⟩
  have hP := PuW.mk' (dd := dd) (c := c) hB hR
  rw [hW0] at hP
  have hW0n : (w.alloc (.cells #[.int .i64 t.op, .int .i64 t.e.op, .int .i64 t.e.vr, .string t.e.nm, .slice E t.e.ks.length dd, .slice A 2 c] 27)).alloc (.cells fZ 27) = W0 := by rw [← hn]; exact hW0
  show Calls Try.prog 45 #[.agg #[.int .i64 t.op, .int .i64 t.e.op, .int .i64 t.e.vr, .string t.e.nm, .slice E t.e.ks.length dd, .slice A t.ks.length c], .bool b] w _
  rw [hn]
  obtain ⟨bb, f, ea0, ec0, ka0, kc0, ea1, ec1, ka1, kc1, rfl, hX, hr0, hr1⟩ := hP.two hn
  have X : Hid (psF t b = if b then .mk 2 ex0 [.mk t.op ex0 [psF (fkd t.ks 0) false, psF (fkd t.ks 1) false]] else .mk t.op ex0 [psF (fkd t.ks 0) false, psF (fkd t.ks 1) false]) := Lib.hid (by
    have h := psF_eq t b
    rw [if_neg (by omega), if_neg (by omega), if_neg (by omega), if_pos (by omega), apF_at _ _ _ (by omega), apF_at _ _ _ (by omega)] at h
    exact h)
  have HC0 : Hid (∀ wx, Below W0.heap.size W0 wx → Calls Try.prog 45 #[fV (fkd t.ks 0) ea0 ec0 ka0 kc0, .bool false] wx (fun e w' => PuP B (psF (fkd t.ks 0) false) wx e w' ∧ Below W0.heap.size W0 wx)) := Lib.hid (fun wx hx => (hI 0 (by omega) _ _ _ _ _ wx (by have := hP.al.size; have := hx.size; omega) (hr0.under (hx.mono (by have := hP.al.size; omega)))).mono (fun e w' h => ⟨h, hx⟩))
  have HC1 : Hid (∀ wy wx, Below W0.heap.size W0 wy → Below wy.heap.size wy wx → Calls Try.prog 45 #[fV (fkd t.ks 1) ea1 ec1 ka1 kc1, .bool false] wx (fun e w' => PuP B (psF (fkd t.ks 1) false) wx e w' ∧ Below wy.heap.size wy wx)) := Lib.hid (fun wy wx hy hyx => (hI 1 (by omega) _ _ _ _ _ wx (by have := hP.al.size; have := (bt hy hyx).size; omega) (hr1.under ((bt hy hyx).mono (by have := hP.al.size; omega)))).mono (fun e w' h => ⟨h, hyx⟩))
  rw [hn] at hX
  have HX := Lib.hid hX
  have HPW := Lib.hid hP
  have HB := Lib.hid hB
  have HBW : Hid (B ≤ W0.heap.size) := Lib.hid (by have := hP.al.size; omega)
  have p0 : W0.cell? ⟨w.heap.size, 0, none⟩ = some (.int .i64 t.op) := hP.b0.cell 0
  have pl := hP.b0.lt
  have HO := Lib.hid ho
  have HWW := Lib.hid hW0n
  generalize fkd t.ks 0 = x0 at *
  generalize fkd t.ks 1 = x1 at *
  obtain ⟨y0, hy0⟩ : ∃ y, psF x0 false = y := ⟨_, rfl⟩
  obtain ⟨y1, hy1⟩ : ∃ y, psF x1 false = y := ⟨_, rfl⟩
  rw [hy0, hy1] at X
  rw [hy0] at HC0
  rw [hy1] at HC1
  have HDR : Hid (Below W0.heap.size W0 W0.drew) := Lib.hid ((Below.refl _ _).drew)
  have HAD : Hid (Below W0.heap.size W0 (W0.alloc (.cells fZ 27)).drew) := Lib.hid ((bal W0 (.cells fZ 27)).drew)
  clear hy0 hy1 hP hX hr0 hr1 hI hR hB hW0 hW0n ho hn
  go_enter Try.func45, Try.ntmps45
  go_upto_region 1 with (fail)
  rw [HWW.out]
  have g1 : (t.op == 1) = false := by rw [HO.out]; rfl
  have g2 : (t.op == 2) = false := by rw [HO.out]; rfl
  have g5 : (t.op == 5) = false := by rw [HO.out]; rfl
  have g9 : (t.op == 9) = true := by rw [HO.out]; rfl
  go_upto_region 12 with (fail)
  clear p0 g1 g2 g5 g9
  go_cut [5] (fun s5 wx => PuG B W0 t.op y0 y1 s5 wx)
  case first =>
    go_region_held3 (fun wx => (wx.cell? ⟨w.heap.size, 0, none⟩ = some (.int .i64 t.op) ∧ wx.cell? ⟨w.heap.size, 5, none⟩ = some (.slice (some ⟨bb, f, none⟩) 2 c)) ∧ K6 wx bb f x0 ea0 ec0 ka0 kc0 ∧ K6 wx bb (f + 6) x1 ea1 ec1 ka1 kc1) (first
      | with_reducible exact HX.out _ (H4.out _ _ _ _ _ _)
      | with_reducible exact HX.out _ (Frm.of_below H3.out)
      | with_reducible exact HX.out _ (Frm.of_below (al H3.out _))
      | with_reducible exact HX.out _ (Frm.of_below (al (al H2.out _) _))
      | with_reducible exact HX.out _ (Frm.of_below (al H2.out _))
      | with_reducible exact HX.out _ (Frm.of_below H2.out)
      | with_reducible exact HX.out _ (Frm.of_below (al H1.out _))
      | with_reducible exact HX.out _ (Frm.of_below H1.out)
      | with_reducible exact HX.out _ (Frm.of_below HAD.out)
      | with_reducible exact HX.out _ (Frm.of_below HDR.out)
      | with_reducible exact HX.out _ (Frm.refl _ _)
      | exact HX.out _ (Frm.of_below HAD.out)
      | exact HX.out _ (Frm.of_below HDR.out)
      | exact HX.out _ (Frm.refl _ _)) ((first
      | (go_at_call 69; have _ := H2; (with_reducible refine (pr_node _ _ _ _ _).mono ?_); rintro e w3 ⟨rfl, hb3⟩; (first
          | ((with_reducible have hT := one_new w2 (row2 y0 y1 E1 A1 E2 A2 d1 c1 d2 c2) hb3); have hE := hT.1; have HROW := Lib.hid hT.2; clear hT; (first | (have zC := HZB.out.below hE HZB.out.lt) | skip))
          | ((with_reducible have hT := two_new w2 fZ (row2 y0 y1 E1 A1 E2 A2 d1 c1 d2 c2) hb3); have hE := hT.1; have zC := hT.2.1; have HROW := Lib.hid hT.2.2; clear hT)
          | ((with_reducible have hT := two_new w2 (row2 y0 y1 E1 A1 E2 A2 d1 c1 d2 c2) fZ hb3); have hE := hT.1; have zC := hT.2.2; have HROW := Lib.hid hT.2.1; clear hT)); have H3 : Hid (Below W0.heap.size W0 w3) := Lib.hid (bt H2.out hE); have HE := Lib.hid hE; clear hE hb3; (first | (have z0 := zC.cell 0; have z1 := zC.cell 1; have z2 := zC.cell 2; have z3 := zC.cell 3; have z4 := zC.cell 4; have z5 := zC.cell 5; have q0 := zC.frozen 0; have q1 := zC.frozen 1; have q2 := zC.frozen 2; have q3 := zC.frozen 3; have q4 := zC.frozen 4; have q5 := zC.frozen 5; have zl := zC.lt; have H4 := Lib.hid (z6_of (S := fun x => x = w.heap.size + 1) H3.out (by first | exact Nat.le_refl _ | exact H1.out.size | exact H2.out.size | exact Nat.le_succ_of_le H2.out.size) zC); have HZC := Lib.hid zC; clear zC) | skip))
      | (go_at_call 45; have _ := H1; (with_reducible refine (HC1.out w1 _ H1.out (by first | exact Below.refl _ _ | exact bal _ _)).mono ?_); rintro e w2 ⟨⟨E2, d2, A2, c2, rfl, hF2, hb2⟩, hc2⟩; have H2 : Hid (Below W0.heap.size W0 w2) := Lib.hid (bt H1.out (bt hc2 hb2)); (first | ((with_reducible have zB := HZA.out.below (bt hc2 hb2) HZA.out.lt); have HZB := Lib.hid zB; clear zB) | ((with_reducible have zB := (one_new w1 fZ hb2).2); have HZB := Lib.hid zB; clear zB) | skip); have HF2 := Lib.hid hF2; have HB2w := Lib.hid hb2; have HC2w := Lib.hid hc2; clear hF2 hb2 hc2)
      | (go_at_call 45; (with_reducible refine (HC0.out _ (by first | exact HDR.out | exact HAD.out)).mono ?_); rintro e w1 ⟨⟨E1, d1, A1, c1, rfl, hF1, hb1⟩, hc1⟩; have H1 : Hid (Below W0.heap.size W0 w1) := Lib.hid (bt hc1 hb1); (first | ((with_reducible have zA := new_drew W0 fZ hb1); have HZA := Lib.hid zA; clear zA) | skip); have HF1 := Lib.hid hF1; have HB1w := Lib.hid hb1; have HC1w := Lib.hid hc1; clear hF1 hb1 hc1)))
    all_goals
      go_wp2_with fail
      go_meet
      first
        | (have _ := HZC; exact puG_old HBW.out HC1w.out HB1w.out HF1.out HC2w.out HB2w.out HF2.out HE.out HROW.out (by first | exact Nat.le_refl _ | exact Nat.le_succ _) (by first | exact Nat.le_refl _ | exact H1.out.size | exact H2.out.size | exact Nat.le_succ_of_le H2.out.size) (by first | exact .inr (.inr ⟨Nat.le_refl _, Nat.ne_of_lt (Nat.lt_succ_self _)⟩) | exact .inr (.inr ⟨Nat.le_succ _, Nat.succ_ne_self _⟩) | (left; simp; done) | (right; left; exact ⟨Nat.le_refl _, by simp⟩)) HZC.out)
        | exact puG_new HBW.out HC1w.out HB1w.out HF1.out HC2w.out HB2w.out HF2.out HE.out HROW.out (Nat.le_refl _)
  case rest =>
    obtain ⟨Y, R, rfl, hY0, hYb, hF, hbw⟩ := hcut
    obtain ⟨w3, w3e⟩ : ∃ x, x = wc := ⟨_, rfl⟩
    subst w3e
    have zz := HPW.out.b1.below hbw HPW.out.b1.lt
    have s0 := hYb.cell 0
    have s1 := hYb.cell 1
    have s2 := hYb.cell 2
    have s3 := hYb.cell 3
    have s4 := hYb.cell 4
    have s5 := hYb.cell 5
    have HZ := Lib.hid zz
    have HYB := Lib.hid hYb
    have HF := Lib.hid hF
    have HBW3 := Lib.hid hbw
    have HBG : Hid (Below w.heap.size w w3) := Lib.hid (HPW.out.al.trans (hbw.mono HPW.out.al.size))
    have HK : Hid (w.heap.size + 1 + 1 ≤ W0.heap.size) := Lib.hid (Nat.le_of_eq HPW.out.sz.symm)
    have HK3 : Hid (w.heap.size + 1 + 1 ≤ w3.heap.size) := Lib.hid (Nat.le_trans HK.out hbw.size)
    clear hYb hF hbw hY0 HC0 HC1
    cases b
    · have X2 : Hid (psF t false = .mk t.op ex0 [y0, y1]) := Lib.hid (by rw [X.out]; rfl)
      have z0 := zz.cell 0
      have z1 := zz.cell 1
      have z2 := zz.cell 2
      have z3 := zz.cell 3
      have z4 := zz.cell 4
      have z5 := zz.cell 5
      have q0 := zz.frozen 0
      have q1 := zz.frozen 1
      have q2 := zz.frozen 2
      have q3 := zz.frozen 3
      have q4 := zz.frozen 4
      have q5 := zz.frozen 5
      have zl := zz.lt
      clear zz X
      go_wp2
      refine bodyPost_ret (res_fx rfl _ _ (w.heap.size + 1) _ _ _ _ _ _ rfl (z6_ret _ _ _ _ _ _ HZ.out)) rfl ?_
      rw [X2.out]
      have h := z6_keep (.int .i64 t.op) (.int .i64 0) (.int .i64 0) (.string ⟨#[]⟩) (.slice none 0 0) (.slice (some ⟨R, 0, none⟩) 2 2) (w := w) rfl HB.out HBG.out HK.out HK3.out HF.out
      exact ⟨none, 0, some ⟨R, 0, none⟩, 2, rfl, h.1, h.2⟩
    · have X2 : Hid (psF t true = .mk 2 ex0 [.mk t.op ex0 [y0, y1]]) := Lib.hid (by rw [X.out]; rfl)
      clear zz X
      go_wp2_with (go_at_call 69; (with_reducible refine (pr_node 2 (some ⟨w3.heap.size, 0, none⟩) 1 1 _).mono ?_); rintro e w4 ⟨rfl, hb4⟩; have hT := one_new w3 (nodC t.op R 2 2) hb4; have hz := HZ.out.below hT.1 HZ.out.lt; have z0 := hz.cell 0; have z1 := hz.cell 1; have z2 := hz.cell 2; have z3 := hz.cell 3; have z4 := hz.cell 4; have z5 := hz.cell 5; have q0 := hz.frozen 0; have q1 := hz.frozen 1; have q2 := hz.frozen 2; have q3 := hz.frozen 3; have q4 := hz.frozen 4; have q5 := hz.frozen 5; have zl := hz.lt; have HZ4 := Lib.hid hz; have HT := Lib.hid hT; clear hz hb4 hT)
      refine bodyPost_ret (res_fx rfl _ _ (w.heap.size + 1) _ _ _ _ _ _ rfl (z6_ret _ _ _ _ _ _ HZ4.out)) rfl ?_
      rw [X2.out]
      have hT := HT.out
      have hs := hT.1.size
      have hlt := hT.2.lt
      have hks := HBW3.out.size
      have hg : FmS (Ot B W0.heap.size w4) w4 (.mk 2 ex0 [.mk t.op ex0 [y0, y1]]) none (some ⟨w3.heap.size, 0, none⟩) :=
        ⟨RepS.leaf rfl, rep_single 2 ex0 (.inr ⟨hks, hlt⟩) ⟨hT.2.cell 0, hT.2.cell 1, hT.2.cell 2, hT.2.cell 3, hT.2.cell 4, hT.2.cell 5⟩ ((HF.out.kept (fun y hy => hT.1.block y (by have := HBW.out; rcases hy with h | h <;> omega))).mono (fun y hy => hy.imp id (fun h => ⟨by omega, by omega⟩)))⟩
      have h := z6_keep (.int .i64 2) (.int .i64 0) (.int .i64 0) (.string ⟨#[]⟩) (.slice none 0 0) (.slice (some ⟨w3.heap.size, 0, none⟩) 1 1) (w := w) rfl HB.out (HBG.out.trans (hT.1.mono (by have := HK3.out; omega))) HK.out (by have := HK3.out; omega) hg
      exact ⟨none, 0, some ⟨w3.heap.size, 0, none⟩, 1, rfl, h.1, h.2⟩
end Go.Proofs.Ytnjkphopklbogaa
namespace Go.Proofs.Ytnjkphopklbogaa
open Go.RowKit

set_option maxRecDepth 100000 in
set_option maxHeartbeats 16000000 in
theorem pr_push13 (B : Nat) (t : Fx) (E A : Option Addr) (dd c : Nat) (b : Bool) (w : World) (ho : t.op = 13) (hn : t.ks.length = 2) (hB : B ≤ w.heap.size) (hR : Fm B w t E A) (hI : PuI 45 B t) :
    Calls Try.prog 45 #[fV t E dd A c, .bool b] w (PuP B (psF t b) w) := by
  obtain ⟨W0, hW0⟩ : ∃ W, (w.alloc (.cells (fC t E dd A c) 27)).alloc (.cells fZ 27) = W := ⟨_, rfl⟩
  have hP := PuW.mk' (dd := dd) (c := c) hB hR
  rw [hW0] at hP
  have hW0n : (w.alloc (.cells #[.int .i64 t.op, .int .i64 t.e.op, .int .i64 t.e.vr, .string t.e.nm, .slice E t.e.ks.length dd, .slice A 2 c] 27)).alloc (.cells fZ 27) = W0 := by rw [← hn]; exact hW0
  show Calls Try.prog 45 #[.agg #[.int .i64 t.op, .int .i64 t.e.op, .int .i64 t.e.vr, .string t.e.nm, .slice E t.e.ks.length dd, .slice A t.ks.length c], .bool b] w _
  rw [hn]
  obtain ⟨bb, f, ea0, ec0, ka0, kc0, ea1, ec1, ka1, kc1, rfl, hX, hr0, hr1⟩ := hP.two hn
  have X : Hid (psF t b = if b then .mk 2 ex0 [.mk t.op ex0 [psF (fkd t.ks 0) false, psF (fkd t.ks 1) false]] else .mk t.op ex0 [psF (fkd t.ks 0) false, psF (fkd t.ks 1) false]) := Lib.hid (by
    have h := psF_eq t b
    rw [if_neg (by omega), if_neg (by omega), if_neg (by omega), if_pos (by omega), apF_at _ _ _ (by omega), apF_at _ _ _ (by omega)] at h
    exact h)
  have HC0 : Hid (∀ wx, Below W0.heap.size W0 wx → Calls Try.prog 45 #[fV (fkd t.ks 0) ea0 ec0 ka0 kc0, .bool false] wx (fun e w' => PuP B (psF (fkd t.ks 0) false) wx e w' ∧ Below W0.heap.size W0 wx)) := Lib.hid (fun wx hx => (hI 0 (by omega) _ _ _ _ _ wx (by have := hP.al.size; have := hx.size; omega) (hr0.under (hx.mono (by have := hP.al.size; omega)))).mono (fun e w' h => ⟨h, hx⟩))
  have HC1 : Hid (∀ wy wx, Below W0.heap.size W0 wy → Below wy.heap.size wy wx → Calls Try.prog 45 #[fV (fkd t.ks 1) ea1 ec1 ka1 kc1, .bool false] wx (fun e w' => PuP B (psF (fkd t.ks 1) false) wx e w' ∧ Below wy.heap.size wy wx)) := Lib.hid (fun wy wx hy hyx => (hI 1 (by omega) _ _ _ _ _ wx (by have := hP.al.size; have := (bt hy hyx).size; omega) (hr1.under ((bt hy hyx).mono (by have := hP.al.size; omega)))).mono (fun e w' h => ⟨h, hyx⟩))
  rw [hn] at hX
  have HX := Lib.hid hX
  have HPW := Lib.hid hP
  have HB := Lib.hid hB
  have HBW : Hid (B ≤ W0.heap.size) := Lib.hid (by have := hP.al.size; omega)
  have p0 : W0.cell? ⟨w.heap.size, 0, none⟩ = some (.int .i64 t.op) := hP.b0.cell 0
  have pl := hP.b0.lt
  have HO := Lib.hid ho
  have HWW := Lib.hid hW0n
  generalize fkd t.ks 0 = x0 at *
  generalize fkd t.ks 1 = x1 at *
  obtain ⟨y0, hy0⟩ : ∃ y, psF x0 false = y := ⟨_, rfl⟩
  obtain ⟨y1, hy1⟩ : ∃ y, psF x1 false = y := ⟨_, rfl⟩
  rw [hy0, hy1] at X
  rw [hy0] at HC0
  rw [hy1] at HC1
  have HDR : Hid (Below W0.heap.size W0 W0.drew) := Lib.hid ((Below.refl _ _).drew)
  have HAD : Hid (Below W0.heap.size W0 (W0.alloc (.cells fZ 27)).drew) := Lib.hid ((bal W0 (.cells fZ 27)).drew)
  clear hy0 hy1 hP hX hr0 hr1 hI hR hB hW0 hW0n ho hn
  go_enter Try.func45, Try.ntmps45
  go_upto_region 1 with (fail)
  rw [HWW.out]
  have g1 : (t.op == 1) = false := by rw [HO.out]; rfl
  have g2 : (t.op == 2) = false := by rw [HO.out]; rfl
  have g5 : (t.op == 5) = false := by rw [HO.out]; rfl
  have g9 : (t.op == 9) = false := by rw [HO.out]; rfl
  have g13 : (t.op == 13) = true := by rw [HO.out]; rfl
  go_upto_region 12 with (fail)
  clear p0 g1 g2 g5 g9 g13
  go_cut [5] (fun s5 wx => PuG B W0 t.op y0 y1 s5 wx)
  case first =>
    go_region_held3 (fun wx => (wx.cell? ⟨w.heap.size, 0, none⟩ = some (.int .i64 t.op) ∧ wx.cell? ⟨w.heap.size, 5, none⟩ = some (.slice (some ⟨bb, f, none⟩) 2 c)) ∧ K6 wx bb f x0 ea0 ec0 ka0 kc0 ∧ K6 wx bb (f + 6) x1 ea1 ec1 ka1 kc1) (first
      | with_reducible exact HX.out _ (H4.out _ _ _ _ _ _)
      | with_reducible exact HX.out _ (Frm.of_below H3.out)
      | with_reducible exact HX.out _ (Frm.of_below (al H3.out _))
      | with_reducible exact HX.out _ (Frm.of_below (al (al H2.out _) _))
      | with_reducible exact HX.out _ (Frm.of_below (al H2.out _))
      | with_reducible exact HX.out _ (Frm.of_below H2.out)
      | with_reducible exact HX.out _ (Frm.of_below (al H1.out _))
      | with_reducible exact HX.out _ (Frm.of_below H1.out)
      | with_reducible exact HX.out _ (Frm.of_below HAD.out)
      | with_reducible exact HX.out _ (Frm.of_below HDR.out)
      | with_reducible exact HX.out _ (Frm.refl _ _)
      | exact HX.out _ (Frm.of_below HAD.out)
      | exact HX.out _ (Frm.of_below HDR.out)
      | exact HX.out _ (Frm.refl _ _)) ((first
      | (go_at_call 69; have _ := H2; (with_reducible refine (pr_node _ _ _ _ _).mono ?_); rintro e w3 ⟨rfl, hb3⟩; (first
          | ((with_reducible have hT := one_new w2 (row2 y0 y1 E1 A1 E2 A2 d1 c1 d2 c2) hb3); have hE := hT.1; have HROW := Lib.hid hT.2; clear hT; (first | (have zC := HZB.out.below hE HZB.out.lt) | skip))
          | ((with_reducible have hT := two_new w2 fZ (row2 y0 y1 E1 A1 E2 A2 d1 c1 d2 c2) hb3); have hE := hT.1; have zC := hT.2.1; have HROW := Lib.hid hT.2.2; clear hT)
          | ((with_reducible have hT := two_new w2 (row2 y0 y1 E1 A1 E2 A2 d1 c1 d2 c2) fZ hb3); have hE := hT.1; have zC := hT.2.2; have HROW := Lib.hid hT.2.1; clear hT)); have H3 : Hid (Below W0.heap.size W0 w3) := Lib.hid (bt H2.out hE); have HE := Lib.hid hE; clear hE hb3; (first | (have z0 := zC.cell 0; have z1 := zC.cell 1; have z2 := zC.cell 2; have z3 := zC.cell 3; have z4 := zC.cell 4; have z5 := zC.cell 5; have q0 := zC.frozen 0; have q1 := zC.frozen 1; have q2 := zC.frozen 2; have q3 := zC.frozen 3; have q4 := zC.frozen 4; have q5 := zC.frozen 5; have zl := zC.lt; have H4 := Lib.hid (z6_of (S := fun x => x = w.heap.size + 1) H3.out (by first | exact Nat.le_refl _ | exact H1.out.size | exact H2.out.size | exact Nat.le_succ_of_le H2.out.size) zC); have HZC := Lib.hid zC; clear zC) | skip))
      | (go_at_call 45; have _ := H1; (with_reducible refine (HC1.out w1 _ H1.out (by first | exact Below.refl _ _ | exact bal _ _)).mono ?_); rintro e w2 ⟨⟨E2, d2, A2, c2, rfl, hF2, hb2⟩, hc2⟩; have H2 : Hid (Below W0.heap.size W0 w2) := Lib.hid (bt H1.out (bt hc2 hb2)); (first | ((with_reducible have zB := HZA.out.below (bt hc2 hb2) HZA.out.lt); have HZB := Lib.hid zB; clear zB) | ((with_reducible have zB := (one_new w1 fZ hb2).2); have HZB := Lib.hid zB; clear zB) | skip); have HF2 := Lib.hid hF2; have HB2w := Lib.hid hb2; have HC2w := Lib.hid hc2; clear hF2 hb2 hc2)
      | (go_at_call 45; (with_reducible refine (HC0.out _ (by first | exact HDR.out | exact HAD.out)).mono ?_); rintro e w1 ⟨⟨E1, d1, A1, c1, rfl, hF1, hb1⟩, hc1⟩; have H1 : Hid (Below W0.heap.size W0 w1) := Lib.hid (bt hc1 hb1); (first | ((with_reducible have zA := new_drew W0 fZ hb1); have HZA := Lib.hid zA; clear zA) | skip); have HF1 := Lib.hid hF1; have HB1w := Lib.hid hb1; have HC1w := Lib.hid hc1; clear hF1 hb1 hc1)))
    all_goals
      go_wp2_with fail
      go_meet
      first
        | (have _ := HZC; exact puG_old HBW.out HC1w.out HB1w.out HF1.out HC2w.out HB2w.out HF2.out HE.out HROW.out (by first | exact Nat.le_refl _ | exact Nat.le_succ _) (by first | exact Nat.le_refl _ | exact H1.out.size | exact H2.out.size | exact Nat.le_succ_of_le H2.out.size) (by first | exact .inr (.inr ⟨Nat.le_refl _, Nat.ne_of_lt (Nat.lt_succ_self _)⟩) | exact .inr (.inr ⟨Nat.le_succ _, Nat.succ_ne_self _⟩) | (left; simp; done) | (right; left; exact ⟨Nat.le_refl _, by simp⟩)) HZC.out)
        | exact puG_new HBW.out HC1w.out HB1w.out HF1.out HC2w.out HB2w.out HF2.out HE.out HROW.out (Nat.le_refl _)
  case rest =>
    obtain ⟨Y, R, rfl, hY0, hYb, hF, hbw⟩ := hcut
    obtain ⟨w3, w3e⟩ : ∃ x, x = wc := ⟨_, rfl⟩
    subst w3e
    have zz := HPW.out.b1.below hbw HPW.out.b1.lt
    have s0 := hYb.cell 0
    have s1 := hYb.cell 1
    have s2 := hYb.cell 2
    have s3 := hYb.cell 3
    have s4 := hYb.cell 4
    have s5 := hYb.cell 5
    have HZ := Lib.hid zz
    have HYB := Lib.hid hYb
    have HF := Lib.hid hF
    have HBW3 := Lib.hid hbw
    have HBG : Hid (Below w.heap.size w w3) := Lib.hid (HPW.out.al.trans (hbw.mono HPW.out.al.size))
    have HK : Hid (w.heap.size + 1 + 1 ≤ W0.heap.size) := Lib.hid (Nat.le_of_eq HPW.out.sz.symm)
    have HK3 : Hid (w.heap.size + 1 + 1 ≤ w3.heap.size) := Lib.hid (Nat.le_trans HK.out hbw.size)
    clear hYb hF hbw hY0 HC0 HC1
    cases b
    · have X2 : Hid (psF t false = .mk t.op ex0 [y0, y1]) := Lib.hid (by rw [X.out]; rfl)
      have z0 := zz.cell 0
      have z1 := zz.cell 1
      have z2 := zz.cell 2
      have z3 := zz.cell 3
      have z4 := zz.cell 4
      have z5 := zz.cell 5
      have q0 := zz.frozen 0
      have q1 := zz.frozen 1
      have q2 := zz.frozen 2
      have q3 := zz.frozen 3
      have q4 := zz.frozen 4
      have q5 := zz.frozen 5
      have zl := zz.lt
      clear zz X
      go_wp2
      refine bodyPost_ret (res_fx rfl _ _ (w.heap.size + 1) _ _ _ _ _ _ rfl (z6_ret _ _ _ _ _ _ HZ.out)) rfl ?_
      rw [X2.out]
      have h := z6_keep (.int .i64 t.op) (.int .i64 0) (.int .i64 0) (.string ⟨#[]⟩) (.slice none 0 0) (.slice (some ⟨R, 0, none⟩) 2 2) (w := w) rfl HB.out HBG.out HK.out HK3.out HF.out
      exact ⟨none, 0, some ⟨R, 0, none⟩, 2, rfl, h.1, h.2⟩
    · have X2 : Hid (psF t true = .mk 2 ex0 [.mk t.op ex0 [y0, y1]]) := Lib.hid (by rw [X.out]; rfl)
      clear zz X
      go_wp2_with (go_at_call 69; (with_reducible refine (pr_node 2 (some ⟨w3.heap.size, 0, none⟩) 1 1 _).mono ?_); rintro e w4 ⟨rfl, hb4⟩; have hT := one_new w3 (nodC t.op R 2 2) hb4; have hz := HZ.out.below hT.1 HZ.out.lt; have z0 := hz.cell 0; have z1 := hz.cell 1; have z2 := hz.cell 2; have z3 := hz.cell 3; have z4 := hz.cell 4; have z5 := hz.cell 5; have q0 := hz.frozen 0; have q1 := hz.frozen 1; have q2 := hz.frozen 2; have q3 := hz.frozen 3; have q4 := hz.frozen 4; have q5 := hz.frozen 5; have zl := hz.lt; have HZ4 := Lib.hid hz; have HT := Lib.hid hT; clear hz hb4 hT)
      refine bodyPost_ret (res_fx rfl _ _ (w.heap.size + 1) _ _ _ _ _ _ rfl (z6_ret _ _ _ _ _ _ HZ4.out)) rfl ?_
      rw [X2.out]
      have hT := HT.out
      have hs := hT.1.size
      have hlt := hT.2.lt
      have hks := HBW3.out.size
      have hg : FmS (Ot B W0.heap.size w4) w4 (.mk 2 ex0 [.mk t.op ex0 [y0, y1]]) none (some ⟨w3.heap.size, 0, none⟩) :=
        ⟨RepS.leaf rfl, rep_single 2 ex0 (.inr ⟨hks, hlt⟩) ⟨hT.2.cell 0, hT.2.cell 1, hT.2.cell 2, hT.2.cell 3, hT.2.cell 4, hT.2.cell 5⟩ ((HF.out.kept (fun y hy => hT.1.block y (by have := HBW.out; rcases hy with h | h <;> omega))).mono (fun y hy => hy.imp id (fun h => ⟨by omega, by omega⟩)))⟩
      have h := z6_keep (.int .i64 2) (.int .i64 0) (.int .i64 0) (.string ⟨#[]⟩) (.slice none 0 0) (.slice (some ⟨w3.heap.size, 0, none⟩) 1 1) (w := w) rfl HB.out (HBG.out.trans (hT.1.mono (by have := HK3.out; omega))) HK.out (by have := HK3.out; omega) hg
      exact ⟨none, 0, some ⟨w3.heap.size, 0, none⟩, 1, rfl, h.1, h.2⟩
end Go.Proofs.Ytnjkphopklbogaa
namespace Go.Proofs.Ytnjkphopklbogaa
open Go.RowKit

set_option maxRecDepth 100000 in
set_option maxHeartbeats 16000000 in
theorem rf_push9 (B : Nat) (t : Fx) (E A : Option Addr) (dd c : Nat) (b : Bool) (w : World) (ho : t.op = 9) (hn : t.ks.length = 2) (hB : B ≤ w.heap.size) (hR : Fm B w t E A) (hI : PuI 47 B t) :
    Calls Try.prog 47 #[fV t E dd A c, .bool b] w (PuP B (psF t b) w) := by
  obtain ⟨W0, hW0⟩ : ∃ W, (w.alloc (.cells (fC t E dd A c) 27)).alloc (.cells fZ 27) = W := ⟨_, rfl⟩
  have hP := PuW.mk' (dd := dd) (c := c) hB hR
  rw [hW0] at hP
  have hW0n : (w.alloc (.cells #[.int .i64 t.op, .int .i64 t.e.op, .int .i64 t.e.vr, .string t.e.nm, .slice E t.e.ks.length dd, .slice A 2 c] 27)).alloc (.cells fZ 27) = W0 := by rw [← hn]; exact hW0
  show Calls Try.prog 47 #[.agg #[.int .i64 t.op, .int .i64 t.e.op, .int .i64 t.e.vr, .string t.e.nm, .slice E t.e.ks.length dd, .slice A t.ks.length c], .bool b] w _
  rw [hn]
  obtain ⟨bb, f, ea0, ec0, ka0, kc0, ea1, ec1, ka1, kc1, rfl, hX, hr0, hr1⟩ := hP.two hn
  have X : Hid (psF t b = if b then .mk 2 ex0 [.mk t.op ex0 [psF (fkd t.ks 0) false, psF (fkd t.ks 1) false]] else .mk t.op ex0 [psF (fkd t.ks 0) false, psF (fkd t.ks 1) false]) := Lib.hid (by
    have h := psF_eq t b
    rw [if_neg (by omega), if_neg (by omega), if_neg (by omega), if_pos (by omega), apF_at _ _ _ (by omega), apF_at _ _ _ (by omega)] at h
    exact h)
  have HC0 : Hid (∀ wx, Below W0.heap.size W0 wx → Calls Try.prog 47 #[fV (fkd t.ks 0) ea0 ec0 ka0 kc0, .bool false] wx (fun e w' => PuP B (psF (fkd t.ks 0) false) wx e w' ∧ Below W0.heap.size W0 wx)) := Lib.hid (fun wx hx => (hI 0 (by omega) _ _ _ _ _ wx (by have := hP.al.size; have := hx.size; omega) (hr0.under (hx.mono (by have := hP.al.size; omega)))).mono (fun e w' h => ⟨h, hx⟩))
  have HC1 : Hid (∀ wy wx, Below W0.heap.size W0 wy → Below wy.heap.size wy wx → Calls Try.prog 47 #[fV (fkd t.ks 1) ea1 ec1 ka1 kc1, .bool false] wx (fun e w' => PuP B (psF (fkd t.ks 1) false) wx e w' ∧ Below wy.heap.size wy wx)) := Lib.hid (fun wy wx hy hyx => (hI 1 (by omega) _ _ _ _ _ wx (by have := hP.al.size; have := (bt hy hyx).size; omega) (hr1.under ((bt hy hyx).mono (by have := hP.al.size; omega)))).mono (fun e w' h => ⟨h, hyx⟩))
  rw [hn] at hX
  have HX := Lib.hid hX
  have HPW := Lib.hid hP
  have HB := Lib.hid hB
  have HBW : Hid (B ≤ W0.heap.size) := Lib.hid (by have := hP.al.size; omega)
  have p0 : W0.cell? ⟨w.heap.size, 0, none⟩ = some (.int .i64 t.op) := hP.b0.cell 0
  have pl := hP.b0.lt
  have HO := Lib.hid ho
  have HWW := Lib.hid hW0n
  generalize fkd t.ks 0 = x0 at *
  generalize fkd t.ks 1 = x1 at *
  obtain ⟨y0, hy0⟩ : ∃ y, psF x0 false = y := ⟨_, rfl⟩
  obtain ⟨y1, hy1⟩ : ∃ y, psF x1 false = y := ⟨_, rfl⟩
  rw [hy0, hy1] at X
  rw [hy0] at HC0
  rw [hy1] at HC1
  have HDR : Hid (Below W0.heap.size W0 W0.drew) := Lib.hid ((Below.refl _ _).drew)
  have HAD : Hid (Below W0.heap.size W0 (W0.alloc (.cells fZ 27)).drew) := Lib.hid ((bal W0 (.cells fZ 27)).drew)
  clear hy0 hy1 hP hX hr0 hr1 hI hR hB hW0 hW0n ho hn
  go_enter Try.func47, Try.ntmps47
  go_upto_region 1 with (fail)
  rw [HWW.out]
  have g1 : (t.op == 1) = false := by rw [HO.out]; rfl
  have g2 : (t.op == 2) = false := by rw [HO.out]; rfl
  have g5 : (t.op == 5) = false := by rw [HO.out]; rfl
  have g9 : (t.op == 9) = true := by rw [HO.out]; rfl
  go_upto_region 14 with (fail)
  clear p0 g1 g2 g5 g9
  go_cut [5] (fun s5 wx => PuG B W0 t.op y0 y1 s5 wx)
  case first =>
    go_region_held3 (fun wx => (wx.cell? ⟨w.heap.size, 0, none⟩ = some (.int .i64 t.op) ∧ wx.cell? ⟨w.heap.size, 5, none⟩ = some (.slice (some ⟨bb, f, none⟩) 2 c)) ∧ K6 wx bb f x0 ea0 ec0 ka0 kc0 ∧ K6 wx bb (f + 6) x1 ea1 ec1 ka1 kc1) (first
      | with_reducible exact HX.out _ (H4.out _ _ _ _ _ _)
      | with_reducible exact HX.out _ (Frm.of_below H3.out)
      | with_reducible exact HX.out _ (Frm.of_below (al H3.out _))
      | with_reducible exact HX.out _ (Frm.of_below (al (al H2.out _) _))
      | with_reducible exact HX.out _ (Frm.of_below (al H2.out _))
      | with_reducible exact HX.out _ (Frm.of_below H2.out)
      | with_reducible exact HX.out _ (Frm.of_below (al H1.out _))
      | with_reducible exact HX.out _ (Frm.of_below H1.out)
      | with_reducible exact HX.out _ (Frm.of_below HAD.out)
      | with_reducible exact HX.out _ (Frm.of_below HDR.out)
      | with_reducible exact HX.out _ (Frm.refl _ _)
      | exact HX.out _ (Frm.of_below HAD.out)
      | exact HX.out _ (Frm.of_below HDR.out)
      | exact HX.out _ (Frm.refl _ _)) ((first
      | (go_at_call 73; have _ := H2; (with_reducible refine (rf_kids _ _ _ _ _).mono ?_); rintro e w3 ⟨rfl, hb3⟩; (first
          | ((with_reducible have hT := one_new w2 (row2 y0 y1 E1 A1 E2 A2 d1 c1 d2 c2) hb3); have hE := hT.1; have HROW := Lib.hid hT.2; clear hT; (first | (have zC := HZB.out.below hE HZB.out.lt) | skip))
          | ((with_reducible have hT := two_new w2 fZ (row2 y0 y1 E1 A1 E2 A2 d1 c1 d2 c2) hb3); have hE := hT.1; have zC := hT.2.1; have HROW := Lib.hid hT.2.2; clear hT)
          | ((with_reducible have hT := two_new w2 (row2 y0 y1 E1 A1 E2 A2 d1 c1 d2 c2) fZ hb3); have hE := hT.1; have zC := hT.2.2; have HROW := Lib.hid hT.2.1; clear hT)); have H3 : Hid (Below W0.heap.size W0 w3) := Lib.hid (bt H2.out hE); have HE := Lib.hid hE; clear hE hb3; (first | (have z0 := zC.cell 0; have z1 := zC.cell 1; have z2 := zC.cell 2; have z3 := zC.cell 3; have z4 := zC.cell 4; have z5 := zC.cell 5; have q0 := zC.frozen 0; have q1 := zC.frozen 1; have q2 := zC.frozen 2; have q3 := zC.frozen 3; have q4 := zC.frozen 4; have q5 := zC.frozen 5; have zl := zC.lt; have H4 := Lib.hid (z6_of (S := fun x => x = w.heap.size + 1) H3.out (by first | exact Nat.le_refl _ | exact H1.out.size | exact H2.out.size | exact Nat.le_succ_of_le H2.out.size) zC); have HZC := Lib.hid zC; clear zC) | skip))
      | (go_at_call 47; have _ := H1; (with_reducible refine (HC1.out w1 _ H1.out (by first | exact Below.refl _ _ | exact bal _ _)).mono ?_); rintro e w2 ⟨⟨E2, d2, A2, c2, rfl, hF2, hb2⟩, hc2⟩; have H2 : Hid (Below W0.heap.size W0 w2) := Lib.hid (bt H1.out (bt hc2 hb2)); (first | ((with_reducible have zB := HZA.out.below (bt hc2 hb2) HZA.out.lt); have HZB := Lib.hid zB; clear zB) | ((with_reducible have zB := (one_new w1 fZ hb2).2); have HZB := Lib.hid zB; clear zB) | skip); have HF2 := Lib.hid hF2; have HB2w := Lib.hid hb2; have HC2w := Lib.hid hc2; clear hF2 hb2 hc2)
      | (go_at_call 47; (with_reducible refine (HC0.out _ (by first | exact HDR.out | exact HAD.out)).mono ?_); rintro e w1 ⟨⟨E1, d1, A1, c1, rfl, hF1, hb1⟩, hc1⟩; have H1 : Hid (Below W0.heap.size W0 w1) := Lib.hid (bt hc1 hb1); (first | ((with_reducible have zA := new_drew W0 fZ hb1); have HZA := Lib.hid zA; clear zA) | skip); have HF1 := Lib.hid hF1; have HB1w := Lib.hid hb1; have HC1w := Lib.hid hc1; clear hF1 hb1 hc1)))
    all_goals
      go_wp2_with fail
      go_meet
      first
        | (have _ := HZC; exact puG_old HBW.out HC1w.out HB1w.out HF1.out HC2w.out HB2w.out HF2.out HE.out HROW.out (by first | exact Nat.le_refl _ | exact Nat.le_succ _) (by first | exact Nat.le_refl _ | exact H1.out.size | exact H2.out.size | exact Nat.le_succ_of_le H2.out.size) (by first | exact .inr (.inr ⟨Nat.le_refl _, Nat.ne_of_lt (Nat.lt_succ_self _)⟩) | exact .inr (.inr ⟨Nat.le_succ _, Nat.succ_ne_self _⟩) | (left; simp; done) | (right; left; exact ⟨Nat.le_refl _, by simp⟩)) HZC.out)
        | exact puG_new HBW.out HC1w.out HB1w.out HF1.out HC2w.out HB2w.out HF2.out HE.out HROW.out (Nat.le_refl _)
  case rest =>
    obtain ⟨Y, R, rfl, hY0, hYb, hF, hbw⟩ := hcut
    obtain ⟨w3, w3e⟩ : ∃ x, x = wc := ⟨_, rfl⟩
    subst w3e
    have zz := HPW.out.b1.below hbw HPW.out.b1.lt
    have s0 := hYb.cell 0
    have s1 := hYb.cell 1
    have s2 := hYb.cell 2
    have s3 := hYb.cell 3
    have s4 := hYb.cell 4
    have s5 := hYb.cell 5
    have HZ := Lib.hid zz
    have HYB := Lib.hid hYb
    have HF := Lib.hid hF
    have HBW3 := Lib.hid hbw
    have HBG : Hid (Below w.heap.size w w3) := Lib.hid (HPW.out.al.trans (hbw.mono HPW.out.al.size))
    have HK : Hid (w.heap.size + 1 + 1 ≤ W0.heap.size) := Lib.hid (Nat.le_of_eq HPW.out.sz.symm)
    have HK3 : Hid (w.heap.size + 1 + 1 ≤ w3.heap.size) := Lib.hid (Nat.le_trans HK.out hbw.size)
    clear hYb hF hbw hY0 HC0 HC1
    cases b
    · have X2 : Hid (psF t false = .mk t.op ex0 [y0, y1]) := Lib.hid (by rw [X.out]; rfl)
      have z0 := zz.cell 0
      have z1 := zz.cell 1
      have z2 := zz.cell 2
      have z3 := zz.cell 3
      have z4 := zz.cell 4
      have z5 := zz.cell 5
      have q0 := zz.frozen 0
      have q1 := zz.frozen 1
      have q2 := zz.frozen 2
      have q3 := zz.frozen 3
      have q4 := zz.frozen 4
      have q5 := zz.frozen 5
      have zl := zz.lt
      clear zz X
      go_wp2
      refine bodyPost_ret (res_fx rfl _ _ (w.heap.size + 1) _ _ _ _ _ _ rfl (z6_ret _ _ _ _ _ _ HZ.out)) rfl ?_
      rw [X2.out]
      have h := z6_keep (.int .i64 t.op) (.int .i64 0) (.int .i64 0) (.string ⟨#[]⟩) (.slice none 0 0) (.slice (some ⟨R, 0, none⟩) 2 2) (w := w) rfl HB.out HBG.out HK.out HK3.out HF.out
      exact ⟨none, 0, some ⟨R, 0, none⟩, 2, rfl, h.1, h.2⟩
    · have X2 : Hid (psF t true = .mk 2 ex0 [.mk t.op ex0 [y0, y1]]) := Lib.hid (by rw [X.out]; rfl)
      clear zz X
      go_wp2_with (go_at_call 73; (with_reducible refine (rf_kids 2 (some ⟨w3.heap.size, 0, none⟩) 1 1 _).mono ?_); rintro e w4 ⟨rfl, hb4⟩; have hT := one_new w3 (nodC t.op R 2 2) hb4; have hz := HZ.out.below hT.1 HZ.out.lt; have z0 := hz.cell 0; have z1 := hz.cell 1; have z2 := hz.cell 2; have z3 := hz.cell 3; have z4 := hz.cell 4; have z5 := hz.cell 5; have q0 := hz.frozen 0; have q1 := hz.frozen 1; have q2 := hz.frozen 2; have q3 := hz.frozen 3; have q4 := hz.frozen 4; have q5 := hz.frozen 5; have zl := hz.lt; have HZ4 := Lib.hid hz; have HT := Lib.hid hT; clear hz hb4 hT)
      refine bodyPost_ret (res_fx rfl _ _ (w.heap.size + 1) _ _ _ _ _ _ rfl (z6_ret _ _ _ _ _ _ HZ4.out)) rfl ?_
      rw [X2.out]
      have hT := HT.out
      have hs := hT.1.size
      have hlt := hT.2.lt
      have hks := HBW3.out.size
      have hg : FmS (Ot B W0.heap.size w4) w4 (.mk 2 ex0 [.mk t.op ex0 [y0, y1]]) none (some ⟨w3.heap.size, 0, none⟩) :=
        ⟨RepS.leaf rfl, rep_single 2 ex0 (.inr ⟨hks, hlt⟩) ⟨hT.2.cell 0, hT.2.cell 1, hT.2.cell 2, hT.2.cell 3, hT.2.cell 4, hT.2.cell 5⟩ ((HF.out.kept (fun y hy => hT.1.block y (by have := HBW.out; rcases hy with h | h <;> omega))).mono (fun y hy => hy.imp id (fun h => ⟨by omega, by omega⟩)))⟩
      have h := z6_keep (.int .i64 2) (.int .i64 0) (.int .i64 0) (.string ⟨#[]⟩) (.slice none 0 0) (.slice (some ⟨w3.heap.size, 0, none⟩) 1 1) (w := w) rfl HB.out (HBG.out.trans (hT.1.mono (by have := HK3.out; omega))) HK.out (by have := HK3.out; omega) hg
      exact ⟨none, 0, some ⟨w3.heap.size, 0, none⟩, 1, rfl, h.1, h.2⟩
end Go.Proofs.Ytnjkphopklbogaa
namespace Go.Proofs.Ytnjkphopklbogaa
open Go.RowKit

set_option maxRecDepth 100000 in
set_option maxHeartbeats 16000000 in
theorem rf_push13 (B : Nat) (t : Fx) (E A : Option Addr) (dd c : Nat) (b : Bool) (w : World) (ho : t.op = 13) (hn : t.ks.length = 2) (hB : B ≤ w.heap.size) (hR : Fm B w t E A) (hI : PuI 47 B t) :
    Calls Try.prog 47 #[fV t E dd A c, .bool b] w (PuP B (psF t b) w) := by
  obtain ⟨W0, hW0⟩ : ∃ W, (w.alloc (.cells (fC t E dd A c) 27)).alloc (.cells fZ 27) = W := ⟨_, rfl⟩
  have hP := PuW.mk' (dd := dd) (c := c) hB hR
  rw [hW0] at hP
  have hW0n : (w.alloc (.cells #[.int .i64 t.op, .int .i64 t.e.op, .int .i64 t.e.vr, .string t.e.nm, .slice E t.e.ks.length dd, .slice A 2 c] 27)).alloc (.cells fZ 27) = W0 := by rw [← hn]; exact hW0
  show Calls Try.prog 47 #[.agg #[.int .i64 t.op, .int .i64 t.e.op, .int .i64 t.e.vr, .string t.e.nm, .slice E t.e.ks.length dd, .slice A t.ks.length c], .bool b] w _
  rw [hn]
  obtain ⟨bb, f, ea0, ec0, ka0, kc0, ea1, ec1, ka1, kc1, rfl, hX, hr0, hr1⟩ := hP.two hn
  have X : Hid (psF t b = if b then .mk 2 ex0 [.mk t.op ex0 [psF (fkd t.ks 0) false, psF (fkd t.ks 1) false]] else .mk t.op ex0 [psF (fkd t.ks 0) false, psF (fkd t.ks 1) false]) := Lib.hid (by
    have h := psF_eq t b
    rw [if_neg (by omega), if_neg (by omega), if_neg (by omega), if_pos (by omega), apF_at _ _ _ (by omega), apF_at _ _ _ (by omega)] at h
    exact h)
  have HC0 : Hid (∀ wx, Below W0.heap.size W0 wx → Calls Try.prog 47 #[fV (fkd t.ks 0) ea0 ec0 ka0 kc0, .bool false] wx (fun e w' => PuP B (psF (fkd t.ks 0) false) wx e w' ∧ Below W0.heap.size W0 wx)) := Lib.hid (fun wx hx => (hI 0 (by omega) _ _ _ _ _ wx (by have := hP.al.size; have := hx.size; omega) (hr0.under (hx.mono (by have := hP.al.size; omega)))).mono (fun e w' h => ⟨h, hx⟩))
  have HC1 : Hid (∀ wy wx, Below W0.heap.size W0 wy → Below wy.heap.size wy wx → Calls Try.prog 47 #[fV (fkd t.ks 1) ea1 ec1 ka1 kc1, .bool false] wx (fun e w' => PuP B (psF (fkd t.ks 1) false) wx e w' ∧ Below wy.heap.size wy wx)) := Lib.hid (fun wy wx hy hyx => (hI 1 (by omega) _ _ _ _ _ wx (by have := hP.al.size; have := (bt hy hyx).size; omega) (hr1.under ((bt hy hyx).mono (by have := hP.al.size; omega)))).mono (fun e w' h => ⟨h, hyx⟩))
  rw [hn] at hX
  have HX := Lib.hid hX
  have HPW := Lib.hid hP
  have HB := Lib.hid hB
  have HBW : Hid (B ≤ W0.heap.size) := Lib.hid (by have := hP.al.size; omega)
  have p0 : W0.cell? ⟨w.heap.size, 0, none⟩ = some (.int .i64 t.op) := hP.b0.cell 0
  have pl := hP.b0.lt
  have HO := Lib.hid ho
  have HWW := Lib.hid hW0n
  generalize fkd t.ks 0 = x0 at *
  generalize fkd t.ks 1 = x1 at *
  obtain ⟨y0, hy0⟩ : ∃ y, psF x0 false = y := ⟨_, rfl⟩
  obtain ⟨y1, hy1⟩ : ∃ y, psF x1 false = y := ⟨_, rfl⟩
  rw [hy0, hy1] at X
  rw [hy0] at HC0
  rw [hy1] at HC1
  have HDR : Hid (Below W0.heap.size W0 W0.drew) := Lib.hid ((Below.refl _ _).drew)
  have HAD : Hid (Below W0.heap.size W0 (W0.alloc (.cells fZ 27)).drew) := Lib.hid ((bal W0 (.cells fZ 27)).drew)
  clear hy0 hy1 hP hX hr0 hr1 hI hR hB hW0 hW0n ho hn
  go_enter Try.func47, Try.ntmps47
  go_upto_region 1 with (fail)
  rw [HWW.out]
  have g1 : (t.op == 1) = false := by rw [HO.out]; rfl
  have g2 : (t.op == 2) = false := by rw [HO.out]; rfl
  have g5 : (t.op == 5) = false := by rw [HO.out]; rfl
  have g9 : (t.op == 9) = false := by rw [HO.out]; rfl
  have g13 : (t.op == 13) = true := by rw [HO.out]; rfl
  go_upto_region 14 with (fail)
  clear p0 g1 g2 g5 g9 g13
  go_cut [5] (fun s5 wx => PuG B W0 t.op y0 y1 s5 wx)
  case first =>
    go_region_held3 (fun wx => (wx.cell? ⟨w.heap.size, 0, none⟩ = some (.int .i64 t.op) ∧ wx.cell? ⟨w.heap.size, 5, none⟩ = some (.slice (some ⟨bb, f, none⟩) 2 c)) ∧ K6 wx bb f x0 ea0 ec0 ka0 kc0 ∧ K6 wx bb (f + 6) x1 ea1 ec1 ka1 kc1) (first
      | with_reducible exact HX.out _ (H4.out _ _ _ _ _ _)
      | with_reducible exact HX.out _ (Frm.of_below H3.out)
      | with_reducible exact HX.out _ (Frm.of_below (al H3.out _))
      | with_reducible exact HX.out _ (Frm.of_below (al (al H2.out _) _))
      | with_reducible exact HX.out _ (Frm.of_below (al H2.out _))
      | with_reducible exact HX.out _ (Frm.of_below H2.out)
      | with_reducible exact HX.out _ (Frm.of_below (al H1.out _))
      | with_reducible exact HX.out _ (Frm.of_below H1.out)
      | with_reducible exact HX.out _ (Frm.of_below HAD.out)
      | with_reducible exact HX.out _ (Frm.of_below HDR.out)
      | with_reducible exact HX.out _ (Frm.refl _ _)
      | exact HX.out _ (Frm.of_below HAD.out)
      | exact HX.out _ (Frm.of_below HDR.out)
      | exact HX.out _ (Frm.refl _ _)) ((first
      | (go_at_call 73; have _ := H2; (with_reducible refine (rf_kids _ _ _ _ _).mono ?_); rintro e w3 ⟨rfl, hb3⟩; (first
          | ((with_reducible have hT := one_new w2 (row2 y0 y1 E1 A1 E2 A2 d1 c1 d2 c2) hb3); have hE := hT.1; have HROW := Lib.hid hT.2; clear hT; (first | (have zC := HZB.out.below hE HZB.out.lt) | skip))
          | ((with_reducible have hT := two_new w2 fZ (row2 y0 y1 E1 A1 E2 A2 d1 c1 d2 c2) hb3); have hE := hT.1; have zC := hT.2.1; have HROW := Lib.hid hT.2.2; clear hT)
          | ((with_reducible have hT := two_new w2 (row2 y0 y1 E1 A1 E2 A2 d1 c1 d2 c2) fZ hb3); have hE := hT.1; have zC := hT.2.2; have HROW := Lib.hid hT.2.1; clear hT)); have H3 : Hid (Below W0.heap.size W0 w3) := Lib.hid (bt H2.out hE); have HE := Lib.hid hE; clear hE hb3; (first | (have z0 := zC.cell 0; have z1 := zC.cell 1; have z2 := zC.cell 2; have z3 := zC.cell 3; have z4 := zC.cell 4; have z5 := zC.cell 5; have q0 := zC.frozen 0; have q1 := zC.frozen 1; have q2 := zC.frozen 2; have q3 := zC.frozen 3; have q4 := zC.frozen 4; have q5 := zC.frozen 5; have zl := zC.lt; have H4 := Lib.hid (z6_of (S := fun x => x = w.heap.size + 1) H3.out (by first | exact Nat.le_refl _ | exact H1.out.size | exact H2.out.size | exact Nat.le_succ_of_le H2.out.size) zC); have HZC := Lib.hid zC; clear zC) | skip))
      | (go_at_call 47; have _ := H1; (with_reducible refine (HC1.out w1 _ H1.out (by first | exact Below.refl _ _ | exact bal _ _)).mono ?_); rintro e w2 ⟨⟨E2, d2, A2, c2, rfl, hF2, hb2⟩, hc2⟩; have H2 : Hid (Below W0.heap.size W0 w2) := Lib.hid (bt H1.out (bt hc2 hb2)); (first | ((with_reducible have zB := HZA.out.below (bt hc2 hb2) HZA.out.lt); have HZB := Lib.hid zB; clear zB) | ((with_reducible have zB := (one_new w1 fZ hb2).2); have HZB := Lib.hid zB; clear zB) | skip); have HF2 := Lib.hid hF2; have HB2w := Lib.hid hb2; have HC2w := Lib.hid hc2; clear hF2 hb2 hc2)
      | (go_at_call 47; (with_reducible refine (HC0.out _ (by first | exact HDR.out | exact HAD.out)).mono ?_); rintro e w1 ⟨⟨E1, d1, A1, c1, rfl, hF1, hb1⟩, hc1⟩; have H1 : Hid (Below W0.heap.size W0 w1) := Lib.hid (bt hc1 hb1); (first | ((with_reducible have zA := new_drew W0 fZ hb1); have HZA := Lib.hid zA; clear zA) | skip); have HF1 := Lib.hid hF1; have HB1w := Lib.hid hb1; have HC1w := Lib.hid hc1; clear hF1 hb1 hc1)))
    all_goals
      go_wp2_with fail
      go_meet
      first
        | (have _ := HZC; exact puG_old HBW.out HC1w.out HB1w.out HF1.out HC2w.out HB2w.out HF2.out HE.out HROW.out (by first | exact Nat.le_refl _ | exact Nat.le_succ _) (by first | exact Nat.le_refl _ | exact H1.out.size | exact H2.out.size | exact Nat.le_succ_of_le H2.out.size) (by first | exact .inr (.inr ⟨Nat.le_refl _, Nat.ne_of_lt (Nat.lt_succ_self _)⟩) | exact .inr (.inr ⟨Nat.le_succ _, Nat.succ_ne_self _⟩) | (left; simp; done) | (right; left; exact ⟨Nat.le_refl _, by simp⟩)) HZC.out)
        | exact puG_new HBW.out HC1w.out HB1w.out HF1.out HC2w.out HB2w.out HF2.out HE.out HROW.out (Nat.le_refl _)
  case rest =>
    obtain ⟨Y, R, rfl, hY0, hYb, hF, hbw⟩ := hcut
    obtain ⟨w3, w3e⟩ : ∃ x, x = wc := ⟨_, rfl⟩
    subst w3e
    have zz := HPW.out.b1.below hbw HPW.out.b1.lt
    have s0 := hYb.cell 0
    have s1 := hYb.cell 1
    have s2 := hYb.cell 2
    have s3 := hYb.cell 3
    have s4 := hYb.cell 4
    have s5 := hYb.cell 5
    have HZ := Lib.hid zz
    have HYB := Lib.hid hYb
    have HF := Lib.hid hF
    have HBW3 := Lib.hid hbw
    have HBG : Hid (Below w.heap.size w w3) := Lib.hid (HPW.out.al.trans (hbw.mono HPW.out.al.size))
    have HK : Hid (w.heap.size + 1 + 1 ≤ W0.heap.size) := Lib.hid (Nat.le_of_eq HPW.out.sz.symm)
    have HK3 : Hid (w.heap.size + 1 + 1 ≤ w3.heap.size) := Lib.hid (Nat.le_trans HK.out hbw.size)
    clear hYb hF hbw hY0 HC0 HC1
    cases b
    · have X2 : Hid (psF t false = .mk t.op ex0 [y0, y1]) := Lib.hid (by rw [X.out]; rfl)
      have z0 := zz.cell 0
      have z1 := zz.cell 1
      have z2 := zz.cell 2
      have z3 := zz.cell 3
      have z4 := zz.cell 4
      have z5 := zz.cell 5
      have q0 := zz.frozen 0
      have q1 := zz.frozen 1
      have q2 := zz.frozen 2
      have q3 := zz.frozen 3
      have q4 := zz.frozen 4
      have q5 := zz.frozen 5
      have zl := zz.lt
      clear zz X
      go_wp2
      refine bodyPost_ret (res_fx rfl _ _ (w.heap.size + 1) _ _ _ _ _ _ rfl (z6_ret _ _ _ _ _ _ HZ.out)) rfl ?_
      rw [X2.out]
      have h := z6_keep (.int .i64 t.op) (.int .i64 0) (.int .i64 0) (.string ⟨#[]⟩) (.slice none 0 0) (.slice (some ⟨R, 0, none⟩) 2 2) (w := w) rfl HB.out HBG.out HK.out HK3.out HF.out
      exact ⟨none, 0, some ⟨R, 0, none⟩, 2, rfl, h.1, h.2⟩
    · have X2 : Hid (psF t true = .mk 2 ex0 [.mk t.op ex0 [y0, y1]]) := Lib.hid (by rw [X.out]; rfl)
      clear zz X
      go_wp2_with (go_at_call 73; (with_reducible refine (rf_kids 2 (some ⟨w3.heap.size, 0, none⟩) 1 1 _).mono ?_); rintro e w4 ⟨rfl, hb4⟩; have hT := one_new w3 (nodC t.op R 2 2) hb4; have hz := HZ.out.below hT.1 HZ.out.lt; have z0 := hz.cell 0; have z1 := hz.cell 1; have z2 := hz.cell 2; have z3 := hz.cell 3; have z4 := hz.cell 4; have z5 := hz.cell 5; have q0 := hz.frozen 0; have q1 := hz.frozen 1; have q2 := hz.frozen 2; have q3 := hz.frozen 3; have q4 := hz.frozen 4; have q5 := hz.frozen 5; have zl := hz.lt; have HZ4 := Lib.hid hz; have HT := Lib.hid hT; clear hz hb4 hT)
      refine bodyPost_ret (res_fx rfl _ _ (w.heap.size + 1) _ _ _ _ _ _ rfl (z6_ret _ _ _ _ _ _ HZ4.out)) rfl ?_
      rw [X2.out]
      have hT := HT.out
      have hs := hT.1.size
      have hlt := hT.2.lt
      have hks := HBW3.out.size
      have hg : FmS (Ot B W0.heap.size w4) w4 (.mk 2 ex0 [.mk t.op ex0 [y0, y1]]) none (some ⟨w3.heap.size, 0, none⟩) :=
        ⟨RepS.leaf rfl, rep_single 2 ex0 (.inr ⟨hks, hlt⟩) ⟨hT.2.cell 0, hT.2.cell 1, hT.2.cell 2, hT.2.cell 3, hT.2.cell 4, hT.2.cell 5⟩ ((HF.out.kept (fun y hy => hT.1.block y (by have := HBW.out; rcases hy with h | h <;> omega))).mono (fun y hy => hy.imp id (fun h => ⟨by omega, by omega⟩)))⟩
      have h := z6_keep (.int .i64 2) (.int .i64 0) (.int .i64 0) (.string ⟨#[]⟩) (.slice none 0 0) (.slice (some ⟨w3.heap.size, 0, none⟩) 1 1) (w := w) rfl HB.out (HBG.out.trans (hT.1.mono (by have := HK3.out; omega))) HK.out (by have := HK3.out; omega) hg
      exact ⟨none, 0, some ⟨w3.heap.size, 0, none⟩, 1, rfl, h.1, h.2⟩
end Go.Proofs.Ytnjkphopklbogaa
namespace Go.Proofs.Ytnjkphopklbogaa
open Go.RowKit

set_option maxRecDepth 100000 in
set_option maxHeartbeats 8000000 in
theorem pr_push2 (B : Nat) (t : Fx) (E A : Option Addr) (dd c : Nat) (b : Bool) (w : World) (ho : t.op = 2) (hn : t.ks.length = 1) (hB : B ≤ w.heap.size) (hR : Fm B w t E A) (hI : PuI 45 B t) :
    Calls Try.prog 45 #[fV t E dd A c, .bool b] w (PuP B (psF t b) w) := by
  obtain ⟨W0, hW0⟩ : ∃ W, (w.alloc (.cells (fC t E dd A c) 27)).alloc (.cells fZ 27) = W := ⟨_, rfl⟩
  have hP := PuW.mk' (dd := dd) (c := c) hB hR
  rw [hW0] at hP
  obtain ⟨bb, f, rfl, hbb, hc⟩ := hP.rp.2.out (by omega)
  obtain ⟨ea, ec, ka, kc, hat, r0, r1⟩ := hc 0 (by omega)
  rw [Nat.zero_mul, Nat.add_zero] at hat
  have hW0n : (w.alloc (.cells #[.int .i64 t.op, .int .i64 t.e.op, .int .i64 t.e.vr, .string t.e.nm, .slice E t.e.ks.length dd, .slice (some ⟨bb, f, none⟩) 1 c] 27)).alloc (.cells fZ 27) = W0 := by rw [← hn]; exact hW0
  show Calls Try.prog 45 #[.agg #[.int .i64 t.op, .int .i64 t.e.op, .int .i64 t.e.vr, .string t.e.nm, .slice E t.e.ks.length dd, .slice (some ⟨bb, f, none⟩) t.ks.length c], .bool b] w _
  rw [hn]
  have X : Hid (psF t b = psF (fkd t.ks 0) (!b)) := Lib.hid (by rw [psF_eq, if_neg (by omega), if_pos ho, apF_at _ _ _ (by omega)])
  have HC0 : Hid (Calls Try.prog 45 #[fV (fkd t.ks 0) ea ec ka kc, .bool (!b)] W0 (PuP B (psF (fkd t.ks 0) (!b)) W0)) := Lib.hid (hI 0 (by omega) _ _ _ _ _ W0 (by have := hP.al.size; omega) ⟨r0, r1⟩)
  have HPW := Lib.hid hP
  have HB := Lib.hid hB
  have HO := Lib.hid ho
  have HWW := Lib.hid hW0n
  have s0 := hP.b0.cell 0
  have s5 : W0.cell? ⟨w.heap.size, 5, none⟩ = some (.slice (some ⟨bb, f, none⟩) 1 c) := by rw [← hn]; exact hP.b0.cell 5
  generalize fkd t.ks 0 = x0 at *
  obtain ⟨y0, hy0⟩ : ∃ y, psF x0 (!b) = y := ⟨_, rfl⟩
  rw [hy0] at X HC0
  obtain ⟨d0, d1, d2, d3, d4, d5⟩ := hat
  clear hy0 hP hR hB hW0 hW0n ho hn hI hc hbb r0 r1
  go_enter Try.func45, Try.ntmps45
  go_upto_region 1 with (fail)
  rw [HWW.out]
  have g1 : (t.op == 1) = false := by rw [HO.out]; rfl
  have g2 : (t.op == 2) = true := by rw [HO.out]; rfl
  go_wp2_with (go_at_call 45; (with_reducible refine HC0.out.mono ?_); rintro e w1 ⟨E1, d1, A1, c1, rfl, hF1, hb1⟩; have hz := HPW.out.b1.below hb1 HPW.out.b1.lt; have z0 := hz.cell 0; have z1 := hz.cell 1; have z2 := hz.cell 2; have z3 := hz.cell 3; have z4 := hz.cell 4; have z5 := hz.cell 5; have q0 := hz.frozen 0; have q1 := hz.frozen 1; have q2 := hz.frozen 2; have q3 := hz.frozen 3; have q4 := hz.frozen 4; have q5 := hz.frozen 5; have zl := hz.lt; have HZ := Lib.hid hz; have HF := Lib.hid hF1; have HB1 := Lib.hid hb1; clear hz hF1 hb1)
  have hz := HPW.out.sz
  have hs1 := HB1.out.size
  refine bodyPost_ret (res_fx rfl _ _ (w.heap.size + 1) _ _ _ _ _ _ rfl ((((((HZ.out.set_ 0 _).set_ 1 _).set_ 2 _).set_ 3 _).set_ 4 _).set_ 5 _)) rfl ?_
  rw [X.out]
  have h := z6_keep (.int .i64 y0.op) (.int .i64 y0.e.op) (.int .i64 y0.e.vr) (.string y0.e.nm) (.slice E1 y0.e.ks.length d1) (.slice A1 y0.ks.length c1) (w := w) rfl HB.out (HPW.out.al.trans (HB1.out.mono (by omega))) (Nat.le_of_eq hz.symm) (by omega) HF.out
  exact ⟨E1, d1, A1, c1, rfl, h.1, h.2⟩
end Go.Proofs.Ytnjkphopklbogaa
namespace Go.Proofs.Ytnjkphopklbogaa
open Go.RowKit

set_option maxRecDepth 100000 in
set_option maxHeartbeats 8000000 in
theorem rf_push2 (B : Nat) (t : Fx) (E A : Option Addr) (dd c : Nat) (b : Bool) (w : World) (ho : t.op = 2) (hn : t.ks.length = 1) (hB : B ≤ w.heap.size) (hR : Fm B w t E A) (hI : PuI 47 B t) :
    Calls Try.prog 47 #[fV t E dd A c, .bool b] w (PuP B (psF t b) w) := by
  obtain ⟨W0, hW0⟩ : ∃ W, (w.alloc (.cells (fC t E dd A c) 27)).alloc (.cells fZ 27) = W := ⟨_, rfl⟩
  have hP := PuW.mk' (dd := dd) (c := c) hB hR
  rw [hW0] at hP
  obtain ⟨bb, f, rfl, hbb, hc⟩ := hP.rp.2.out (by omega)
  obtain ⟨ea, ec, ka, kc, hat, r0, r1⟩ := hc 0 (by omega)
  rw [Nat.zero_mul, Nat.add_zero] at hat
  have hW0n : (w.alloc (.cells #[.int .i64 t.op, .int .i64 t.e.op, .int .i64 t.e.vr, .string t.e.nm, .slice E t.e.ks.length dd, .slice (some ⟨bb, f, none⟩) 1 c] 27)).alloc (.cells fZ 27) = W0 := by rw [← hn]; exact hW0
  show Calls Try.prog 47 #[.agg #[.int .i64 t.op, .int .i64 t.e.op, .int .i64 t.e.vr, .string t.e.nm, .slice E t.e.ks.length dd, .slice (some ⟨bb, f, none⟩) t.ks.length c], .bool b] w _
  rw [hn]
  have X : Hid (psF t b = psF (fkd t.ks 0) (!b)) := Lib.hid (by rw [psF_eq, if_neg (by omega), if_pos ho, apF_at _ _ _ (by omega)])
  have HC0 : Hid (Calls Try.prog 47 #[fV (fkd t.ks 0) ea ec ka kc, .bool (!b)] W0 (PuP B (psF (fkd t.ks 0) (!b)) W0)) := Lib.hid (hI 0 (by omega) _ _ _ _ _ W0 (by have := hP.al.size; omega) ⟨r0, r1⟩)
  have HPW := Lib.hid hP
  have HB := Lib.hid hB
  have HO := Lib.hid ho
  have HWW := Lib.hid hW0n
  have s0 := hP.b0.cell 0
  have s5 : W0.cell? ⟨w.heap.size, 5, none⟩ = some (.slice (some ⟨bb, f, none⟩) 1 c) := by rw [← hn]; exact hP.b0.cell 5
  generalize fkd t.ks 0 = x0 at *
  obtain ⟨y0, hy0⟩ : ∃ y, psF x0 (!b) = y := ⟨_, rfl⟩
  rw [hy0] at X HC0
  obtain ⟨d0, d1, d2, d3, d4, d5⟩ := hat
  clear hy0 hP hR hB hW0 hW0n ho hn hI hc hbb r0 r1
  go_enter Try.func47, Try.ntmps47
  go_upto_region 1 with (fail)
  rw [HWW.out]
  have g1 : (t.op == 1) = false := by rw [HO.out]; rfl
  have g2 : (t.op == 2) = true := by rw [HO.out]; rfl
  go_wp2_with (go_at_call 47; (with_reducible refine HC0.out.mono ?_); rintro e w1 ⟨E1, d1, A1, c1, rfl, hF1, hb1⟩; have hz := HPW.out.b1.below hb1 HPW.out.b1.lt; have z0 := hz.cell 0; have z1 := hz.cell 1; have z2 := hz.cell 2; have z3 := hz.cell 3; have z4 := hz.cell 4; have z5 := hz.cell 5; have q0 := hz.frozen 0; have q1 := hz.frozen 1; have q2 := hz.frozen 2; have q3 := hz.frozen 3; have q4 := hz.frozen 4; have q5 := hz.frozen 5; have zl := hz.lt; have HZ := Lib.hid hz; have HF := Lib.hid hF1; have HB1 := Lib.hid hb1; clear hz hF1 hb1)
  have hz := HPW.out.sz
  have hs1 := HB1.out.size
  refine bodyPost_ret (res_fx rfl _ _ (w.heap.size + 1) _ _ _ _ _ _ rfl ((((((HZ.out.set_ 0 _).set_ 1 _).set_ 2 _).set_ 3 _).set_ 4 _).set_ 5 _)) rfl ?_
  rw [X.out]
  have h := z6_keep (.int .i64 y0.op) (.int .i64 y0.e.op) (.int .i64 y0.e.vr) (.string y0.e.nm) (.slice E1 y0.e.ks.length d1) (.slice A1 y0.ks.length c1) (w := w) rfl HB.out (HPW.out.al.trans (HB1.out.mono (by omega))) (Nat.le_of_eq hz.symm) (by omega) HF.out
  exact ⟨E1, d1, A1, c1, rfl, h.1, h.2⟩
end Go.Proofs.Ytnjkphopklbogaa
namespace Go.Proofs.Ytnjkphopklbogaa
open Go.RowKit

set_option maxRecDepth 100000 in
set_option maxHeartbeats 8000000 in
theorem pr_push1 (B : Nat) (t : Fx) (E A : Option Addr) (dd c : Nat) (b : Bool) (w : World) (ho : t.op = 1) (hB : B ≤ w.heap.size) (hR : Fm B w t E A) :
    Calls Try.prog 45 #[fV t E dd A c, .bool b] w (PuP B (psF t b) w) := by
  obtain ⟨W0, hW0⟩ : ∃ W, (w.alloc (.cells (fC t E dd A c) 27)).alloc (.cells fZ 27) = W := ⟨_, rfl⟩
  have hP := PuW.mk' (dd := dd) (c := c) hB hR
  rw [hW0] at hP
  have HPW := Lib.hid hP
  have HB := Lib.hid hB
  have HO := Lib.hid ho
  have HWW := Lib.hid hW0
  have s0 := hP.b0.cell 0
  have s1 := hP.b0.cell 1
  have s2 := hP.b0.cell 2
  have s3 := hP.b0.cell 3
  have s4 := hP.b0.cell 4
  have s5 := hP.b0.cell 5
  have v0 := hP.b1.cell 0
  have v1 := hP.b1.cell 1
  have v2 := hP.b1.cell 2
  have v3 := hP.b1.cell 3
  have v4 := hP.b1.cell 4
  have v5 := hP.b1.cell 5
  have u0 := hP.b1.frozen 0
  have u1 := hP.b1.frozen 1
  have u2 := hP.b1.frozen 2
  have u3 := hP.b1.frozen 3
  have u4 := hP.b1.frozen 4
  have u5 := hP.b1.frozen 5
  have ul := hP.b1.lt
  have X : Hid (psF t b = if b then .mk 1 (notE t.e) [] else t) := Lib.hid (by rw [psF_eq, if_pos ho])
  clear hP hR hB hW0 ho
  cases b
  · rw [if_neg (by decide)] at X
    go_enter Try.func45, Try.ntmps45
    go_upto_region 1 with (fail)
    rw [HWW.out]
    have g1 : (t.op == 1) = true := by rw [HO.out]; rfl
    go_wp2
    refine bodyPost_ret (res_fx rfl _ _ (w.heap.size + 1) _ _ _ _ _ _ rfl ((((((HPW.out.b1.set_ 0 _).set_ 1 _).set_ 2 _).set_ 3 _).set_ 4 _).set_ 5 _)) rfl ?_
    rw [X.out]
    have h := z6_keep (.int .i64 t.op) (.int .i64 t.e.op) (.int .i64 t.e.vr) (.string t.e.nm) (.slice E t.e.ks.length dd) (.slice A t.ks.length c) (w := w) (wr := W0) (K := W0.heap.size) (t := t) (E := E) (A := A) rfl HB.out HPW.out.al (Nat.le_of_eq HPW.out.sz.symm) (Nat.le_of_eq HPW.out.sz.symm) (HPW.out.rp.toS.mono (fun y hy => .inl hy))
    exact ⟨E, dd, A, c, rfl, h.1, h.2⟩
  · rw [if_pos rfl] at X
    go_enter Try.func45, Try.ntmps45
    go_upto_region 1 with (fail)
    rw [HWW.out]
    have g1 : (t.op == 1) = true := by rw [HO.out]; rfl
    clear v0 v1 v2 v3 v4 v5 u0 u1 u2 u3 u4 u5 ul
    have hbz := HPW.out.b1.below (bal W0 (.cells #[.int .i64 t.e.op, .int .i64 t.e.vr, .string t.e.nm, .slice E t.e.ks.length dd] 24)) HPW.out.b1.lt
    have v0 : (W0.alloc (.cells #[.int .i64 t.e.op, .int .i64 t.e.vr, .string t.e.nm, .slice E t.e.ks.length dd] 24)).cell? ⟨w.heap.size + 1, 0, none⟩ = some (.int .i64 0) := hbz.cell 0
    have u0 : (W0.alloc (.cells #[.int .i64 t.e.op, .int .i64 t.e.vr, .string t.e.nm, .slice E t.e.ks.length dd] 24)).frozen? ⟨w.heap.size + 1, 0, none⟩ = false := hbz.frozen 0
    have v1 : (W0.alloc (.cells #[.int .i64 t.e.op, .int .i64 t.e.vr, .string t.e.nm, .slice E t.e.ks.length dd] 24)).cell? ⟨w.heap.size + 1, 1, none⟩ = some (.int .i64 0) := hbz.cell 1
    have u1 : (W0.alloc (.cells #[.int .i64 t.e.op, .int .i64 t.e.vr, .string t.e.nm, .slice E t.e.ks.length dd] 24)).frozen? ⟨w.heap.size + 1, 1, none⟩ = false := hbz.frozen 1
    have v2 : (W0.alloc (.cells #[.int .i64 t.e.op, .int .i64 t.e.vr, .string t.e.nm, .slice E t.e.ks.length dd] 24)).cell? ⟨w.heap.size + 1, 2, none⟩ = some (.int .i64 0) := hbz.cell 2
    have u2 : (W0.alloc (.cells #[.int .i64 t.e.op, .int .i64 t.e.vr, .string t.e.nm, .slice E t.e.ks.length dd] 24)).frozen? ⟨w.heap.size + 1, 2, none⟩ = false := hbz.frozen 2
    have v3 : (W0.alloc (.cells #[.int .i64 t.e.op, .int .i64 t.e.vr, .string t.e.nm, .slice E t.e.ks.length dd] 24)).cell? ⟨w.heap.size + 1, 3, none⟩ = some (.string ⟨#[]⟩) := hbz.cell 3
    have u3 : (W0.alloc (.cells #[.int .i64 t.e.op, .int .i64 t.e.vr, .string t.e.nm, .slice E t.e.ks.length dd] 24)).frozen? ⟨w.heap.size + 1, 3, none⟩ = false := hbz.frozen 3
    have v4 : (W0.alloc (.cells #[.int .i64 t.e.op, .int .i64 t.e.vr, .string t.e.nm, .slice E t.e.ks.length dd] 24)).cell? ⟨w.heap.size + 1, 4, none⟩ = some (.slice none 0 0) := hbz.cell 4
    have u4 : (W0.alloc (.cells #[.int .i64 t.e.op, .int .i64 t.e.vr, .string t.e.nm, .slice E t.e.ks.length dd] 24)).frozen? ⟨w.heap.size + 1, 4, none⟩ = false := hbz.frozen 4
    have v5 : (W0.alloc (.cells #[.int .i64 t.e.op, .int .i64 t.e.vr, .string t.e.nm, .slice E t.e.ks.length dd] 24)).cell? ⟨w.heap.size + 1, 5, none⟩ = some (.slice none 0 0) := hbz.cell 5
    have u5 : (W0.alloc (.cells #[.int .i64 t.e.op, .int .i64 t.e.vr, .string t.e.nm, .slice E t.e.ks.length dd] 24)).frozen? ⟨w.heap.size + 1, 5, none⟩ = false := hbz.frozen 5
    have ul : w.heap.size + 1 < (W0.alloc (.cells #[.int .i64 t.e.op, .int .i64 t.e.vr, .string t.e.nm, .slice E t.e.ks.length dd] 24)).heap.size := hbz.lt
    clear hbz
    go_wp2
    have hq : Below W0.heap.size W0 (W0.alloc (.cells #[.int .i64 t.e.op, .int .i64 t.e.vr, .string t.e.nm, .slice E t.e.ks.length dd] 24)) := bal _ _
    have hk : Blk (W0.alloc (.cells #[.int .i64 t.e.op, .int .i64 t.e.vr, .string t.e.nm, .slice E t.e.ks.length dd] 24)) W0.heap.size 24 _ := Blk.new W0 24 _
    have hsz : (W0.alloc (.cells #[.int .i64 t.e.op, .int .i64 t.e.vr, .string t.e.nm, .slice E t.e.ks.length dd] 24)).heap.size = W0.heap.size + 1 := by simp
    have hb1 := HPW.out.b1.below hq HPW.out.b1.lt
    have hR : FmS (Ot B W0.heap.size (W0.alloc (.cells #[.int .i64 t.e.op, .int .i64 t.e.vr, .string t.e.nm, .slice E t.e.ks.length dd] 24))) (W0.alloc (.cells #[.int .i64 t.e.op, .int .i64 t.e.vr, .string t.e.nm, .slice E t.e.ks.length dd] 24)) (.mk 1 (notE t.e) []) (some ⟨W0.heap.size, 0, none⟩) none := by
      refine ⟨.mk _ _ (fun _ => E) (fun _ => dd) (fun _ => ⟨W0.heap.size, 0, rfl, .inr ⟨Nat.le_refl _, by omega⟩, fun i hi => ?_⟩) (fun i hi => ?_), RepFS.leaf rfl⟩
      · have hi2 : i < 1 := hi
        obtain rfl : i = 0 := by omega
        exact ⟨hk.cell 0, hk.cell 1, hk.cell 2, hk.cell 3⟩
      · have hi2 : i < 1 := hi
        obtain rfl : i = 0 := by omega
        exact ((HPW.out.rp.1.under (hq.mono (by have := HPW.out.sz; have := HB.out; omega))).toS).mono (fun y hy => .inl hy)
    have hz := HPW.out.sz
    have hal := HPW.out.al
    refine bodyPost_ret (res_fx rfl _ _ (w.heap.size + 1) _ _ _ _ _ _ rfl ((((((hb1.set_ 0 _).set_ 1 _).set_ 2 _).set_ 3 _).set_ 4 _).set_ 5 _)) rfl ?_
    rw [X.out]
    have h := z6_keep (.int .i64 1) (.int .i64 5) (.int .i64 0) (.string ⟨#[]⟩) (.slice (some ⟨W0.heap.size, 0, none⟩) 1 1) (.slice none 0 0) (w := w) rfl HB.out (hal.trans (hq.mono (by omega))) (Nat.le_of_eq hz.symm) (by omega) hR
    exact ⟨some ⟨W0.heap.size, 0, none⟩, 1, none, 0, rfl, h.1, h.2⟩
end Go.Proofs.Ytnjkphopklbogaa
namespace Go.Proofs.Ytnjkphopklbogaa
open Go.RowKit

set_option maxRecDepth 100000 in
set_option maxHeartbeats 8000000 in
theorem rf_push1 (B : Nat) (t : Fx) (E A : Option Addr) (dd c : Nat) (b : Bool) (w : World) (ho : t.op = 1) (hB : B ≤ w.heap.size) (hR : Fm B w t E A) :
    Calls Try.prog 47 #[fV t E dd A c, .bool b] w (PuP B (psF t b) w) := by
  obtain ⟨W0, hW0⟩ : ∃ W, (w.alloc (.cells (fC t E dd A c) 27)).alloc (.cells fZ 27) = W := ⟨_, rfl⟩
  have hP := PuW.mk' (dd := dd) (c := c) hB hR
  rw [hW0] at hP
  have HPW := Lib.hid hP
  have HB := Lib.hid hB
  have HO := Lib.hid ho
  have HWW := Lib.hid hW0
  have s0 := hP.b0.cell 0
  have s1 := hP.b0.cell 1
  have s2 := hP.b0.cell 2
  have s3 := hP.b0.cell 3
  have s4 := hP.b0.cell 4
  have s5 := hP.b0.cell 5
  have v0 := hP.b1.cell 0
  have v1 := hP.b1.cell 1
  have v2 := hP.b1.cell 2
  have v3 := hP.b1.cell 3
  have v4 := hP.b1.cell 4
  have v5 := hP.b1.cell 5
  have u0 := hP.b1.frozen 0
  have u1 := hP.b1.frozen 1
  have u2 := hP.b1.frozen 2
  have u3 := hP.b1.frozen 3
  have u4 := hP.b1.frozen 4
  have u5 := hP.b1.frozen 5
  have ul := hP.b1.lt
  have X : Hid (psF t b = if b then .mk 1 (notE t.e) [] else t) := Lib.hid (by rw [psF_eq, if_pos ho])
  clear hP hR hB hW0 ho
  cases b
  · rw [if_neg (by decide)] at X
    go_enter Try.func47, Try.ntmps47
    go_upto_region 1 with (fail)
    rw [HWW.out]
    have g1 : (t.op == 1) = true := by rw [HO.out]; rfl
    go_wp2
    refine bodyPost_ret (res_fx rfl _ _ (w.heap.size + 1) _ _ _ _ _ _ rfl ((((((HPW.out.b1.set_ 0 _).set_ 1 _).set_ 2 _).set_ 3 _).set_ 4 _).set_ 5 _)) rfl ?_
    rw [X.out]
    have h := z6_keep (.int .i64 t.op) (.int .i64 t.e.op) (.int .i64 t.e.vr) (.string t.e.nm) (.slice E t.e.ks.length dd) (.slice A t.ks.length c) (w := w) (wr := W0) (K := W0.heap.size) (t := t) (E := E) (A := A) rfl HB.out HPW.out.al (Nat.le_of_eq HPW.out.sz.symm) (Nat.le_of_eq HPW.out.sz.symm) (HPW.out.rp.toS.mono (fun y hy => .inl hy))
    exact ⟨E, dd, A, c, rfl, h.1, h.2⟩
  · rw [if_pos rfl] at X
    go_enter Try.func47, Try.ntmps47
    go_upto_region 1 with (fail)
    rw [HWW.out]
    have g1 : (t.op == 1) = true := by rw [HO.out]; rfl
    clear v0 v1 v2 v3 v4 v5 u0 u1 u2 u3 u4 u5 ul
    have hbz := HPW.out.b1.below (bal W0 (.cells #[.int .i64 t.e.op, .int .i64 t.e.vr, .string t.e.nm, .slice E t.e.ks.length dd] 24)) HPW.out.b1.lt
    have v0 : (W0.alloc (.cells #[.int .i64 t.e.op, .int .i64 t.e.vr, .string t.e.nm, .slice E t.e.ks.length dd] 24)).cell? ⟨w.heap.size + 1, 0, none⟩ = some (.int .i64 0) := hbz.cell 0
    have u0 : (W0.alloc (.cells #[.int .i64 t.e.op, .int .i64 t.e.vr, .string t.e.nm, .slice E t.e.ks.length dd] 24)).frozen? ⟨w.heap.size + 1, 0, none⟩ = false := hbz.frozen 0
    have v1 : (W0.alloc (.cells #[.int .i64 t.e.op, .int .i64 t.e.vr, .string t.e.nm, .slice E t.e.ks.length dd] 24)).cell? ⟨w.heap.size + 1, 1, none⟩ = some (.int .i64 0) := hbz.cell 1
    have u1 : (W0.alloc (.cells #[.int .i64 t.e.op, .int .i64 t.e.vr, .string t.e.nm, .slice E t.e.ks.length dd] 24)).frozen? ⟨w.heap.size + 1, 1, none⟩ = false := hbz.frozen 1
    have v2 : (W0.alloc (.cells #[.int .i64 t.e.op, .int .i64 t.e.vr, .string t.e.nm, .slice E t.e.ks.length dd] 24)).cell? ⟨w.heap.size + 1, 2, none⟩ = some (.int .i64 0) := hbz.cell 2
    have u2 : (W0.alloc (.cells #[.int .i64 t.e.op, .int .i64 t.e.vr, .string t.e.nm, .slice E t.e.ks.length dd] 24)).frozen? ⟨w.heap.size + 1, 2, none⟩ = false := hbz.frozen 2
    have v3 : (W0.alloc (.cells #[.int .i64 t.e.op, .int .i64 t.e.vr, .string t.e.nm, .slice E t.e.ks.length dd] 24)).cell? ⟨w.heap.size + 1, 3, none⟩ = some (.string ⟨#[]⟩) := hbz.cell 3
    have u3 : (W0.alloc (.cells #[.int .i64 t.e.op, .int .i64 t.e.vr, .string t.e.nm, .slice E t.e.ks.length dd] 24)).frozen? ⟨w.heap.size + 1, 3, none⟩ = false := hbz.frozen 3
    have v4 : (W0.alloc (.cells #[.int .i64 t.e.op, .int .i64 t.e.vr, .string t.e.nm, .slice E t.e.ks.length dd] 24)).cell? ⟨w.heap.size + 1, 4, none⟩ = some (.slice none 0 0) := hbz.cell 4
    have u4 : (W0.alloc (.cells #[.int .i64 t.e.op, .int .i64 t.e.vr, .string t.e.nm, .slice E t.e.ks.length dd] 24)).frozen? ⟨w.heap.size + 1, 4, none⟩ = false := hbz.frozen 4
    have v5 : (W0.alloc (.cells #[.int .i64 t.e.op, .int .i64 t.e.vr, .string t.e.nm, .slice E t.e.ks.length dd] 24)).cell? ⟨w.heap.size + 1, 5, none⟩ = some (.slice none 0 0) := hbz.cell 5
    have u5 : (W0.alloc (.cells #[.int .i64 t.e.op, .int .i64 t.e.vr, .string t.e.nm, .slice E t.e.ks.length dd] 24)).frozen? ⟨w.heap.size + 1, 5, none⟩ = false := hbz.frozen 5
    have ul : w.heap.size + 1 < (W0.alloc (.cells #[.int .i64 t.e.op, .int .i64 t.e.vr, .string t.e.nm, .slice E t.e.ks.length dd] 24)).heap.size := hbz.lt
    clear hbz
    go_wp2
    have hq : Below W0.heap.size W0 (W0.alloc (.cells #[.int .i64 t.e.op, .int .i64 t.e.vr, .string t.e.nm, .slice E t.e.ks.length dd] 24)) := bal _ _
    have hk : Blk (W0.alloc (.cells #[.int .i64 t.e.op, .int .i64 t.e.vr, .string t.e.nm, .slice E t.e.ks.length dd] 24)) W0.heap.size 24 _ := Blk.new W0 24 _
    have hsz : (W0.alloc (.cells #[.int .i64 t.e.op, .int .i64 t.e.vr, .string t.e.nm, .slice E t.e.ks.length dd] 24)).heap.size = W0.heap.size + 1 := by simp
    have hb1 := HPW.out.b1.below hq HPW.out.b1.lt
    have hR : FmS (Ot B W0.heap.size (W0.alloc (.cells #[.int .i64 t.e.op, .int .i64 t.e.vr, .string t.e.nm, .slice E t.e.ks.length dd] 24))) (W0.alloc (.cells #[.int .i64 t.e.op, .int .i64 t.e.vr, .string t.e.nm, .slice E t.e.ks.length dd] 24)) (.mk 1 (notE t.e) []) (some ⟨W0.heap.size, 0, none⟩) none := by
      refine ⟨.mk _ _ (fun _ => E) (fun _ => dd) (fun _ => ⟨W0.heap.size, 0, rfl, .inr ⟨Nat.le_refl _, by omega⟩, fun i hi => ?_⟩) (fun i hi => ?_), RepFS.leaf rfl⟩
      · have hi2 : i < 1 := hi
        obtain rfl : i = 0 := by omega
        exact ⟨hk.cell 0, hk.cell 1, hk.cell 2, hk.cell 3⟩
      · have hi2 : i < 1 := hi
        obtain rfl : i = 0 := by omega
        exact ((HPW.out.rp.1.under (hq.mono (by have := HPW.out.sz; have := HB.out; omega))).toS).mono (fun y hy => .inl hy)
    have hz := HPW.out.sz
    have hal := HPW.out.al
    refine bodyPost_ret (res_fx rfl _ _ (w.heap.size + 1) _ _ _ _ _ _ rfl ((((((hb1.set_ 0 _).set_ 1 _).set_ 2 _).set_ 3 _).set_ 4 _).set_ 5 _)) rfl ?_
    rw [X.out]
    have h := z6_keep (.int .i64 1) (.int .i64 5) (.int .i64 0) (.string ⟨#[]⟩) (.slice (some ⟨W0.heap.size, 0, none⟩) 1 1) (.slice none 0 0) (w := w) rfl HB.out (hal.trans (hq.mono (by omega))) (Nat.le_of_eq hz.symm) (by omega) hR
    exact ⟨some ⟨W0.heap.size, 0, none⟩, 1, none, 0, rfl, h.1, h.2⟩
end Go.Proofs.Ytnjkphopklbogaa
namespace Go.Proofs.Ytnjkphopklbogaa
open Go.RowKit

set_option maxRecDepth 100000 in
set_option maxHeartbeats 16000000 in
theorem rf_push5t (B : Nat) (t : Fx) (E A : Option Addr) (dd c : Nat) (w : World) (ho : t.op = 5) (hn : t.ks.length = 2) (hB : B ≤ w.heap.size) (hR : Fm B w t E A) (hI : PuI 47 B t) :
    Calls Try.prog 47 #[fV t E dd A c, .bool true] w (PuP B (psF t true) w) := by
  obtain ⟨W0, hW0⟩ : ∃ W, (w.alloc (.cells (fC t E dd A c) 27)).alloc (.cells fZ 27) = W := ⟨_, rfl⟩
  have hP := PuW.mk' (dd := dd) (c := c) hB hR
  rw [hW0] at hP
  have hW0n : (w.alloc (.cells #[.int .i64 t.op, .int .i64 t.e.op, .int .i64 t.e.vr, .string t.e.nm, .slice E t.e.ks.length dd, .slice A 2 c] 27)).alloc (.cells fZ 27) = W0 := by rw [← hn]; exact hW0
  show Calls Try.prog 47 #[.agg #[.int .i64 t.op, .int .i64 t.e.op, .int .i64 t.e.vr, .string t.e.nm, .slice E t.e.ks.length dd, .slice A t.ks.length c], .bool true] w _
  rw [hn]
  obtain ⟨bb, f, ea0, ec0, ka0, kc0, ea1, ec1, ka1, kc1, rfl, hX, hr0, hr1⟩ := hP.two hn
  have X : Hid (psF t true = .mk 3 ex0 [psF (fkd t.ks 0) false, psF (fkd t.ks 1) true]) := Lib.hid (by
    have h := psF_eq t true
    rw [if_neg (by omega), if_neg (by omega), if_pos ho, apF_at _ _ _ (by omega), apF_at _ _ _ (by omega)] at h
    exact h)
  have HI := Lib.hid hI
  have HC0 : Hid (∀ wx, Below W0.heap.size W0 wx → Calls Try.prog 47 #[fV (fkd t.ks 0) ea0 ec0 ka0 kc0, .bool false] wx (PuP B (psF (fkd t.ks 0) false) wx)) := Lib.hid (fun wx hx => hI 0 (by omega) _ _ _ _ _ wx (by have := hP.al.size; have := hx.size; omega) (hr0.under (hx.mono (by have := hP.al.size; omega))))
  have HC1 : Hid (∀ wx, Below W0.heap.size W0 wx → Calls Try.prog 47 #[fV (fkd t.ks 1) ea1 ec1 ka1 kc1, .bool true] wx (PuP B (psF (fkd t.ks 1) true) wx)) := Lib.hid (fun wx hx => hI 1 (by omega) _ _ _ _ _ wx (by have := hP.al.size; have := hx.size; omega) (hr1.under (hx.mono (by have := hP.al.size; omega))))
  rw [hn] at hX
  have HX := Lib.hid hX
  have HPW := Lib.hid hP
  have HB := Lib.hid hB
  have p0 : W0.cell? ⟨w.heap.size, 0, none⟩ = some (.int .i64 t.op) := hP.b0.cell 0
  have pl := hP.b0.lt
  have hN := Lib.hid hn
  have HO := Lib.hid ho
  have HWW := Lib.hid hW0n
  generalize fkd t.ks 0 = x0 at *
  generalize fkd t.ks 1 = x1 at *
  obtain ⟨y0, hy0⟩ : ∃ y, psF x0 false = y := ⟨_, rfl⟩
  obtain ⟨y1, hy1⟩ : ∃ y, psF x1 true = y := ⟨_, rfl⟩
  rw [hy0] at X HC0
  rw [hy1] at X HC1
  have HDR : Hid (Below W0.heap.size W0 W0.drew) := Lib.hid ((Below.refl _ _).drew)
  have HTG : Hid (∀ (w1 w2 : World) (E1 A1 E2 A2 : Option Addr) (d1 c1 d2 c2 : Nat), Below W0.heap.size W0 w1 → FmS (Ot B W0.heap.size w1) w1 y0 E1 A1 → Below w1.heap.size w1 w2 → FmS (Ot B w1.heap.size w2) w2 y1 E2 A2 → ∀ w3, Below (w2.alloc (.cells #[.int .i64 y0.op, .int .i64 y0.e.op, .int .i64 y0.e.vr, .string y0.e.nm, .slice E1 y0.e.ks.length d1, .slice A1 y0.ks.length c1, .int .i64 y1.op, .int .i64 y1.e.op, .int .i64 y1.e.vr, .string y1.e.nm, .slice E2 y1.e.ks.length d2, .slice A2 y1.ks.length c2] 27)).heap.size (w2.alloc (.cells #[.int .i64 y0.op, .int .i64 y0.e.op, .int .i64 y0.e.vr, .string y0.e.nm, .slice E1 y0.e.ks.length d1, .slice A1 y0.ks.length c1, .int .i64 y1.op, .int .i64 y1.e.op, .int .i64 y1.e.vr, .string y1.e.nm, .slice E2 y1.e.ks.length d2, .slice A2 y1.ks.length c2] 27)) w3 → Below W0.heap.size W0 w3 ∧ Blk w3 (w.heap.size + 1) 27 fZ ∧ ∀ o v0 v1 v2 v3 v4 v5, FmS (Ot B w.heap.size (Z6 w3 (w.heap.size + 1) v0 v1 v2 v3 v4 v5)) (Z6 w3 (w.heap.size + 1) v0 v1 v2 v3 v4 v5) (.mk o ex0 [y0, y1]) none (some ⟨w2.heap.size, 0, none⟩) ∧ Below w.heap.size w (Z6 w3 (w.heap.size + 1) v0 v1 v2 v3 v4 v5)) := Lib.hid (fun w1 w2 E1 A1 E2 A2 d1 c1 d2 c2 hh1 hhf hb2 hF2 w3 hb3 => by
    have hh2 : Below W0.heap.size W0 w2 := bt hh1 hb2
    have hbx := bt (hh2.alloc hh2.size _) hb3
    refine ⟨hbx, HPW.out.b1.below hbx HPW.out.b1.lt, fun o v0 v1 v2 v3 v4 v5 => ?_⟩
    exact push_two o v0 v1 v2 v3 v4 v5 rfl HB.out HPW.out.al HPW.out.sz hh1 hhf hb2 hF2 (hb3.mono (by simp)) (by have := hb3.size; simp at this; omega) ((Blk.new w2 27 _).below hb3 (by simp)))
  clear hy0 hy1 hP hX hr0 hr1 hI hR hB hW0 hW0n ho hn
  go_enter Try.func47, Try.ntmps47
  go_upto_region 1 with (fail)
  rw [HWW.out]
  have g1 : (t.op == 1) = false := by rw [HO.out]; rfl
  have g2 : (t.op == 2) = false := by rw [HO.out]; rfl
  have g5 : (t.op == 5) = true := by rw [HO.out]; rfl
  go_upto_region 10 with (fail)
  clear p0 g1 g2 g5
  go_region_held3 (fun wx => (wx.cell? ⟨w.heap.size, 0, none⟩ = some (.int .i64 t.op) ∧ wx.cell? ⟨w.heap.size, 5, none⟩ = some (.slice (some ⟨bb, f, none⟩) 2 c)) ∧ K6 wx bb f x0 ea0 ec0 ka0 kc0 ∧ K6 wx bb (f + 6) x1 ea1 ec1 ka1 kc1) (first
    | with_reducible exact HX.out _ (H4.out _ _ _ _ _ _)
    | with_reducible exact HX.out _ (Frm.of_below H3.out)
    | with_reducible exact HX.out _ (Frm.of_below (H2.out.alloc H2.out.size _))
    | with_reducible exact HX.out _ (Frm.of_below H2.out)
    | with_reducible exact HX.out _ (Frm.of_below H1.out)
    | exact HX.out _ (Frm.of_below HDR.out)
    | exact HX.out _ (Frm.refl _ _)) ((first
    | (go_at_call 73; (with_reducible refine (rf_kids 3 (some ⟨w2.heap.size, 0, none⟩) 2 2 _).mono ?_); rintro e w3 ⟨rfl, hb3⟩; have hT := HT2.out w3 hb3; have H3 := Lib.hid hT.1; have hz := hT.2.1; have z0 := hz.cell 0; have z1 := hz.cell 1; have z2 := hz.cell 2; have z3 := hz.cell 3; have z4 := hz.cell 4; have z5 := hz.cell 5; have q0 := hz.frozen 0; have q1 := hz.frozen 1; have q2 := hz.frozen 2; have q3 := hz.frozen 3; have q4 := hz.frozen 4; have q5 := hz.frozen 5; have zl := hz.lt; have HZ := Lib.hid hz; have H4 := Lib.hid (fun v0 v1 v2 v3 v4 v5 => frm_z6 (S := fun x => x = w.heap.size + 1) (g := w.heap.size + 1) (Frm.of_below hT.1) rfl v0 v1 v2 v3 v4 v5); have HF := Lib.hid hT.2.2; clear hT hz hb3)
    | (go_at_call 47; have _ := H1; (with_reducible refine (HC1.out _ H1.out).mono ?_); rintro e w2 ⟨E2, d2, A2, c2, rfl, hF2, hb2⟩; have H2 : Hid (Below W0.heap.size W0 w2) := Lib.hid (bt H1.out hb2); have HT2 := Lib.hid (HTG.out w1 w2 E1 A1 E2 A2 d1 c1 d2 c2 H1.out HF1.out hb2 hF2); clear hF2 hb2)
    | (go_at_call 47; (with_reducible refine (HC0.out _ HDR.out).mono ?_); rintro e w1 ⟨E1, d1, A1, c1, rfl, hF1, hb1⟩; have H1 : Hid (Below W0.heap.size W0 w1) := Lib.hid (bt HDR.out hb1); have HF1 : Hid (FmS (Ot B W0.heap.size w1) w1 y0 E1 A1) := Lib.hid hF1; clear hF1 hb1)))
  all_goals go_wp2
  all_goals
    refine bodyPost_ret (res_fx rfl _ _ (w.heap.size + 1) _ _ _ _ _ _ rfl ((((((HZ.out.set_ 0 _).set_ 1 _).set_ 2 _).set_ 3 _).set_ 4 _).set_ 5 _)) rfl ?_
    rw [X.out]
    exact ⟨none, 0, some ⟨w2.heap.size, 0, none⟩, 2, rfl, (HF.out _ _ _ _ _ _ _).1, (HF.out 3 _ _ _ _ _ _).2⟩
set_option maxRecDepth 100000 in
set_option maxHeartbeats 16000000 in
theorem rf_push5f (B : Nat) (t : Fx) (E A : Option Addr) (dd c : Nat) (w : World) (ho : t.op = 5) (hn : t.ks.length = 2) (hB : B ≤ w.heap.size) (hR : Fm B w t E A) (hI : PuI 47 B t) :
    Calls Try.prog 47 #[fV t E dd A c, .bool false] w (PuP B (psF t false) w) := by
  obtain ⟨W0, hW0⟩ : ∃ W, (w.alloc (.cells (fC t E dd A c) 27)).alloc (.cells fZ 27) = W := ⟨_, rfl⟩
  have hP := PuW.mk' (dd := dd) (c := c) hB hR
  rw [hW0] at hP
  have hW0n : (w.alloc (.cells #[.int .i64 t.op, .int .i64 t.e.op, .int .i64 t.e.vr, .string t.e.nm, .slice E t.e.ks.length dd, .slice A 2 c] 27)).alloc (.cells fZ 27) = W0 := by rw [← hn]; exact hW0
  show Calls Try.prog 47 #[.agg #[.int .i64 t.op, .int .i64 t.e.op, .int .i64 t.e.vr, .string t.e.nm, .slice E t.e.ks.length dd, .slice A t.ks.length c], .bool false] w _
  rw [hn]
  obtain ⟨bb, f, ea0, ec0, ka0, kc0, ea1, ec1, ka1, kc1, rfl, hX, hr0, hr1⟩ := hP.two hn
  have X : Hid (psF t false = .mk 4 ex0 [psF (fkd t.ks 0) true, psF (fkd t.ks 1) false]) := Lib.hid (by
    have h := psF_eq t false
    rw [if_neg (by omega), if_neg (by omega), if_pos ho, apF_at _ _ _ (by omega), apF_at _ _ _ (by omega)] at h
    exact h)
  have HI := Lib.hid hI
  have HC0 : Hid (∀ wx, Below W0.heap.size W0 wx → Calls Try.prog 47 #[fV (fkd t.ks 0) ea0 ec0 ka0 kc0, .bool true] wx (PuP B (psF (fkd t.ks 0) true) wx)) := Lib.hid (fun wx hx => hI 0 (by omega) _ _ _ _ _ wx (by have := hP.al.size; have := hx.size; omega) (hr0.under (hx.mono (by have := hP.al.size; omega))))
  have HC1 : Hid (∀ wx, Below W0.heap.size W0 wx → Calls Try.prog 47 #[fV (fkd t.ks 1) ea1 ec1 ka1 kc1, .bool false] wx (PuP B (psF (fkd t.ks 1) false) wx)) := Lib.hid (fun wx hx => hI 1 (by omega) _ _ _ _ _ wx (by have := hP.al.size; have := hx.size; omega) (hr1.under (hx.mono (by have := hP.al.size; omega))))
  rw [hn] at hX
  have HX := Lib.hid hX
  have HPW := Lib.hid hP
  have HB := Lib.hid hB
  have p0 : W0.cell? ⟨w.heap.size, 0, none⟩ = some (.int .i64 t.op) := hP.b0.cell 0
  have pl := hP.b0.lt
  have hN := Lib.hid hn
  have HO := Lib.hid ho
  have HWW := Lib.hid hW0n
  generalize fkd t.ks 0 = x0 at *
  generalize fkd t.ks 1 = x1 at *
  obtain ⟨y0, hy0⟩ : ∃ y, psF x0 true = y := ⟨_, rfl⟩
  obtain ⟨y1, hy1⟩ : ∃ y, psF x1 false = y := ⟨_, rfl⟩
  rw [hy0] at X HC0
  rw [hy1] at X HC1
  have HDR : Hid (Below W0.heap.size W0 W0.drew) := Lib.hid ((Below.refl _ _).drew)
  have HTG : Hid (∀ (w1 w2 : World) (E1 A1 E2 A2 : Option Addr) (d1 c1 d2 c2 : Nat), Below W0.heap.size W0 w1 → FmS (Ot B W0.heap.size w1) w1 y0 E1 A1 → Below w1.heap.size w1 w2 → FmS (Ot B w1.heap.size w2) w2 y1 E2 A2 → ∀ w3, Below (w2.alloc (.cells #[.int .i64 y0.op, .int .i64 y0.e.op, .int .i64 y0.e.vr, .string y0.e.nm, .slice E1 y0.e.ks.length d1, .slice A1 y0.ks.length c1, .int .i64 y1.op, .int .i64 y1.e.op, .int .i64 y1.e.vr, .string y1.e.nm, .slice E2 y1.e.ks.length d2, .slice A2 y1.ks.length c2] 27)).heap.size (w2.alloc (.cells #[.int .i64 y0.op, .int .i64 y0.e.op, .int .i64 y0.e.vr, .string y0.e.nm, .slice E1 y0.e.ks.length d1, .slice A1 y0.ks.length c1, .int .i64 y1.op, .int .i64 y1.e.op, .int .i64 y1.e.vr, .string y1.e.nm, .slice E2 y1.e.ks.length d2, .slice A2 y1.ks.length c2] 27)) w3 → Below W0.heap.size W0 w3 ∧ Blk w3 (w.heap.size + 1) 27 fZ ∧ ∀ o v0 v1 v2 v3 v4 v5, FmS (Ot B w.heap.size (Z6 w3 (w.heap.size + 1) v0 v1 v2 v3 v4 v5)) (Z6 w3 (w.heap.size + 1) v0 v1 v2 v3 v4 v5) (.mk o ex0 [y0, y1]) none (some ⟨w2.heap.size, 0, none⟩) ∧ Below w.heap.size w (Z6 w3 (w.heap.size + 1) v0 v1 v2 v3 v4 v5)) := Lib.hid (fun w1 w2 E1 A1 E2 A2 d1 c1 d2 c2 hh1 hhf hb2 hF2 w3 hb3 => by
    have hh2 : Below W0.heap.size W0 w2 := bt hh1 hb2
    have hbx := bt (hh2.alloc hh2.size _) hb3
    refine ⟨hbx, HPW.out.b1.below hbx HPW.out.b1.lt, fun o v0 v1 v2 v3 v4 v5 => ?_⟩
    exact push_two o v0 v1 v2 v3 v4 v5 rfl HB.out HPW.out.al HPW.out.sz hh1 hhf hb2 hF2 (hb3.mono (by simp)) (by have := hb3.size; simp at this; omega) ((Blk.new w2 27 _).below hb3 (by simp)))
  clear hy0 hy1 hP hX hr0 hr1 hI hR hB hW0 hW0n ho hn
  go_enter Try.func47, Try.ntmps47
  go_upto_region 1 with (fail)
  rw [HWW.out]
  have g1 : (t.op == 1) = false := by rw [HO.out]; rfl
  have g2 : (t.op == 2) = false := by rw [HO.out]; rfl
  have g5 : (t.op == 5) = true := by rw [HO.out]; rfl
  go_upto_region 11 with (fail)
  clear p0 g1 g2 g5
  go_region_held3 (fun wx => (wx.cell? ⟨w.heap.size, 0, none⟩ = some (.int .i64 t.op) ∧ wx.cell? ⟨w.heap.size, 5, none⟩ = some (.slice (some ⟨bb, f, none⟩) 2 c)) ∧ K6 wx bb f x0 ea0 ec0 ka0 kc0 ∧ K6 wx bb (f + 6) x1 ea1 ec1 ka1 kc1) (first
    | with_reducible exact HX.out _ (H4.out _ _ _ _ _ _)
    | with_reducible exact HX.out _ (Frm.of_below H3.out)
    | with_reducible exact HX.out _ (Frm.of_below (H2.out.alloc H2.out.size _))
    | with_reducible exact HX.out _ (Frm.of_below H2.out)
    | with_reducible exact HX.out _ (Frm.of_below H1.out)
    | exact HX.out _ (Frm.of_below HDR.out)
    | exact HX.out _ (Frm.refl _ _)) ((first
    | (go_at_call 73; (with_reducible refine (rf_kids 4 (some ⟨w2.heap.size, 0, none⟩) 2 2 _).mono ?_); rintro e w3 ⟨rfl, hb3⟩; have hT := HT2.out w3 hb3; have H3 := Lib.hid hT.1; have hz := hT.2.1; have z0 := hz.cell 0; have z1 := hz.cell 1; have z2 := hz.cell 2; have z3 := hz.cell 3; have z4 := hz.cell 4; have z5 := hz.cell 5; have q0 := hz.frozen 0; have q1 := hz.frozen 1; have q2 := hz.frozen 2; have q3 := hz.frozen 3; have q4 := hz.frozen 4; have q5 := hz.frozen 5; have zl := hz.lt; have HZ := Lib.hid hz; have H4 := Lib.hid (fun v0 v1 v2 v3 v4 v5 => frm_z6 (S := fun x => x = w.heap.size + 1) (g := w.heap.size + 1) (Frm.of_below hT.1) rfl v0 v1 v2 v3 v4 v5); have HF := Lib.hid hT.2.2; clear hT hz hb3)
    | (go_at_call 47; have _ := H1; (with_reducible refine (HC1.out _ H1.out).mono ?_); rintro e w2 ⟨E2, d2, A2, c2, rfl, hF2, hb2⟩; have H2 : Hid (Below W0.heap.size W0 w2) := Lib.hid (bt H1.out hb2); have HT2 := Lib.hid (HTG.out w1 w2 E1 A1 E2 A2 d1 c1 d2 c2 H1.out HF1.out hb2 hF2); clear hF2 hb2)
    | (go_at_call 47; (with_reducible refine (HC0.out _ HDR.out).mono ?_); rintro e w1 ⟨E1, d1, A1, c1, rfl, hF1, hb1⟩; have H1 : Hid (Below W0.heap.size W0 w1) := Lib.hid (bt HDR.out hb1); have HF1 : Hid (FmS (Ot B W0.heap.size w1) w1 y0 E1 A1) := Lib.hid hF1; clear hF1 hb1)))
  all_goals go_wp2
  all_goals
    refine bodyPost_ret (res_fx rfl _ _ (w.heap.size + 1) _ _ _ _ _ _ rfl ((((((HZ.out.set_ 0 _).set_ 1 _).set_ 2 _).set_ 3 _).set_ 4 _).set_ 5 _)) rfl ?_
    rw [X.out]
    exact ⟨none, 0, some ⟨w2.heap.size, 0, none⟩, 2, rfl, (HF.out _ _ _ _ _ _ _).1, (HF.out 4 _ _ _ _ _ _).2⟩
end Go.Proofs.Ytnjkphopklbogaa
namespace Go.Proofs.Ytnjkphopklbogaa
open Go.RowKit

abbrev nodV (o : Int) (v : Value) : Array Value := #[.int .i64 o, .int .i64 0, .int .i64 0, .string ⟨#[]⟩, .slice none 0 0, v]
/-- Where the pushed Kids may lie: not in the node's own box. -/
def Zp (B K G6 x : Nat) : Prop := (x < B ∨ K ≤ x) ∧ x ≠ G6
/-- The loop's state: the node's box at G6, its row of pushed Kids. -/
structure PuL (B : Nat) (t : Fx) (b : Bool) (o : Int) (G6 : Nat) (W0 : World) (i : Nat) (wr : World) : Prop where
  al : Below W0.heap.size W0 wr
  lo : W0.heap.size ≤ G6
  row : ∃ v, Blk wr G6 27 (nodV o v) ∧ RowG (Zp B W0.heap.size G6) wr W0.heap.size v i ((t.ks.take i).map (fun u => psF u b)) ∧ v.ownBlock ≠ some G6
theorem pul_step {B G6 i : Nat} {t : Fx} {b : Bool} {o : Int} {W0 wr wx w1 w8 : World} {v v8 : Value} {ea ka : Nat → Option Addr} {ec kc : Nat → Nat} {E1 A1 : Option Addr} {d1 c1 : Nat} (hB : B ≤ W0.heap.size) (h : PuL B t b o G6 W0 i wr) (hi : i < t.ks.length) (hb6 : Blk wr G6 27 (nodV o v)) (hl : ((t.ks.take i).map (fun u => psF u b)).length = i)
    (ho : wr.ownsRow W0.heap.size 27 6 v i (csF ((t.ks.take i).map (fun u => psF u b)) ea ka ec kc))
    (hk : ∀ j, j < i → FmS (fun x => (Zp B W0.heap.size G6 x ∧ x < wr.heap.size) ∧ v.ownBlock ≠ some x) wr (fkd ((t.ks.take i).map (fun u => psF u b)) j) (ea j) (ka j)) (hne : v.ownBlock ≠ some G6)
    (hx : Below wr.heap.size wr wx) (h1 : Below wx.heap.size wx w1) (hF : FmS (Ot B wx.heap.size w1) w1 (psF (fkd t.ks i) b) E1 A1)
    (hg : (w1.alloc (.cells (fC (psF (fkd t.ks i) b) E1 d1 A1 c1) 27)).grownBy w8 v.ownBlock) (ho8 : w8.ownsRow W0.heap.size 27 6 v8 (i + 1) (csF ((t.ks.take i).map (fun u => psF u b)) ea ka ec kc ++ (fC (psF (fkd t.ks i) b) E1 d1 A1 c1).toList))
    (hat : ∀ k, v8.ownBlock = some k → v.ownBlock = some k ∨ k = (w1.alloc (.cells (fC (psF (fkd t.ks i) b) E1 d1 A1 c1) 27)).heap.size) :
    Blk w8 G6 27 (nodV o v) ∧ PuL B t b o G6 W0 (i + 1) (w8.setCell ⟨G6, 5, none⟩ v8) := by
  obtain ⟨W, hW⟩ : ∃ W, w1.alloc (.cells (fC (psF (fkd t.ks i) b) E1 d1 A1 c1) 27) = W := ⟨_, rfl⟩
  have h1W : Below w1.heap.size w1 W := by rw [← hW]; exact bal _ _
  rw [hW] at hg hat
  have hlo := h.lo
  have hK := h.al.size
  have hxs := hx.size
  have h1s := h1.size
  have hWs := h1W.size
  have hgs := hg.size
  have hbW : Below wr.heap.size wr W := bt hx (bt h1 h1W)
  have g6l := hb6.lt
  have b8 : Blk w8 G6 27 (nodV o v) := (hg.block G6 (by omega) (fun e => hne e.symm)).trans (hb6.below hbW g6l)
  have hown : ∀ k, v.ownBlock = some k → W0.heap.size ≤ k ∧ k < wr.heap.size := fun k hk => ho.lt k hk
  have hr8 : RowG (Zp B W0.heap.size G6) w8 W0.heap.size v8 (i + 1) (((t.ks.take i).map (fun u => psF u b)) ++ [psF (fkd t.ks i) b]) := by
    refine RowG.push (P := Ot B wx.heap.size w1) (W := W) hl hk hbW (hF.kept (fun x hx => h1W.block x (by rcases hx with q | q <;> omega))) (fun x hx => ⟨⟨⟨?_, ?_⟩, ?_⟩, fun e => ?_⟩) hg ho8 hat
    · rcases hx with q | q
      · exact .inl q
      · exact .inr (by omega)
    · rcases hx with q | q <;> omega
    · rcases hx with q | q <;> omega
    · have := hown x e
      rcases hx with q | q <;> omega
  have hn8 : v8.ownBlock ≠ some G6 := fun e => by
    rcases hat G6 e with q | q
    · exact hne q
    · omega
  have hts : (t.ks.take (i + 1)).map (fun u => psF u b) = ((t.ks.take i).map (fun u => psF u b)) ++ [psF (fkd t.ks i) b] := by
    rw [List.take_add_one, List.map_append, List.getElem?_eq_getElem hi]
    simp [fkd, List.getD, List.getElem?_eq_getElem hi]
  refine ⟨b8, ?_, hlo, v8, b8.set_ 5 _, ?_, hn8⟩
  · have hb := (h.al.trans (hbW.mono hK)).grown hg (by omega) (fun k hk => (hown k hk).1)
    exact below_set hb hlo _ _
  · rw [hts]
    refine hr8.kept (fun x hz hx hv => set_blk _ _ _ hz.2) (fun k hk => set_blk _ _ _ (fun e => hn8 (by rw [← e]; exact hk))) (by simp)
/-- The loop's end: the box's node is the answer. -/
theorem pul_done {B G6 : Nat} {t : Fx} {b : Bool} {o : Int} {w W0 wr : World} (_hB : B ≤ w.heap.size) (_hw : w.heap.size ≤ W0.heap.size) (h : PuL B t b o G6 W0 t.ks.length wr) : ∃ A c, Blk wr G6 27 (nodV o (.slice A t.ks.length c)) ∧ FmS (Ot B W0.heap.size wr) wr (.mk o ex0 (t.ks.map (fun u => psF u b))) none A := by
  obtain ⟨v, hb, hr, hne⟩ := h.row
  obtain ⟨A, c, hv⟩ := hr.form
  have ht := hr.tree o ex0 hv
  rw [List.take_length] at ht
  refine ⟨A, c, by rw [← hv]; exact hb, RepS.leaf rfl, ht.mono (fun x hx => ?_)⟩
  rcases hx.1 with q | q
  · rcases q.1 with p | p
    · exact .inl p
    · exact .inr ⟨p, hx.2⟩
  · exact .inr ⟨(hr.own_lt q).1, hx.2⟩

set_option maxRecDepth 100000 in
set_option maxHeartbeats 16000000 in
theorem pr_pushN (B : Nat) (t : Fx) (E A : Option Addr) (dd c : Nat) (b : Bool) (w : World) (ho : t.op ≠ 1 ∧ t.op ≠ 2 ∧ t.op ≠ 5 ∧ t.op ≠ 9 ∧ t.op ≠ 13) (hn : t.ks.length ≤ 1000000) (hB : B ≤ w.heap.size) (hR : Fm B w t E A) (hI : PuI 45 B t) :
    Calls Try.prog 45 #[fV t E dd A c, .bool b] w (PuP B (psF t b) w) := by
  obtain ⟨W0, hW0⟩ : ∃ W, (w.alloc (.cells (fC t E dd A c) 27)).alloc (.cells fZ 27) = W := ⟨_, rfl⟩
  have hP := PuW.mk' (dd := dd) (c := c) hB hR
  rw [hW0] at hP
  obtain ⟨n, hnn⟩ : ∃ n, t.ks.length = n := ⟨_, rfl⟩
  have HM : Hid (n = t.ks.length) := Lib.hid hnn.symm
  have hW0n : (w.alloc (.cells #[.int .i64 t.op, .int .i64 t.e.op, .int .i64 t.e.vr, .string t.e.nm, .slice E t.e.ks.length dd, .slice A n c] 27)).alloc (.cells fZ 27) = W0 := by rw [← hnn]; exact hW0
  show Calls Try.prog 45 #[.agg #[.int .i64 t.op, .int .i64 t.e.op, .int .i64 t.e.vr, .string t.e.nm, .slice E t.e.ks.length dd, .slice A t.ks.length c], .bool b] w _
  rw [hnn]
  have X : Hid (psF t b = .mk (dualF t.op b) ex0 (t.ks.map (fun u => psF u b))) := Lib.hid (by
    have h := psF_eq t b
    rw [if_neg ho.1, if_neg ho.2.1, if_neg ho.2.2.1, if_neg (by omega)] at h
    exact h)
  have HI := Lib.hid hI
  have HPW := Lib.hid hP
  have HB := Lib.hid hB
  have HBW : Hid (B ≤ W0.heap.size) := Lib.hid (by have := hP.al.size; omega)
  have p0 : W0.cell? ⟨w.heap.size, 0, none⟩ = some (.int .i64 t.op) := hP.b0.cell 0
  have pl := hP.b0.lt
  have HO := Lib.hid ho
  have HWW := Lib.hid hW0n
  obtain ⟨o, hoo⟩ : ∃ o, dualF t.op b = o := ⟨_, rfl⟩
  have HOO := Lib.hid hoo
  have hn1 : n ≤ 1000000 := by omega
  clear hoo hP hI hR hB hW0 hW0n ho hnn hn
  go_enter Try.func45, Try.ntmps45
  go_upto_region 1 with (fail)
  rw [HWW.out]
  have g1 : (t.op == 1) = false := by simp [HO.out.1]
  have g2 : (t.op == 2) = false := by simp [HO.out.2.1]
  have g5 : (t.op == 5) = false := by simp [HO.out.2.2.1]
  have g9 : (t.op == 9) = false := by simp [HO.out.2.2.2.1]
  have g13 : (t.op == 13) = false := by simp [HO.out.2.2.2.2]
  go_upto_region 16 with (fail)
  clear g1 g2 g5 g9 g13
  go_upto_region 17 with (first
    | (go_at_call 69; (with_reducible refine (pr_node _ _ _ _ _).mono ?_); rintro e w1 ⟨rfl, hb1⟩; have HB1 := Lib.hid hb1; clear hb1)
    | (go_at_call 70; (with_reducible refine (pr_oper _ _ _).mono ?_); rintro e wo ⟨rfl, hwo⟩; have hwo := hwo.symm; subst hwo))
  rw [HOO.out]
  obtain ⟨W6, hW6⟩ : ∃ W, w1.alloc (.cells (nodV o (.slice none 0 0)) 27) = W := ⟨_, rfl⟩
  rw [hW6]
  obtain ⟨G6, hG6⟩ : ∃ g, w1.heap.size = g := ⟨_, rfl⟩
  rw [hG6]
  have hP0 : Hid (PuL B t b o G6 W0 0 W6) := Lib.hid (by
    rw [← hW6, ← hG6]
    exact ⟨al HB1.out _, HB1.out.size, .slice none 0 0, Blk.new _ _ _, RowG.nil _ _ _, by simp [Value.ownBlock]⟩)
  have x5 : W6.cell? ⟨w.heap.size, 5, none⟩ = some (.slice A n c) := by
    have h : W6.cell? ⟨w.heap.size, 5, none⟩ = some (.slice A t.ks.length c) := (HPW.out.b0.below hP0.out.al HPW.out.b0.lt).cell 5
    rw [← HM.out] at h
    exact h
  clear hW6 hG6 HB1 p0 pl
  go_wp2
  clear x5
  go_loopw [78] (fun i wr => ∃ (j : Nat), j ≤ n ∧ i = .int .i64 (j : Int) ∧ Hid (PuL B t b o G6 W0 j wr)) (fun i _ => n - (intOf i).toNat)
  case atStart => exact ⟨0, Nat.zero_le _, rfl, hP0⟩
  case round =>
    obtain ⟨i, hi, rfl, HP⟩ := hrel
    by_cases hlt : i < n
    · have l1 : (i : Int) < (n : Int) := by omega
      have l0 : (0 : Int) ≤ (i : Int) := by omega
      have hi2 : i < t.ks.length := by rw [← HM.out]; exact hlt
      obtain ⟨bb, f, rfl, hbb, hc⟩ := HPW.out.rp.2.out (by omega)
      obtain ⟨ea, ec, ka, kc, hat, r0, r1⟩ := hc i hi2
      have hzs := HP.out.al.size
      have hat2 : FAt wr bb (f + i * 6) (fkd t.ks i) ea ec ka kc := hat.turn (fun o => World.cell?_of_block (a := ⟨bb, o, none⟩) (HP.out.al.block bb (by have := HBW.out; omega)))
      have HR0 : Hid (Fm B W0 (fkd t.ks i) ea ka) := Lib.hid ⟨r0, r1⟩
      obtain ⟨v, hb6, ⟨hl, ea2, ka2, ec2, kc2, hown, hkk⟩, hne⟩ := HP.out.row
      obtain ⟨Av, cv, rfl⟩ := owns_slice hown
      have HC : Hid (∀ wx, Below wr.heap.size wr wx → Calls Try.prog 45 #[fV (fkd t.ks i) ea ec ka kc, .bool b] wx (PuP B (psF (fkd t.ks i) b) wx)) := Lib.hid (fun wx hx => by
        have hbx := bt HP.out.al hx
        exact HI.out i hi2 _ _ _ _ _ wx (by have := HBW.out; have := hbx.size; omega) (HR0.out.under (hbx.mono HBW.out)))
      obtain ⟨cs, hcs⟩ : ∃ cs, csF ((t.ks.take i).map (fun u => psF u b)) ea2 ka2 ec2 kc2 = cs := ⟨_, rfl⟩
      obtain ⟨u, hu⟩ : ∃ u, fkd t.ks i = u := ⟨_, rfl⟩
      obtain ⟨y, hy⟩ : ∃ y, psF u b = y := ⟨_, rfl⟩
      have HST : Hid (∀ wx w1 w8 E1 A1 d1 c1 A8 c8, Below wr.heap.size wr wx → Below wx.heap.size wx w1 → FmS (Ot B wx.heap.size w1) w1 y E1 A1 → (w1.alloc (.cells (fC y E1 d1 A1 c1) 27)).grownBy w8 (Value.slice Av i cv).ownBlock → w8.ownsRow W0.heap.size 27 6 (.slice A8 (i + 1) c8) (i + 1) (cs ++ (fC y E1 d1 A1 c1).toList) → (∀ k, (Value.slice A8 (i + 1) c8).ownBlock = some k → (Value.slice Av i cv).ownBlock = some k ∨ k = (w1.alloc (.cells (fC y E1 d1 A1 c1) 27)).heap.size) →
          Blk w8 G6 27 (nodV o (.slice Av i cv)) ∧ PuL B t b o G6 W0 (i + 1) (w8.setCell ⟨G6, 5, none⟩ (.slice A8 (i + 1) c8))) := Lib.hid (fun wx w1 w8 E1 A1 d1 c1 A8 c8 hx h1 hF hg h8 hat => by
        rw [← hy, ← hu] at hF hg h8 hat
        rw [← hcs] at h8
        exact pul_step HBW.out HP.out hi2 hb6 hl hown hkk hne hx h1 hF hg h8 hat)
      have HOW : Hid (∀ wx, Below wr.heap.size wr wx → wx.ownsRow W0.heap.size 27 6 (.slice Av i cv) i cs) := Lib.hid (fun wx hx => by rw [← hcs]; exact own_keepG hown hx)
      rw [hu] at HC hat2
      rw [hy] at HC
      obtain ⟨wk, hwk⟩ : ∃ wk, wr.alloc (.cells (fC u ea ec ka kc) 27) = wk := ⟨_, rfl⟩
      have hbk : Below wr.heap.size wr wk := by rw [← hwk]; exact bal _ _
      have hkv : Blk wk wr.heap.size 27 (fC u ea ec ka kc) := by rw [← hwk]; exact Blk.new wr 27 _
      have hb6k := hb6.below hbk hb6.lt
      have HWK := Lib.hid hwk
      have HB6 := Lib.hid hb6k
      have HBD : Hid (Below wr.heap.size wr wk.drew) := Lib.hid (bt hbk ((Below.refl _ _).drew))
      have HDR : Hid (Below wk.heap.size wk wk.drew) := Lib.hid ((Below.refl _ _).drew)
      obtain ⟨d0, d1', d2, d3, d4, d5⟩ := hat2
      have HHK := Lib.hid hkv
      clear hu hy hcs hwk hbk hown hkk hne hl hb6 hat r0 r1 hc hbb
      go_upto_region 20 with (fail)
      rw [HWK.out]
      clear d0 d1' d2 d3 d4 d5
      have y0 := hkv.cell 0
      have y1 := hkv.cell 1
      have y2 := hkv.cell 2
      have y3 := hkv.cell 3
      have y4 := hkv.cell 4
      have y5 := hkv.cell 5
      have x5 : wk.cell? ⟨G6, 5, none⟩ = some (.slice Av i cv) := hb6k.cell 5
      clear hkv hb6k
      go_region_law (first
        | (refine step_app_row Try.underlying25 info27 rfl (by decide) (by decide) (by rfl) (.tmp 83) (.tmp 87) (by rfl) W0.heap.size i (.slice Av i cv) cs (by rfl) (HOW.out _ (bt (bt HBD.out HB1.out) (bal _ _))) ⟨w1.heap.size, 0, none⟩ 1 1 (fC y E1 d1 A1 c1).toList (by rfl) (by rfl) HC5.out (by simp [Value.oneCell']) HLE.out (by omega) ?_; intro A8 c8 w8 hO8 hg8 ha8; obtain ⟨k8, i8⟩ := HST.out _ _ _ _ _ _ _ _ _ HBD.out HB1.out HF1.out hg8 hO8 ha8; have q0 : w8.cell? ⟨G6, 5, none⟩ = some (.slice Av i cv) := k8.cell 5; have q1 := k8.lt; have q2 := k8.frozen 5; have I8 := Lib.hid i8; clear hO8 hg8 ha8 k8 i8)
        | (go_simp; go_at_call 45; (with_reducible refine (HC.out _ HBD.out).mono ?_); rintro e w1 ⟨E1, d1, A1, c1, rfl, hF1, hb1⟩; have k1 := HB6.out.below (bt HDR.out hb1) HB6.out.lt; have e0 : w1.cell? ⟨G6, 5, none⟩ = some (.slice Av i cv) := k1.cell 5; have e1 : (w1.alloc (.cells (fC y E1 d1 A1 c1) 27)).cell? ⟨G6, 5, none⟩ = some (.slice Av i cv) := (k1.below (bal _ _) k1.lt).cell 5; have HC5 : Hid (∀ j z, (fC y E1 d1 A1 c1).toList[j]? = some z → (w1.alloc (.cells (fC y E1 d1 A1 c1) 27)).cell? ((⟨w1.heap.size, 0, none⟩ : Addr).add j) = some z) := Lib.hid (fun j z hj => by rw [adr_add, Nat.zero_add, (Blk.new w1 27 (fC y E1 d1 A1 c1)).cell j]; simpa using hj); have HF1 := Lib.hid hF1; have HB1 := Lib.hid hb1; have HLE : Hid (W0.heap.size ≤ (w1.alloc (.cells (fC y E1 d1 A1 c1) 27)).heap.size) := Lib.hid (by have := HP.out.al.size; have := (bt (bt HBD.out hb1) (bal w1 (.cells (fC y E1 d1 A1 c1) 27))).size; omega); clear hF1 hb1 k1))
      all_goals go_wp2
      all_goals exact ⟨⟨i + 1, by omega, by go_num, I8⟩, by simp [intOf] <;> omega⟩
    · have l1 : ¬ (i : Int) < (n : Int) := by omega
      obtain rfl : i = n := by omega
      have hdn := HP.out
      rw [HM.out] at hdn
      obtain ⟨A2, c2, hb6, hF⟩ := pul_done (w := w) HB.out (HPW.out.al.size) hdn
      have s0 := hb6.cell 0
      have s1 := hb6.cell 1
      have s2 := hb6.cell 2
      have s3 := hb6.cell 3
      have s4 := hb6.cell 4
      have s5 := hb6.cell 5
      have sl := hb6.lt
      have zz := HPW.out.b1.below HP.out.al HPW.out.b1.lt
      have z0 := zz.cell 0
      have z1 := zz.cell 1
      have z2 := zz.cell 2
      have z3 := zz.cell 3
      have z4 := zz.cell 4
      have z5 := zz.cell 5
      have q0 := zz.frozen 0
      have q1 := zz.frozen 1
      have q2 := zz.frozen 2
      have q3 := zz.frozen 3
      have q4 := zz.frozen 4
      have q5 := zz.frozen 5
      have zl := zz.lt
      have HZ := Lib.hid zz
      have HF := Lib.hid hF
      clear zz hF hdn
      go_wp2
      have hz := HPW.out.sz
      refine bodyPost_ret (res_fx rfl _ _ (w.heap.size + 1) _ _ _ _ _ _ rfl (z6_ret _ _ _ _ _ _ HZ.out)) rfl ?_
      rw [X.out, HOO.out]
      have h := z6_keep (.int .i64 o) (.int .i64 0) (.int .i64 0) (.string ⟨#[]⟩) (.slice none 0 0) (.slice A2 t.ks.length c2) (w := w) rfl HB.out (HPW.out.al.trans (HP.out.al.mono HPW.out.al.size)) (Nat.le_of_eq hz.symm) (by have := HP.out.al.size; omega) HF.out
      exact ⟨none, 0, A2, c2, by show _ = Ending.returned (.agg #[.int .i64 o, .int .i64 0, .int .i64 0, .string ⟨#[]⟩, .slice none 0 0, .slice A2 (t.ks.map (fun u => psF u b)).length c2]); rw [List.length_map], h.1, h.2⟩
end Go.Proofs.Ytnjkphopklbogaa
