/- The walk of FormsPushed; layer 32 (forms). -/
import Derived.Test.YtnjkphopklbogaaWk1
import Derived.Test.YtnjkphopklbogaaRa
import Derived.Test.YtnjkphopklbogaaRc
import Derived.Test.YtnjkphopklbogaaRd
import Derived.Deep.DeepCutAuto
namespace Go.Proofs.Ytnjkphopklbogaa
open Go.RowKit

set_option maxRecDepth 100000 in
set_option maxHeartbeats 8000000 in
/-- A formula that is too great or not valid: the examples alone. -/
theorem formsPushed_not (t : Fx) (E : Option Addr) (dd : Nat) (A : Option Addr) (c : Nat) (nt : Bool) (w : World) (hR : Fm w.heap.size w t E A) (hs : t.sz ≤ 1048576) (hno : ¬ (t.sz ≤ 60 ∧ chkF t = 0)) : Calls Try.prog 6 #[fV t E dd A c, .bool nt] w fun e w' => e = .returned (.bool true) ∧ Below w.heap.size w w' := by
  obtain ⟨W0, hW0⟩ : ∃ W, w.alloc (.cells (fC t E dd A c) 27) = W := ⟨_, rfl⟩
  have hb0 : Below w.heap.size w W0 := by rw [← hW0]; exact bal _ _
  have hk0 : Blk W0 w.heap.size 27 (fC t E dd A c) := by rw [← hW0]; exact Blk.new _ _ _
  have hR0 := hR.step hb0
  have HM : Hid (Calls Try.prog 7 #[fV t E dd A c, .int .i64 60] W0 fun e w' => ∃ b : Bool, ValP W0 b e w' ∧ (b = true → (t.sz : Int) ≤ 60)) := Lib.hid (rf_ManyS t E A dd c 60 W0 (by omega) hR0 (by decide) (by decide))
  have HCK : Hid (∀ wx, Below W0.heap.size W0 wx → At6 wx w.heap.size t E dd A c ∧ Calls Try.prog 9 #[fV t E dd A c] wx fun e w' => e = .returned (.int .i64 (chkF t)) ∧ Below W0.heap.size W0 w') := Lib.hid (fun wx hb => by
    have h := hk0.below hb hk0.lt
    exact ⟨⟨h.cell 0, h.cell 1, h.cell 2, h.cell 3, h.cell 4, h.cell 5⟩, (pr_fCheck t E A dd c wx (by omega) (hR0.step hb)).mono (fun e w' h => ⟨h.1, bt hb h.2⟩)⟩)
  obtain ⟨s0, s1, s2, s3, s4, s5⟩ := (HCK.out _ (Below.refl _ _)).1
  have HW0 := Lib.hid hW0
  have HB0 := Lib.hid hb0
  by_cases hz : t.sz ≤ 60
  · have hc : chkF t ≠ 0 := fun h => hno ⟨hz, h⟩
    have HM2 : Hid (Calls Try.prog 7 #[fV t E dd A c, .int .i64 60] W0 fun e w' => ∃ b : Bool, ValP W0 b e w') := Lib.hid (HM.out.mono (by rintro e w' ⟨b, h, _⟩; exact ⟨b, h⟩))
    have gz : (chkF t != 0) = true := by simp [hc]
    generalize chkF t = z at *
    clear hz hc hno hs hR hR0 hb0 hk0 hW0 HM
    go_enter Try.func6, Try.ntmps6
    go_upto_region 1 with (fail)
    rw [HW0.out]
    go_wp2_with (first
      | (go_at_call 8; (with_reducible refine (law_lives _).mono ?_); rintro e w9 ⟨rfl, hb9⟩; (first | have HB9 := Lib.hid (bt HB0.out (bt HB2.out hb9)) | have HB9 := Lib.hid (bt HB0.out (bt HB1.out hb9))); clear hb9)
      | (go_at_call 9; have _ := HB1; (with_reducible refine ((HCK.out _ HB1.out).2).mono ?_); rintro e w2 ⟨rfl, hb2⟩; have HB2 := Lib.hid hb2; clear hb2)
      | (go_at_call 7; (with_reducible refine HM2.out.mono ?_); rintro e w1 ⟨b1, rfl, hb1⟩; obtain ⟨r0, r1, r2, r3, r4, r5⟩ := (HCK.out _ hb1).1; have HB1 := Lib.hid hb1; clear hb1))
    all_goals (go_ret; exact ⟨rfl, HB9.out⟩)
  · have HM2 : Hid (Calls Try.prog 7 #[fV t E dd A c, .int .i64 60] W0 fun e w' => e = .returned (.bool false) ∧ Below W0.heap.size W0 w') := Lib.hid (HM.out.mono (by
      rintro e w' ⟨b, h, h2⟩
      cases b
      · exact h
      · have := h2 rfl; omega))
    clear hz hno hs hR hR0 hb0 hk0 hW0 HM HCK
    go_enter Try.func6, Try.ntmps6
    go_upto_region 1 with (fail)
    rw [HW0.out]
    go_wp2_with (first
      | (go_at_call 8; (with_reducible refine (law_lives _).mono ?_); rintro e w9 ⟨rfl, hb9⟩; have HB9 := Lib.hid (bt HB0.out (bt HB1.out hb9)); clear hb9)
      | (go_at_call 7; (with_reducible refine HM2.out.mono ?_); rintro e w1 ⟨rfl, hb1⟩; have HB1 := Lib.hid hb1; clear hb1))
    go_ret
    exact ⟨rfl, HB9.out⟩
/-- An element of the parts and its Kids. -/
theorem part_at {W5 : World} {A6 : Option Addr} {L : List Fx} (h : RepF W5.heap.size W5 A6 (.mk 0 ex0 L)) (hp : 0 < L.length) : ∃ b f, A6 = some ⟨b, f, none⟩ ∧ ∀ i, i < L.length → ∃ ea ec ka kc, (∀ wx, Below W5.heap.size W5 wx → C6 wx b (f + i * 6) (fkd L i) ea ec ka kc) ∧ Fm W5.heap.size W5 (fkd L i) ea ka ∧ (0 < (fkd L i).ks.length → ∃ b2 f2, ka = some ⟨b2, f2, none⟩ ∧ ∀ k, k < (fkd L i).ks.length → ∃ eb ed kb kd2, (∀ wx, Below W5.heap.size W5 wx → C6 wx b2 (f2 + k * 6) (fkd (fkd L i).ks k) eb ed kb kd2) ∧ Fm W5.heap.size W5 (fkd (fkd L i).ks k) eb kb) := by
  obtain ⟨b, f, rfl, hb, hc⟩ := h.out hp
  refine ⟨b, f, rfl, fun i hi => ?_⟩
  obtain ⟨ea, ec, ka, kc, hat, r0, r1⟩ := hc i hi
  refine ⟨ea, ec, ka, kc, fun wx hx => ?_, ⟨r0, r1⟩, fun hk => ?_⟩
  · have h1 := hat.turn (w' := wx) (fun o => World.cell?_of_block (a := ⟨b, o, none⟩) (hx.block b hb))
    exact ⟨h1.c0, h1.c1, h1.c2, h1.c3, h1.c4, h1.c5⟩
  · obtain ⟨b2, f2, e2, hb2, hc2⟩ := r1.out hk
    refine ⟨b2, f2, e2, fun k hkl => ?_⟩
    obtain ⟨eb, ed, kb, kd2, hat2, q0, q1⟩ := hc2 k hkl
    refine ⟨eb, ed, kb, kd2, fun wx hx => ?_, ⟨q0, q1⟩⟩
    have h1 := hat2.turn (w' := wx) (fun o => World.cell?_of_block (a := ⟨b2, o, none⟩) (hx.block b2 hb2))
    exact ⟨h1.c0, h1.c1, h1.c2, h1.c3, h1.c4, h1.c5⟩
set_option maxRecDepth 100000 in
set_option maxHeartbeats 16000000 in
theorem formsPushed_main (t : Fx) (E : Option Addr) (dd : Nat) (A : Option Addr) (c : Nat) (nt : Bool) (w : World) (hR : Fm w.heap.size w t E A) (hs : t.sz ≤ 60) (hc : chkF t = 0) : Calls Try.prog 6 #[fV t E dd A c, .bool nt] w fun e w' => e = .returned (.bool true) ∧ Below w.heap.size w w' := by
  obtain ⟨W0, hW0⟩ : ∃ W, w.alloc (.cells (fC t E dd A c) 27) = W := ⟨_, rfl⟩
  have hb0 : Below w.heap.size w W0 := by rw [← hW0]; exact bal _ _
  have hk0 : Blk W0 w.heap.size 27 (fC t E dd A c) := by rw [← hW0]; exact Blk.new _ _ _
  have hR0 := hR.step hb0
  have hps := ps_all t.sz t (Nat.le_refl _) (ok_chk hc) hs nt
  have hcg := chk_psF hc hs nt
  have hsg := psF_sz t.sz t (Nat.le_refl _) nt
  have HM2 : Hid (Calls Try.prog 7 #[fV t E dd A c, .int .i64 60] W0 fun e w' => ∃ b : Bool, ValP W0 b e w') := Lib.hid (rf_Many t E A dd c 60 W0 (by omega) hR0 (by decide) (by decide))
  have HAT : Hid (∀ wx, Below W0.heap.size W0 wx → At6 wx w.heap.size t E dd A c ∧ Fm wx.heap.size wx t E A) := Lib.hid (fun wx hb => by
    have h := hk0.below hb hk0.lt
    exact ⟨⟨h.cell 0, h.cell 1, h.cell 2, h.cell 3, h.cell 4, h.cell 5⟩, hR0.step hb⟩)
  have HCK : Hid (∀ wx, Below W0.heap.size W0 wx → Calls Try.prog 9 #[fV t E dd A c] wx fun e w' => e = .returned (.int .i64 0) ∧ Below W0.heap.size W0 w') := Lib.hid (fun wx hb => by
    have h := pr_fCheck t E A dd c wx (by omega) (hR0.step hb)
    rw [hc] at h
    exact h.mono (fun e w' h => ⟨h.1, bt hb h.2⟩))
  obtain ⟨g, hg⟩ : ∃ g, psF t nt = g := ⟨_, rfl⟩
  rw [hg] at hps hcg hsg
  have hsz : g.sz ≤ 240 := by omega
  have H21 : Hid (∀ wx, Below W0.heap.size W0 wx → Calls Try.prog 21 #[fV t E dd A c, .bool nt] wx fun e w' => ∃ E1 d1 A1 c1, e = .returned (fV g E1 d1 A1 c1) ∧ Fm w'.heap.size w' g E1 A1 ∧ Below W0.heap.size W0 w') := Lib.hid (fun wx hb => (pr_Push t E A dd c nt wx (by omega) (hR0.step hb)).mono (by
    rintro e w' ⟨E1, d1, A1, c1, h1, h2, h3⟩
    have hp : pshF t nt = g := by unfold pshF; rw [if_pos hc, hg]
    rw [hp] at h1 h2
    exact ⟨E1, d1, A1, c1, h1, h2, bt hb h3⟩))
  have HPD := Lib.hid hps.pd
  have HID := Lib.hid hps.idem
  have HNM : Hid (nmsF g = nmF t ∧ nmsF t = nmF t) := Lib.hid ⟨by rw [show nmsF g = nmF g from if_neg (by simpa using hcg)]; exact hps.nm, if_neg (by simpa using hc)⟩
  have HPSH : Hid (pshF g false = g) := Lib.hid (by unfold pshF; rw [if_pos hcg]; exact hps.idem)
  have HSZ := Lib.hid hsz
  have HTS := Lib.hid hs
  have HCC := Lib.hid hc
  have hS0 := (HAT.out _ (Below.refl _ _)).1
  obtain ⟨s0, s1, s2, s3, s4, s5⟩ := hS0
  have HW0 := Lib.hid hW0
  have HB0 := Lib.hid hb0
  obtain ⟨G, hG⟩ : ∃ G, w.heap.size = G := ⟨_, rfl⟩
  rw [hG] at HAT s0 s1 s2 s3 s4 s5
  have HG := Lib.hid hG
  clear hW0 hb0 hk0 hR hR0 hs hc hps hcg hsg hg hsz hG
  go_enter Try.func6, Try.ntmps6
  go_upto_region 1 with (fail)
  rw [HW0.out, HG.out]
  go_upto_region 4 with (first
    | (go_at_call 21; have _ := HB2; (with_reducible refine (H21.out _ HB2.out).mono ?_); rintro e w3 ⟨E3, d3, A3, c3, rfl, hf3, hb3⟩; have HF3 := Lib.hid hf3; have HB3 := Lib.hid hb3; clear hf3 hb3)
    | (go_at_call 8; (with_reducible refine (law_lives _).mono ?_); rintro e w9 ⟨rfl, hb9⟩; have HB9 := Lib.hid (bt HB0.out (bt HB1.out hb9)); clear hb9)
    | (go_at_call 9; have _ := HB1; (with_reducible refine (HCK.out _ HB1.out).mono ?_); rintro e w2 ⟨rfl, hb2⟩; obtain ⟨t0, t1, t2, t3, t4, t5⟩ := (HAT.out _ hb2).1; have HB2 := Lib.hid hb2; clear hb2)
    | (go_at_call 7; (with_reducible refine HM2.out.mono ?_); rintro e w1 ⟨b1, rfl, hb1⟩; obtain ⟨r0, r1, r2, r3, r4, r5⟩ := (HAT.out _ hb1).1; have HB1 := Lib.hid hb1; clear hb1))
  any_goals (go_ret; exact ⟨rfl, HB9.out⟩)
  obtain ⟨W5, hW5⟩ : ∃ W, w3.alloc (.cells (fC g E3 d3 A3 c3) 27) = W := ⟨_, rfl⟩
  obtain ⟨G5, hG5⟩ : ∃ x, w3.heap.size = x := ⟨_, rfl⟩
  rw [hW5, hG5]
  have hb05 : Below W0.heap.size W0 W5 := by rw [← hW5]; exact al HB3.out _
  have hk5 : Blk W5 G5 27 (fC g E3 d3 A3 c3) := by rw [← hW5, ← hG5]; exact Blk.new _ _ _
  have hf5 : Fm W5.heap.size W5 g E3 A3 := by rw [← hW5]; exact HF3.out.step (bal _ _)
  have HS : Hid (∀ wx, Below W5.heap.size W5 wx → At6 wx G t E dd A c ∧ At6 wx G5 g E3 d3 A3 c3) := Lib.hid (fun wx hb => by
    have h := hk5.below hb hk5.lt
    exact ⟨(HAT.out _ (bt hb05 hb)).1, ⟨h.cell 0, h.cell 1, h.cell 2, h.cell 3, h.cell 4, h.cell 5⟩⟩)
  have HFt : Hid (∀ wx, Below W5.heap.size W5 wx → Fm wx.heap.size wx t E A) := Lib.hid (fun wx hb => (HAT.out _ (bt hb05 hb)).2)
  have HFg : Hid (∀ wx, Below W5.heap.size W5 wx → Fm wx.heap.size wx g E3 A3) := Lib.hid (fun wx hb => hf5.step hb)
  have hsz := HSZ.out
  have hts := HTS.out
  have H27 : Hid (∀ wx, Below W5.heap.size W5 wx → Calls Try.prog 27 #[fV g E3 d3 A3 c3] wx fun e w' => e = .returned (.bool true) ∧ Below W5.heap.size W5 w') := Lib.hid (fun wx hb => (rf_Pushed g.sz g (Nat.le_refl _) (by omega) HPD.out E3 d3 A3 c3 wx (HFg.out wx hb)).mono (fun e w' h => ⟨h.1, bt hb h.2⟩))
  have H21b : Hid (∀ wx, Below W5.heap.size W5 wx → Calls Try.prog 21 #[fV g E3 d3 A3 c3, .bool false] wx fun e w' => ∃ E1 d1 A1 c1, e = .returned (fV g E1 d1 A1 c1) ∧ Fm w'.heap.size w' g E1 A1 ∧ Below W5.heap.size W5 w') := Lib.hid (fun wx hb => (pr_Push g E3 A3 d3 c3 false wx (by omega) (HFg.out wx hb)).mono (by
    rintro e w' ⟨E1, d1, A1, c1, h1, h2, h3⟩
    rw [HPSH.out] at h1 h2
    exact ⟨E1, d1, A1, c1, h1, h2, bt hb h3⟩))
  have H26a : Hid (∀ wx E1 d1 A1 c1, Below W5.heap.size W5 wx → Fm wx.heap.size wx g E1 A1 → Calls Try.prog 26 #[fV g E1 d1 A1 c1, fV g E3 d3 A3 c3] wx fun e w' => e = .returned (.bool true) ∧ Below W5.heap.size W5 w') := Lib.hid (fun wx E1 d1 A1 c1 hb hf => by
    have h := pr_fSame g.sz g (Nat.le_refl _) (by omega) g (by omega) E1 d1 A1 c1 E3 d3 A3 c3 wx hf (HFg.out wx hb)
    rw [eqF_refl] at h
    exact h.mono (fun e w' h => ⟨h.1, bt hb h.2⟩))
  obtain ⟨D, hD⟩ : ∃ D, setK (nmF t) = D := ⟨_, rfl⟩
  have H12g : Hid (∀ wx, Below W5.heap.size W5 wx → Calls Try.prog 12 #[fV g E3 d3 A3 c3] wx fun e w' => ∃ A1 c1, e = .returned (.slice A1 D.length c1) ∧ RT w' w'.heap.size A1 D ∧ Below wx.heap.size wx w' ∧ Below W5.heap.size W5 w') := Lib.hid (fun wx hb => (pr_fNames g E3 A3 d3 c3 wx (by omega) (HFg.out wx hb)).mono (by
    rintro e w' ⟨A1, c1, h1, h2, h3⟩
    rw [HNM.out.1, hD] at h1 h2
    exact ⟨A1, c1, h1, h2, h3, bt hb h3⟩))
  have H12t : Hid (∀ wx, Below W5.heap.size W5 wx → Calls Try.prog 12 #[fV t E dd A c] wx fun e w' => ∃ A1 c1, e = .returned (.slice A1 D.length c1) ∧ RT w' w'.heap.size A1 D ∧ Below wx.heap.size wx w' ∧ Below W5.heap.size W5 w') := Lib.hid (fun wx hb => (pr_fNames t E A dd c wx (by omega) (HFt.out wx hb)).mono (by
    rintro e w' ⟨A1, c1, h1, h2, h3⟩
    rw [HNM.out.2, hD] at h1 h2
    exact ⟨A1, c1, h1, h2, h3, bt hb h3⟩))
  have hDl : D.length ≤ 1000000000 := by rw [← hD]; exact Nat.le_trans (setK_le _) (by have := nmF_len t; omega)
  have H11 : Hid (∀ wx A1 c1 A2 c2, Below W5.heap.size W5 wx → RT wx wx.heap.size A1 D → RT wx wx.heap.size A2 D → Calls Try.prog 11 #[.slice A1 D.length c1, .slice A2 D.length c2] wx fun e w' => e = .returned (.bool true) ∧ Below W5.heap.size W5 w') := Lib.hid (fun wx A1 c1 A2 c2 hb h1 h2 => (rf_Texts D A1 A2 c1 c2 wx h1 h2 hDl).mono (fun e w' h => ⟨h.1, bt hb h.2⟩))
  generalize D.length = nD at *
  have HBW5 : Hid (Below w.heap.size w W5) := Lib.hid (bt HB0.out hb05)
  have HD1 : Hid (Below W5.heap.size W5 W5.drew) := Lib.hid ((Below.refl _ _).drew)
  have hS5 := HS.out _ (Below.refl _ _)
  clear s0 s1 s2 s3 s4 s5 r0 r1 r2 r3 r4 r5 t0 t1 t2 t3 t4 t5 hW5 hG5 hb05 hk5 hf5 hsz hts hD hDl H21 HCK HM2 HF3 HAT
  go_region_held3 (fun wx => At6 wx G t E dd A c ∧ At6 wx G5 g E3 d3 A3 c3) (first
    | with_reducible exact HS.out _ N6.out
    | with_reducible exact HS.out _ N5.out
    | with_reducible exact HS.out _ N4.out
    | with_reducible exact HS.out _ N3.out
    | with_reducible exact HS.out _ N2.out
    | with_reducible exact HS.out _ N1.out
    | with_reducible exact HS.out _ HD1.out
    | with_reducible exact HS.out _ (Below.refl _ _)
    | exact HS.out _ HD1.out
    | exact HS.out _ (Below.refl _ _)) ((first
    | (go_at_call 11; have _ := N5; (with_reducible refine (H11.out _ _ _ _ _ N5.out HU9.out HT10.out).mono ?_); rintro e w11 ⟨rfl, hb⟩; have N6 := Lib.hid hb; clear hb)
    | (go_at_call 12; have _ := N4; (with_reducible refine (H12t.out _ N4.out).mono ?_); rintro e w10 ⟨A10, c10, rfl, hT10, hq, hb⟩; have HT10 := Lib.hid hT10; have HU9 := Lib.hid (RT.step HT9.out hq); have N5 := Lib.hid hb; clear hT10 hb hq)
    | (go_at_call 12; have _ := N3; (with_reducible refine (H12g.out _ N3.out).mono ?_); rintro e w9 ⟨A9, c9, rfl, hT9, hq, hb⟩; have HT9 := Lib.hid hT9; have N4 := Lib.hid hb; clear hT9 hb hq)
    | (go_at_call 26; have _ := N2; (with_reducible refine (H26a.out _ _ _ _ _ N2.out HF7.out).mono ?_); rintro e w8 ⟨rfl, hb⟩; have N3 := Lib.hid hb; clear hb)
    | (go_at_call 21; have _ := N1; (with_reducible refine (H21b.out _ N1.out).mono ?_); rintro e w7 ⟨E7, d7, A7, c7, rfl, hf7, hb⟩; have HF7 := Lib.hid hf7; have N2 := Lib.hid hb; clear hf7 hb)
    | (go_at_call 27; have _ := HD1; (with_reducible refine (H27.out _ HD1.out).mono ?_); rintro e w6 ⟨rfl, hb⟩; have N1 := Lib.hid hb; clear hb)))
  obtain ⟨s0, s1, s2, s3, s4, s5⟩ := (HS.out _ N6.out).1
  have hts := HTS.out
  obtain ⟨L, hL⟩ : ∃ L, dedF (preF t) = L := ⟨_, rfl⟩
  have hLL : dedF (prtF t) = L := by unfold prtF; rw [if_neg (by simpa using HCC.out), hL]
  have HPT : Hid (Calls Try.prog 24 #[fV t E dd A c] w11 (PrtP L w11)) := Lib.hid (by
    have h := pr_Parts t E A dd c w11 (by omega) (HFt.out w11 N6.out)
    rw [hLL] at h
    exact h)
  have hLn : L.length ≤ 60 := by
    rw [← hL]
    have h := dedF_len (preF t) []
    have h2 := preF_len t
    have h3 : ([] : List Fx).length = 0 := rfl
    unfold dedF
    omega
  have HLS : Hid (∀ u, u ∈ L → u.sz ≤ 60) := Lib.hid (fun u hu => by
    rw [← hL] at hu
    rcases dedF_sub _ _ u hu with q | q
    · cases q
    · have := preF_sz t u q; omega)
  have HND : Hid (NdF L) := Lib.hid (by rw [← hL]; exact dedF_nd _)
  have HKID : Hid (∀ u v, u ∈ L → v ∈ u.ks → anL v L = true) := Lib.hid (fun u v hu hv => by rw [← hL] at hu ⊢; exact dedF_kid hu hv)
  have HHD : Hid (0 < L.length ∧ fkd L 0 = t) := Lib.hid (by
    obtain ⟨l', h⟩ := dedF_head t
    rw [← hL, h]
    exact ⟨by simp, rfl⟩)
  clear hL hLL hts
  obtain ⟨nL, hnL⟩ : ∃ n, L.length = n := ⟨_, rfl⟩
  have HNL : Hid (nL = L.length) := Lib.hid hnL.symm
  rw [hnL] at hLn
  clear hnL
  go_upto_region 7 with (go_at_call 24; (with_reducible refine HPT.out.mono ?_); rintro e w12 ⟨A6, c6, rfl, hr6, hb6⟩; have HR6 := Lib.hid hr6; have HB6 := Lib.hid hb6; clear hr6 hb6)
  rw [← HNL.out]
  obtain ⟨b, f, rfl, hpa⟩ := part_at HR6.out HHD.out.1
  rw [← HNL.out] at hpa
  have HPA := Lib.hid hpa
  have HSt : Hid (∀ wx, Below w12.heap.size w12 wx → At6 wx G t E dd A c ∧ Fm wx.heap.size wx t E A) := Lib.hid (fun wx hb => by
    have h := bt N6.out (bt HB6.out hb)
    exact ⟨(HS.out _ h).1, HFt.out _ h⟩)
  have H26 : Hid (∀ wx u v E1 d1 A1 c1 E2 d2 A2 c2, Below w12.heap.size w12 wx → Fm w12.heap.size w12 u E1 A1 → Fm w12.heap.size w12 v E2 A2 → u.sz ≤ 60 → v.sz ≤ 60 → Calls Try.prog 26 #[fV u E1 d1 A1 c1, fV v E2 d2 A2 c2] wx fun e w' => e = .returned (.bool (eqF u v)) ∧ Below w12.heap.size w12 w') := Lib.hid (fun wx u v E1 d1 A1 c1 E2 d2 A2 c2 hb h1 h2 s1 s2 => (pr_fSame u.sz u (Nat.le_refl _) (by omega) v (by omega) E1 d1 A1 c1 E2 d2 A2 c2 wx (h1.step hb) (h2.step hb)).mono (fun e w' h => ⟨h.1, bt hb h.2⟩))
  have HBW12 : Hid (Below w.heap.size w w12) := Lib.hid (bt HBW5.out (bt N6.out HB6.out))
  have hnp : (0 : Int) < (nL : Int) := by have := HHD.out.1; have := HNL.out; omega
  clear hpa s0 s1 s2 s3 s4 s5 HS HFt HFg H27 H21b H26a H12g H12t H11 HPT HR6 N1 N2 N3 N4 N5
  go_wp2
  go_loopw [7] (fun i wr => ∃ j : Nat, j ≤ nL ∧ i = .int .i64 (j : Int) ∧ Hid (Below w12.heap.size w12 wr)) (fun i _ => nL - (intOf i).toNat)
  case atStart => exact ⟨0, Nat.zero_le _, rfl, Lib.hid (Below.refl _ _)⟩
  case round =>
    obtain ⟨i, hi, rfl, HW⟩ := hrel
    have i0 : (0 : Int) ≤ (i : Int) := by omega
    by_cases hlt : i < nL
    · have i1 : (i : Int) < (nL : Int) := by omega
      have hiL : i < L.length := by rw [← HNL.out]; exact hlt
      obtain ⟨ea, ec, ka, kc, hat, hfm, hkid⟩ := HPA.out i hlt
      have HAT := Lib.hid hat
      have HFM := Lib.hid hfm
      have HKD := Lib.hid hkid
      have hsu := HLS.out _ (fkd_mem hiL)
      have HSU := Lib.hid hsu
      have HKM : Hid (∀ k, k < (fkd L i).ks.length → anL (fkd (fkd L i).ks k) L = true ∧ (fkd (fkd L i).ks k).sz ≤ 60) := Lib.hid (fun k hk => ⟨HKID.out _ _ (fkd_mem hiL) (fkd_mem hk), by have h1 := fszL_mem (fkd_mem hk); have h2 := fsz_eq (fkd L i); have := HSU.out; omega⟩)
      have hkl : (fkd L i).ks.length ≤ 60 := by have h1 := fszL_len (fkd L i).ks; have h2 := fsz_eq (fkd L i); omega
      have HNDi : Hid (∀ k, k < i → eqF (fkd L i) (fkd L k) = false) := Lib.hid (fun k hk => HND.out i k hk hiL)
      clear hat hfm hkid hsu
      generalize fkd L i = u at *
      go_wp2
      go_loopw [8] (fun k wr => ∃ j : Nat, j ≤ i ∧ k = .int .i64 (j : Int) ∧ Hid (Below w12.heap.size w12 wr)) (fun k _ => i - (intOf k).toNat)
      case atStart => exact ⟨0, Nat.zero_le _, rfl, HW⟩
      case round =>
        obtain ⟨k, hk, rfl, HW2⟩ := hrel
        have k0 : (0 : Int) ≤ (k : Int) := by omega
        by_cases hlt2 : k < i
        · have k1 : (k : Int) < (i : Int) := by omega
          have k2 : (k : Int) < (nL : Int) := by omega
          obtain ⟨ea2, ec2, ka2, kc2, hat2, hfm2, _⟩ := HPA.out k (by omega)
          have HAT2 := Lib.hid hat2
          have HC : Hid (∀ wx, Below w12.heap.size w12 wx → Calls Try.prog 26 #[fV u ea ec ka kc, fV (fkd L k) ea2 ec2 ka2 kc2] wx fun e w' => e = .returned (.bool false) ∧ Below w12.heap.size w12 w') := Lib.hid (fun wx hb => by
            have h := H26.out wx u (fkd L k) ea ec ka kc ea2 ec2 ka2 kc2 hb HFM.out hfm2 HSU.out (HLS.out _ (fkd_mem (by rw [← HNL.out]; omega)))
            rw [HNDi.out k hlt2] at h
            exact h)
          have HDR : Hid (Below w12.heap.size w12 wr.drew) := Lib.hid HW2.out.drew
          generalize fkd L k = x1 at *
          clear hat2 hfm2
          go_upto_region 13 with (fail)
          go_region_held3 (fun wx => C6 wx b (f + i * 6) u ea ec ka kc ∧ C6 wx b (f + k * 6) x1 ea2 ec2 ka2 kc2) (first
            | with_reducible exact ⟨HAT.out _ HB2.out, HAT2.out _ HB2.out⟩
            | with_reducible exact ⟨HAT.out _ HDR.out, HAT2.out _ HDR.out⟩
            | with_reducible exact ⟨HAT.out _ HW2.out, HAT2.out _ HW2.out⟩
            | exact ⟨HAT.out _ HDR.out, HAT2.out _ HDR.out⟩
            | exact ⟨HAT.out _ HW2.out, HAT2.out _ HW2.out⟩) ((go_at_call 26; (with_reducible refine (HC.out _ HDR.out).mono ?_); rintro e w2 ⟨rfl, hb2⟩; have HB2 := Lib.hid hb2; clear hb2))
          go_wp2
          go_roundw
          case rel => exact ⟨k + 1, by omega, by go_num, HB2⟩
          case measure => simp [intOf]; try omega
        · have k1 : ¬ (k : Int) < (i : Int) := by omega
          go_wp2
          go_loopw [9] (fun k wr => ∃ j : Nat, j ≤ u.ks.length ∧ k = .int .i64 (j : Int) ∧ Hid (Below w12.heap.size w12 wr)) (fun k _ => u.ks.length - (intOf k).toNat)
          case atStart => exact ⟨0, Nat.zero_le _, rfl, HW2⟩
          case round =>
            obtain ⟨k3, hk3, rfl, HW3⟩ := hrel
            have y5 : wr.cell? ⟨b, f + i * 6 + 5, none⟩ = some (.slice ka u.ks.length kc) := (HAT.out wr HW3.out).2.2.2.2.2
            have m0 : (0 : Int) ≤ (k3 : Int) := by omega
            by_cases hlt3 : k3 < u.ks.length
            · have m1 : (k3 : Int) < (u.ks.length : Int) := by omega
              obtain ⟨b2, f2, rfl, hk2⟩ := HKD.out (by omega)
              obtain ⟨eb, ed, kb, kd2, hat3, hfm3⟩ := hk2 k3 hlt3
              obtain ⟨hm1, hm2⟩ := HKM.out k3 hlt3
              have HAT3 := Lib.hid hat3
              have HFM3 := Lib.hid hfm3
              have HSV := Lib.hid hm2
              generalize fkd u.ks k3 = v at *
              have HV0 : Hid ((false || anL v (L.drop 0)) = true) := Lib.hid (by rw [List.drop_zero, hm1]; rfl)
              clear hat3 hfm3 hm1 hm2 hk2
              go_wp2
              clear y5
              go_loopw [10, 11] (fun x j wr => ∃ (j4 : Nat) (q : Bool), j4 ≤ nL ∧ x = .bool q ∧ j = .int .i64 (j4 : Int) ∧ Hid ((q || anL v (L.drop j4)) = true) ∧ Hid (Below w12.heap.size w12 wr)) (fun _ j _ => nL - (intOf j).toNat)
              case atStart => exact ⟨0, false, Nat.zero_le _, rfl, rfl, HV0, HW3⟩
              case round =>
                obtain ⟨j4, q, hj4, rfl, rfl, HV, HW4⟩ := hrel
                have n0 : (0 : Int) ≤ (j4 : Int) := by omega
                by_cases hlt4 : j4 < nL
                · have n1 : (j4 : Int) < (nL : Int) := by omega
                  cases q
                  · obtain ⟨ea4, ec4, ka4, kc4, hat4, hfm4, _⟩ := HPA.out j4 hlt4
                    have hjL : j4 < L.length := by rw [← HNL.out]; exact hlt4
                    have hst := anL_step (p := v) hjL
                    rw [eqF_symm] at hst
                    have HC : Hid (∀ wx, Below w12.heap.size w12 wx → Calls Try.prog 26 #[fV (fkd L j4) ea4 ec4 ka4 kc4, fV v eb ed kb kd2] wx fun e w' => e = .returned (.bool (eqF (fkd L j4) v)) ∧ Below w12.heap.size w12 w') := Lib.hid (fun wx hb => H26.out wx (fkd L j4) v ea4 ec4 ka4 kc4 eb ed kb kd2 hb hfm4 HFM3.out (HLS.out _ (fkd_mem hjL)) HSV.out)
                    obtain ⟨z, hz⟩ : ∃ z, eqF (fkd L j4) v = z := ⟨_, rfl⟩
                    rw [hz] at HC hst
                    have X : Hid ((z || anL v (L.drop (j4 + 1))) = true) := Lib.hid (by have h := HV.out; rw [hst] at h; simpa using h)
                    have HS4 : Hid (∀ wx, Below w12.heap.size w12 wx → C6 wx b (f + j4 * 6) (fkd L j4) ea4 ec4 ka4 kc4 ∧ wx.cell? ⟨b, f + i * 6 + 5, none⟩ = some (.slice (some ⟨b2, f2, none⟩) u.ks.length kc) ∧ C6 wx b2 (f2 + k3 * 6) v eb ed kb kd2) := Lib.hid (fun wx hb => ⟨hat4 wx hb, (HAT.out wx hb).2.2.2.2.2, HAT3.out wx hb⟩)
                    have HDR : Hid (Below w12.heap.size w12 wr.drew) := Lib.hid HW4.out.drew
                    generalize fkd L j4 = x4 at *
                    clear hat4 hfm4 hst hz hjL
                    go_upto_region 22 with (fail)
                    go_region_held3 (fun wx => C6 wx b (f + j4 * 6) x4 ea4 ec4 ka4 kc4 ∧ wx.cell? ⟨b, f + i * 6 + 5, none⟩ = some (.slice (some ⟨b2, f2, none⟩) u.ks.length kc) ∧ C6 wx b2 (f2 + k3 * 6) v eb ed kb kd2) (first
                      | with_reducible exact HS4.out _ HB2.out
                      | with_reducible exact HS4.out _ HDR.out
                      | with_reducible exact HS4.out _ HW4.out
                      | exact HS4.out _ HDR.out
                      | exact HS4.out _ HW4.out) ((go_at_call 26; (with_reducible refine (HC.out _ HDR.out).mono ?_); rintro e w2 ⟨rfl, hb2⟩; have HB2 := Lib.hid hb2; clear hb2))
                    go_wp2
                    go_roundw
                    case rel => exact ⟨j4 + 1, z, by omega, rfl, by go_num, X, HB2⟩
                    case measure => simp [intOf]; try omega
                  · have X : Hid ((true || anL v (L.drop (j4 + 1))) = true) := Lib.hid rfl
                    go_upto_region 22 with (fail)
                    go_quiet ((fail))
                    go_wp2
                    exact ⟨⟨j4 + 1, true, by omega, rfl, by go_num, X, Lib.hid (below_drewN HW4.out _)⟩, by simp [intOf] <;> omega⟩
                · have n1 : ¬ (j4 : Int) < (nL : Int) := by omega
                  have hq : q = true := by
                    have h := HV.out
                    rw [List.drop_of_length_le (by rw [← HNL.out]; omega)] at h
                    simpa [anL] using h
                  subst hq
                  go_wp2
                  go_roundw
                  case rel => exact ⟨k3 + 1, by omega, by go_num, HW4⟩
                  case measure => simp [intOf]; try omega
            · have m1 : ¬ (k3 : Int) < (u.ks.length : Int) := by omega
              go_wp2
              go_roundw
              case rel => exact ⟨i + 1, by omega, by go_num, HW3⟩
              case measure => simp [intOf]; try omega
    · have i1 : ¬ (i : Int) < (nL : Int) := by omega
      obtain ⟨ea, ec, ka, kc, hat, hfm, _⟩ := HPA.out 0 (by have := HHD.out.1; have := HNL.out; omega)
      rw [HHD.out.2] at hat hfm
      rw [Nat.zero_mul, Nat.add_zero] at hat
      have HS0 : Hid (∀ wx, Below w12.heap.size w12 wx → C6 wx b f t ea ec ka kc ∧ At6 wx G t E dd A c) := Lib.hid (fun wx hb => ⟨hat wx hb, (HSt.out wx hb).1⟩)
      have HC : Hid (∀ wx, Below w12.heap.size w12 wx → Calls Try.prog 26 #[fV t ea ec ka kc, fV t E dd A c] wx fun e w' => e = .returned (.bool true) ∧ Below w12.heap.size w12 w') := Lib.hid (fun wx hb => by
        have h := pr_fSame t.sz t (Nat.le_refl _) (by have := HTS.out; omega) t (by have := HTS.out; omega) ea ec ka kc E dd A c wx (hfm.step hb) (HSt.out wx hb).2
        rw [eqF_refl] at h
        exact h.mono (fun e w' h => ⟨h.1, bt hb h.2⟩))
      have HDR : Hid (Below w12.heap.size w12 wr.drew) := Lib.hid HW.out.drew
      clear hat hfm
      have hd1 : decide ((0 : Int) < (nL : Int)) = true := by simpa using hnp
      have hd2 : 0 < nL := by omega
      go_upto_region 25 with (fail)
      go_region_held3 (fun wx => C6 wx b f t ea ec ka kc ∧ At6 wx G t E dd A c) (first
        | with_reducible exact HS0.out _ HB3.out
        | with_reducible exact HS0.out _ HB2.out
        | with_reducible exact HS0.out _ HDR.out
        | with_reducible exact HS0.out _ HW.out
        | exact HS0.out _ HDR.out
        | exact HS0.out _ HW.out) ((first
        | (go_at_call 8; have _ := HB2; (with_reducible refine (law_lives _).mono ?_); rintro e w3 ⟨rfl, hb3⟩; have HB3 := Lib.hid (bt HB2.out hb3); clear hb3)
        | (go_at_call 26; (with_reducible refine (HC.out _ HDR.out).mono ?_); rintro e w2 ⟨rfl, hb2⟩; have HB2 := Lib.hid hb2; clear hb2)))
      go_wp2
      go_ret
      exact ⟨rfl, bt HBW12.out HB3.out⟩
theorem formsPushed_walk (t : Fx) (E : Option Addr) (dd : Nat) (A : Option Addr) (c : Nat) (nt : Bool) (w : World) (hR : Fm w.heap.size w t E A) (hs : t.sz ≤ 1048576) : Calls Try.prog 6 #[fV t E dd A c, .bool nt] w fun e w' => e = .returned (.bool true) ∧ Below w.heap.size w w' := by
  by_cases h : t.sz ≤ 60 ∧ chkF t = 0
  · exact formsPushed_main t E dd A c nt w hR h.1 h.2
  · exact formsPushed_not t E dd A c nt w hR hs h
end Go.Proofs.Ytnjkphopklbogaa
