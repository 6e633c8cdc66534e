/- The contract of put, of layer 30 (terms). -/
import Derived.Test.YtcdpjodnbegepaaPt3
namespace Go.Proofs.Ytcdpjodnbegepaa
open Go.RowKit

set_option maxRecDepth 100000 in
set_option maxHeartbeats 8000000 in
theorem pr_put (x : Ex) (m : ByteArray) (bl : Nat) (Q : Nat → Prop) (hx : x.sz ≤ 100000000) : ∀ (N : Nat) t, t.sz ≤ N → N ≤ 100000000 → ∀ (A B : Option Addr) (c d : Nat) (k : Int) (w : World), Blk w bl 3 #[.int .i64 k] → RepS Q w A t → RepS Q w B x → (∀ y, Q y → y < w.heap.size ∧ y ≠ bl) →
    Calls Try.prog 54 #[exV t A c, .string m, exV x B d, .pointer (some ⟨bl, 0, none⟩)] w (PutP bl (putE m x t) Q w) := by
  intro N
  induction N with
  | zero => intro t h; have := sz_eq t; omega
  | succ N ih =>
    intro t ht hn A B c d k w hbl hR hRx hQ
    rw [putE_eq]
    by_cases q : (t.op == 3 && (t.nm.toList == m.toList)) = true
    · rw [if_pos q]
      simp only [Bool.and_eq_true, beq_iff_eq] at q
      exact pr_put_name t x m (by simp [q.2]) q.1 bl k Q A B c d w hx hbl hRx hQ
    rw [if_neg q]
    obtain ⟨W, hW⟩ : ∃ W, ((w.alloc (.cells #[.int .i64 t.op, .int .i64 t.vr, .string t.nm, .slice A t.ks.length c] 24)).alloc (.cells #[.int .i64 x.op, .int .i64 x.vr, .string x.nm, .slice B x.ks.length d] 24)).alloc (.cells #[.int .i64 0, .int .i64 0, .string ⟨#[]⟩, .slice none 0 0] 24) = W := ⟨_, rfl⟩
    have hJ := putW bl t x A B c d w
    rw [hW] at hJ
    have hbw : bl < w.heap.size := hbl.lt
    have hlen := szL_len t.ks
    have hszt := sz_eq t
    have hkb : t.ks.length ≤ 1000000000 := by omega
    have hRW := hJ.hb.rep hR hQ
    obtain ⟨ka0, kc0, hKK0, hcl⟩ := clone_tree c hRW (fun y hy => by have := (hQ y hy).1; have := hJ.hz; omega) hkb
    have HKK : Hid (∀ j, j < t.ks.length → RepS Q w (ka0 j) (kd t.ks j)) := Lib.hid (fun j hj => (hKK0 j hj).kept (fun y hy => (hJ.hb.block y (hQ y hy).1 (hQ y hy).2).symm))
    have HIH := Lib.hid (fun t h => ih t h (by omega))
    have HKS := Lib.hid (fun i (hi : i < t.ks.length) => (show (kd t.ks i).sz ≤ N by have := kd_sz hi; omega))
    have HQ := Lib.hid hQ
    have HRX := Lib.hid hRx
    have HBW := Lib.hid hbw
    have HBL : Hid (Blk W bl 3 #[.int .i64 k]) := Lib.hid (by
      have hal : Below w.heap.size w W := by rw [← hW]; exact al (al (al (Below.refl _ _) _) _) _
      exact hbl.below hal hbw)
    obtain ⟨n, hnn⟩ : ∃ n, t.ks.length = n := ⟨_, rfl⟩
    have HM := Lib.hid hnn.symm
    have HJ := Lib.hid hJ
    have p0 : W.cell? ⟨w.heap.size, 0, none⟩ = some (.int .i64 t.op) := hJ.b0.cell 0
    have p1 : W.cell? ⟨w.heap.size, 1, none⟩ = some (.int .i64 t.vr) := hJ.b0.cell 1
    have p2 : W.cell? ⟨w.heap.size, 2, none⟩ = some (.string t.nm) := hJ.b0.cell 2
    have p3 : W.cell? ⟨w.heap.size, 3, none⟩ = some (.slice A t.ks.length c) := hJ.b0.cell 3
    have pl := hJ.b0.lt
    rw [hnn] at hcl p3 hW
    have HCL := Lib.hid hcl
    have HWW := Lib.hid hW
    show Calls Try.prog 54 #[.agg #[.int .i64 t.op, .int .i64 t.vr, .string t.nm, .slice A t.ks.length c], .string m, .agg #[.int .i64 x.op, .int .i64 x.vr, .string x.nm, .slice B x.ks.length d], .pointer (some ⟨bl, 0, none⟩)] w _
    rw [hnn]
    have hnb : n ≤ 1000000000 := by omega
    clear ih ht hn hbl hR hRx hQ hJ hbw hlen hszt hkb hRW hKK0 hcl hW hnn hx
    by_cases g3 : t.op = 3
    · have g3b : (t.op == 3) = true := by simp [g3]
      have gq : (t.nm.toList == m.toList) = false := by
        cases e : (t.nm.toList == m.toList) with
        | false => rfl
        | true => rw [g3b, e] at q; exact absurd rfl q
      clear g3 q

      go_enter Try.func54, Try.ntmps54
      go_upto_region 1 with (go_at_call 999)
      rw [HWW.out]
      go_upto_region 5 with (go_at_call 79; (with_reducible refine HCL.out.mono ?_); rintro e w2 ⟨A2, c2, rfl, hb2, hg2⟩; have hJ2 := HJ.out.below hb2; have s3 : w2.cell? ⟨w.heap.size, 3, none⟩ = some (.slice A n c) := (by rw [HM.out]; exact hJ2.b0.cell 3); have f3 := hJ2.b0.frozen 3; have sl := hJ2.b0.lt; have HJ2 := Lib.hid hJ2; have HB2 := Lib.hid hb2; have HG2 := Lib.hid hg2; clear hb2 hg2 hJ2)
      obtain ⟨w3, hw3⟩ : ∃ w3, w2.setCell ⟨w.heap.size, 3, none⟩ (.slice A2 n c2) = w3 := ⟨_, rfl⟩
      rw [hw3]
      have hP0 : Hid (PutS m x Q bl t ka0 kc0 A2 c2 B d n w 0 w3 k) := Lib.hid (PutS.start HJ2.out HB2.out HJ.out.hz HKK.out HG2.out HBW.out (HBL.out.below HB2.out (by have := HBW.out; have := HJ.out.hz; omega)) HM.out hw3)
      clear hw3 s3 f3 sl p0 p1 p2 p3 pl HJ HJ2 HB2 HG2 HCL HWW
      obtain ⟨s0, s1, s2, s3, sl⟩ := hP0.out.box
      go_wp2
      go_loopw [30] (fun i wr => ∃ (j : Nat) (kk : Int), j ≤ n ∧ i = .int .i64 (j : Int) ∧ Hid (PutS m x Q bl t ka0 kc0 A2 c2 B d n w j wr kk)) (fun i _ => n - (intOf i).toNat)
      case atStart => exact ⟨0, k, Nat.zero_le _, rfl, hP0⟩
      case round =>
        obtain ⟨i, kk, hi, rfl, HP⟩ := hrel
        clear s0 s1 s2 s3 sl
        by_cases hlt : i < n
        · have l1 : (i : Int) < (n : Int) := by omega
          have l0 : (0 : Int) ≤ (i : Int) := by omega
          obtain ⟨g, rfl, hg0, hgl, d0, d1, d2, d3, _⟩ := HP.out.at hlt
          have hi2 : i < t.ks.length := by rw [← HM.out]; exact hlt
          have HC : Hid (∀ wx, Below wr.heap.size wr wx → Calls Try.prog 54 #[exV (kd t.ks i) (ka0 i) (kc0 i), .string m, exV x B d, .pointer (some ⟨bl, 0, none⟩)] wx (PutP bl (putE m x (kd t.ks i)) Q wx)) := Lib.hid (fun wx hx => by
            have hP := HP.out.below hx
            exact HIH.out (kd t.ks i) (HKS.out i hi2) (ka0 i) B (kc0 i) d kk wx hP.bb (hP.lf.rep (HKK.out i hi2) HQ.out) (hP.lf.rep HRX.out HQ.out) (fun y hy => by have := HQ.out y hy; have := hP.lf.size; omega))
          obtain ⟨u, hu⟩ : ∃ u, kd t.ks i = u := ⟨_, rfl⟩
          obtain ⟨v, hv⟩ : ∃ v, putE m x u = v := ⟨_, rfl⟩
          have HU := Lib.hid hu
          have HV := Lib.hid hv
          rw [hu, hv] at HC
          rw [hu] at d0 d1 d2 d3
          have HKA : Hid (∀ wx, Below wr.heap.size wr wx → (wx.cell? ⟨w.heap.size, 3, none⟩ = some (.slice (some ⟨g, 0, none⟩) n c2) ∧ wx.cell? ⟨w.heap.size + 1, 0, none⟩ = some (.int .i64 x.op) ∧ wx.cell? ⟨w.heap.size + 1, 1, none⟩ = some (.int .i64 x.vr) ∧ wx.cell? ⟨w.heap.size + 1, 2, none⟩ = some (.string x.nm) ∧ wx.cell? ⟨w.heap.size + 1, 3, none⟩ = some (.slice B x.ks.length d))) := Lib.hid (fun wx hx => by
            have hP := HP.out.below hx
            exact ⟨hP.b0.cell 3, hP.b1.cell 0, hP.b1.cell 1, hP.b1.cell 2, hP.b1.cell 3⟩)
          obtain ⟨wk, hwk⟩ : ∃ wk, wr.alloc (.cells #[.int .i64 u.op, .int .i64 u.vr, .string u.nm, .slice (ka0 i) u.ks.length (kc0 i)] 24) = wk := ⟨_, rfl⟩
          have hbk : Below wr.heap.size wr wk := by rw [← hwk]; exact al (Below.refl _ _) _
          have hkv : Blk wk wr.heap.size 24 #[.int .i64 u.op, .int .i64 u.vr, .string u.nm, .slice (ka0 i) u.ks.length (kc0 i)] := by rw [← hwk]; exact Blk.new wr 24 _
          have HBK := Lib.hid hbk
          have HKV := Lib.hid hkv
          have HWK := Lib.hid hwk
          have HPA : Hid (∀ wx, Below wk.heap.size wk wx → (wx.cell? ⟨w.heap.size, 3, none⟩ = some (.slice (some ⟨g, 0, none⟩) n c2) ∧ wx.cell? ⟨w.heap.size + 1, 0, none⟩ = some (.int .i64 x.op) ∧ wx.cell? ⟨w.heap.size + 1, 1, none⟩ = some (.int .i64 x.vr) ∧ wx.cell? ⟨w.heap.size + 1, 2, none⟩ = some (.string x.nm) ∧ wx.cell? ⟨w.heap.size + 1, 3, none⟩ = some (.slice B x.ks.length d)) ∧ wx.cell? ⟨wr.heap.size, 0, none⟩ = some (.int .i64 u.op) ∧ wx.cell? ⟨wr.heap.size, 1, none⟩ = some (.int .i64 u.vr) ∧ wx.cell? ⟨wr.heap.size, 2, none⟩ = some (.string u.nm) ∧ wx.cell? ⟨wr.heap.size, 3, none⟩ = some (.slice (ka0 i) u.ks.length (kc0 i))) := Lib.hid (fun wx hx => by
            have hk2 := HKV.out.below hx HKV.out.lt
            exact ⟨HKA.out wx (bt HBK.out hx), hk2.cell 0, hk2.cell 1, hk2.cell 2, hk2.cell 3⟩)
          have HDR : Hid (Below wk.heap.size wk wk.drew) := Lib.hid ((Below.refl _ _).drew)
          have HBD : Hid (Below wr.heap.size wr wk.drew) := Lib.hid (bt HBK.out HDR.out)
          have HPL : Hid (∀ w4, Lf bl wk.drew w4 → ((w4.cell? ⟨w.heap.size, 3, none⟩ = some (.slice (some ⟨g, 0, none⟩) n c2) ∧ w4.cell? ⟨w.heap.size + 1, 0, none⟩ = some (.int .i64 x.op) ∧ w4.cell? ⟨w.heap.size + 1, 1, none⟩ = some (.int .i64 x.vr) ∧ w4.cell? ⟨w.heap.size + 1, 2, none⟩ = some (.string x.nm) ∧ w4.cell? ⟨w.heap.size + 1, 3, none⟩ = some (.slice B x.ks.length d)) ∧ w4.cell? ⟨wr.heap.size, 0, none⟩ = some (.int .i64 u.op) ∧ w4.cell? ⟨wr.heap.size, 1, none⟩ = some (.int .i64 u.vr) ∧ w4.cell? ⟨wr.heap.size, 2, none⟩ = some (.string u.nm) ∧ w4.cell? ⟨wr.heap.size, 3, none⟩ = some (.slice (ka0 i) u.ks.length (kc0 i)))) := Lib.hid (fun w4 hl => by
            have hP := HP.out.below HBD.out
            have hz := hP.hz
            have hbl := hP.hbl
            have hk2 := hl.blk (HKV.out.below HDR.out HKV.out.lt) (by have := HP.out.hz; omega)
            have q0 := hl.blk hP.b0 (by omega)
            have q1 := hl.blk hP.b1 (by omega)
            exact ⟨⟨q0.cell 3, q1.cell 0, q1.cell 1, q1.cell 2, q1.cell 3⟩, hk2.cell 0, hk2.cell 1, hk2.cell 2, hk2.cell 3⟩)
          have HPT : Hid (∀ w4 a b1 c1 d1, Lf bl wk.drew w4 → (((S4 w4 g (i * 4) a b1 c1 d1).cell? ⟨w.heap.size, 3, none⟩ = some (.slice (some ⟨g, 0, none⟩) n c2) ∧ (S4 w4 g (i * 4) a b1 c1 d1).cell? ⟨w.heap.size + 1, 0, none⟩ = some (.int .i64 x.op) ∧ (S4 w4 g (i * 4) a b1 c1 d1).cell? ⟨w.heap.size + 1, 1, none⟩ = some (.int .i64 x.vr) ∧ (S4 w4 g (i * 4) a b1 c1 d1).cell? ⟨w.heap.size + 1, 2, none⟩ = some (.string x.nm) ∧ (S4 w4 g (i * 4) a b1 c1 d1).cell? ⟨w.heap.size + 1, 3, none⟩ = some (.slice B x.ks.length d)) ∧ (S4 w4 g (i * 4) a b1 c1 d1).cell? ⟨wr.heap.size, 0, none⟩ = some (.int .i64 u.op) ∧ (S4 w4 g (i * 4) a b1 c1 d1).cell? ⟨wr.heap.size, 1, none⟩ = some (.int .i64 u.vr) ∧ (S4 w4 g (i * 4) a b1 c1 d1).cell? ⟨wr.heap.size, 2, none⟩ = some (.string u.nm) ∧ (S4 w4 g (i * 4) a b1 c1 d1).cell? ⟨wr.heap.size, 3, none⟩ = some (.slice (ka0 i) u.ks.length (kc0 i)))) := Lib.hid (fun w4 a b1 c1 d1 hl => by
            have hP := HP.out.below HBD.out
            have hz := hP.hz
            have hbl := hP.hbl
            have hk2 := hl.blk (HKV.out.below HDR.out HKV.out.lt) (by have := HP.out.hz; omega)
            have q0 := hl.blk hP.b0 (by omega)
            have q1 := hl.blk hP.b1 (by omega)
            have r2 : Blk (S4 w4 g (i * 4) a b1 c1 d1) _ _ _ := (set4_blk w4 a b1 c1 d1 (by omega)).trans hk2
            have r0 : Blk (S4 w4 g (i * 4) a b1 c1 d1) _ _ _ := (set4_blk w4 a b1 c1 d1 (by omega)).trans q0
            have r1 : Blk (S4 w4 g (i * 4) a b1 c1 d1) _ _ _ := (set4_blk w4 a b1 c1 d1 (by omega)).trans q1
            exact ⟨⟨r0.cell 3, r1.cell 0, r1.cell 1, r1.cell 2, r1.cell 3⟩, r2.cell 0, r2.cell 1, r2.cell 2, r2.cell 3⟩)
          have HPS : Hid (∀ w4 k4, Lf bl wk.drew w4 → Blk w4 bl 3 #[.int .i64 k4] → w4.cell? ⟨g, i * 4, none⟩ = some (.int .i64 u.op) ∧ w4.cell? ⟨g, i * 4 + 1, none⟩ = some (.int .i64 u.vr) ∧ w4.cell? ⟨g, i * 4 + 2, none⟩ = some (.string u.nm) ∧ w4.cell? ⟨g, i * 4 + 3, none⟩ = some (.slice (ka0 i) u.ks.length (kc0 i)) ∧ (w4.frozen? ⟨g, i * 4, none⟩ = false ∧ w4.frozen? ⟨g, i * 4 + 1, none⟩ = false ∧ w4.frozen? ⟨g, i * 4 + 2, none⟩ = false ∧ w4.frozen? ⟨g, i * 4 + 3, none⟩ = false) ∧ g < w4.heap.size) := Lib.hid (fun w4 k4 hl hb => by
            obtain ⟨g', e, _, h2, c0, c1, c2', c3, fr⟩ := ((HP.out.below HBD.out).lfs hl hb).at hlt
            have e2 : g = g' := by simpa using e
            subst e2
            rw [HU.out] at c0 c1 c2' c3
            exact ⟨c0, c1, c2', c3, ⟨fr 0, fr 1, fr 2, fr 3⟩, h2⟩)
          have HST : Hid (∀ w4 A4 c4 k4, Lf bl wk.drew w4 → Blk w4 bl 3 #[.int .i64 k4] → RepS (fun y => (Q y ∨ wk.drew.heap.size ≤ y) ∧ y < w4.heap.size ∧ y ≠ bl) w4 A4 v → PutS m x Q bl t ka0 kc0 (some ⟨g, 0, none⟩) c2 B d n w (i + 1) (S4 w4 g (i * 4) (.int .i64 v.op) (.int .i64 v.vr) (.string v.nm) (.slice A4 v.ks.length c4)) k4) := Lib.hid (fun w4 A4 c4 k4 hl hb hr => by
            have hst := HP.out.step hlt (A' := A4) (c' := c4) wk.drew (Lf.below HBD.out) hl hb (by rw [HU.out, HV.out]; exact hr) HQ.out g rfl
            rw [HU.out, HV.out] at hst
            exact hst)
          clear hu hv hwk hbk hkv
          go_upto_region 8 with (fail)
          rw [HWK.out]
          go_region_held3 (fun wx => (wx.cell? ⟨w.heap.size, 3, none⟩ = some (.slice (some ⟨g, 0, none⟩) n c2) ∧ wx.cell? ⟨w.heap.size + 1, 0, none⟩ = some (.int .i64 x.op) ∧ wx.cell? ⟨w.heap.size + 1, 1, none⟩ = some (.int .i64 x.vr) ∧ wx.cell? ⟨w.heap.size + 1, 2, none⟩ = some (.string x.nm) ∧ wx.cell? ⟨w.heap.size + 1, 3, none⟩ = some (.slice B x.ks.length d)) ∧ wx.cell? ⟨wr.heap.size, 0, none⟩ = some (.int .i64 u.op) ∧ wx.cell? ⟨wr.heap.size, 1, none⟩ = some (.int .i64 u.vr) ∧ wx.cell? ⟨wr.heap.size, 2, none⟩ = some (.string u.nm) ∧ wx.cell? ⟨wr.heap.size, 3, none⟩ = some (.slice (ka0 i) u.ks.length (kc0 i))) (first | with_reducible exact HK4.out | with_reducible exact HK5.out | exact HPA.out _ HDR.out | exact HPA.out _ (Below.refl _ _)) ((go_at_call 54; (with_reducible refine (HC.out _ HBD.out).mono ?_); rintro e w4 hpp; obtain ⟨A4, c4, k4, rfl, hB4, hR4, hL4⟩ := hpp; have HK4 := Lib.hid (HPL.out w4 hL4); have HK5 := Lib.hid (HPT.out w4 (.int .i64 v.op) (.int .i64 v.vr) (.string v.nm) (.slice A4 v.ks.length c4) hL4); obtain ⟨y0, y1, y2, y3, ⟨z0, z1, z2, z3⟩, zl⟩ := HPS.out w4 k4 hL4 hB4; have HS4 := Lib.hid (HST.out w4 A4 c4 k4 hL4 hB4 hR4); clear hB4 hR4 hL4))
          all_goals go_wp2
          go_roundw
          case rel => exact ⟨i + 1, k4, by omega, by go_num, HS4⟩
          case measure => simp [intOf]; try omega
        · have l1 : ¬ (i : Int) < (n : Int) := by omega
          obtain rfl : i = n := by omega
          obtain ⟨s0, s1, s2, s3, sl⟩ := HP.out.box
          have v0 := HP.out.b2.cell 0
          have v1 := HP.out.b2.cell 1
          have v2 := HP.out.b2.cell 2
          have v3 := HP.out.b2.cell 3
          have u0 := HP.out.b2.frozen 0
          have u1 := HP.out.b2.frozen 1
          have u2 := HP.out.b2.frozen 2
          have u3 := HP.out.b2.frozen 3
          have ul := HP.out.b2.lt
          go_wp2
          have hll : (putL m x t.ks).length = i := by rw [putL_len]; exact HM.out.symm
          have hz := HP.out.hz
          have hbl := HP.out.hbl
          refine bodyPost_ret (res_ex rfl _ _ (w.heap.size + 1 + 1) _ _ _ _ rfl ((((HP.out.b2.set_ 0 _).set_ 1 _).set_ 2 _).set_ 3 _)) rfl ⟨A2, c2, kk, ?_, (set4_blk _ _ _ _ _ (by omega)).trans HP.out.bb, (HP.out.done.kept (fun y hy => set4_blk _ _ _ _ _ hy.2.2.2)).mono (fun y hy => ⟨hy.1, by rw [set4_size]; exact hy.2.1, hy.2.2.1⟩), (((HP.out.lf.set (by omega) 0 _).set (by omega) 1 _).set (by omega) 2 _).set (by omega) 3 _⟩
          show _ = Ending.returned (.agg #[.int .i64 t.op, .int .i64 t.vr, .string t.nm, .slice A2 (putL m x t.ks).length c2])
          rw [hll]
    · have g3b : (t.op == 3) = false := by simp [g3]
      clear g3 q
      go_enter Try.func54, Try.ntmps54
      go_upto_region 1 with (go_at_call 999)
      rw [HWW.out]
      go_upto_region 5 with (go_at_call 79; (with_reducible refine HCL.out.mono ?_); rintro e w2 ⟨A2, c2, rfl, hb2, hg2⟩; have hJ2 := HJ.out.below hb2; have s3 : w2.cell? ⟨w.heap.size, 3, none⟩ = some (.slice A n c) := (by rw [HM.out]; exact hJ2.b0.cell 3); have f3 := hJ2.b0.frozen 3; have sl := hJ2.b0.lt; have HJ2 := Lib.hid hJ2; have HB2 := Lib.hid hb2; have HG2 := Lib.hid hg2; clear hb2 hg2 hJ2)
      obtain ⟨w3, hw3⟩ : ∃ w3, w2.setCell ⟨w.heap.size, 3, none⟩ (.slice A2 n c2) = w3 := ⟨_, rfl⟩
      rw [hw3]
      have hP0 : Hid (PutS m x Q bl t ka0 kc0 A2 c2 B d n w 0 w3 k) := Lib.hid (PutS.start HJ2.out HB2.out HJ.out.hz HKK.out HG2.out HBW.out (HBL.out.below HB2.out (by have := HBW.out; have := HJ.out.hz; omega)) HM.out hw3)
      clear hw3 s3 f3 sl p0 p1 p2 p3 pl HJ HJ2 HB2 HG2 HCL HWW
      obtain ⟨s0, s1, s2, s3, sl⟩ := hP0.out.box
      go_wp2
      go_loopw [30] (fun i wr => ∃ (j : Nat) (kk : Int), j ≤ n ∧ i = .int .i64 (j : Int) ∧ Hid (PutS m x Q bl t ka0 kc0 A2 c2 B d n w j wr kk)) (fun i _ => n - (intOf i).toNat)
      case atStart => exact ⟨0, k, Nat.zero_le _, rfl, hP0⟩
      case round =>
        obtain ⟨i, kk, hi, rfl, HP⟩ := hrel
        clear s0 s1 s2 s3 sl
        by_cases hlt : i < n
        · have l1 : (i : Int) < (n : Int) := by omega
          have l0 : (0 : Int) ≤ (i : Int) := by omega
          obtain ⟨g, rfl, hg0, hgl, d0, d1, d2, d3, _⟩ := HP.out.at hlt
          have hi2 : i < t.ks.length := by rw [← HM.out]; exact hlt
          have HC : Hid (∀ wx, Below wr.heap.size wr wx → Calls Try.prog 54 #[exV (kd t.ks i) (ka0 i) (kc0 i), .string m, exV x B d, .pointer (some ⟨bl, 0, none⟩)] wx (PutP bl (putE m x (kd t.ks i)) Q wx)) := Lib.hid (fun wx hx => by
            have hP := HP.out.below hx
            exact HIH.out (kd t.ks i) (HKS.out i hi2) (ka0 i) B (kc0 i) d kk wx hP.bb (hP.lf.rep (HKK.out i hi2) HQ.out) (hP.lf.rep HRX.out HQ.out) (fun y hy => by have := HQ.out y hy; have := hP.lf.size; omega))
          obtain ⟨u, hu⟩ : ∃ u, kd t.ks i = u := ⟨_, rfl⟩
          obtain ⟨v, hv⟩ : ∃ v, putE m x u = v := ⟨_, rfl⟩
          have HU := Lib.hid hu
          have HV := Lib.hid hv
          rw [hu, hv] at HC
          rw [hu] at d0 d1 d2 d3
          have HKA : Hid (∀ wx, Below wr.heap.size wr wx → (wx.cell? ⟨w.heap.size, 3, none⟩ = some (.slice (some ⟨g, 0, none⟩) n c2) ∧ wx.cell? ⟨w.heap.size + 1, 0, none⟩ = some (.int .i64 x.op) ∧ wx.cell? ⟨w.heap.size + 1, 1, none⟩ = some (.int .i64 x.vr) ∧ wx.cell? ⟨w.heap.size + 1, 2, none⟩ = some (.string x.nm) ∧ wx.cell? ⟨w.heap.size + 1, 3, none⟩ = some (.slice B x.ks.length d))) := Lib.hid (fun wx hx => by
            have hP := HP.out.below hx
            exact ⟨hP.b0.cell 3, hP.b1.cell 0, hP.b1.cell 1, hP.b1.cell 2, hP.b1.cell 3⟩)
          obtain ⟨wk, hwk⟩ : ∃ wk, wr.alloc (.cells #[.int .i64 u.op, .int .i64 u.vr, .string u.nm, .slice (ka0 i) u.ks.length (kc0 i)] 24) = wk := ⟨_, rfl⟩
          have hbk : Below wr.heap.size wr wk := by rw [← hwk]; exact al (Below.refl _ _) _
          have hkv : Blk wk wr.heap.size 24 #[.int .i64 u.op, .int .i64 u.vr, .string u.nm, .slice (ka0 i) u.ks.length (kc0 i)] := by rw [← hwk]; exact Blk.new wr 24 _
          have HBK := Lib.hid hbk
          have HKV := Lib.hid hkv
          have HWK := Lib.hid hwk
          have HPA : Hid (∀ wx, Below wk.heap.size wk wx → (wx.cell? ⟨w.heap.size, 3, none⟩ = some (.slice (some ⟨g, 0, none⟩) n c2) ∧ wx.cell? ⟨w.heap.size + 1, 0, none⟩ = some (.int .i64 x.op) ∧ wx.cell? ⟨w.heap.size + 1, 1, none⟩ = some (.int .i64 x.vr) ∧ wx.cell? ⟨w.heap.size + 1, 2, none⟩ = some (.string x.nm) ∧ wx.cell? ⟨w.heap.size + 1, 3, none⟩ = some (.slice B x.ks.length d)) ∧ wx.cell? ⟨wr.heap.size, 0, none⟩ = some (.int .i64 u.op) ∧ wx.cell? ⟨wr.heap.size, 1, none⟩ = some (.int .i64 u.vr) ∧ wx.cell? ⟨wr.heap.size, 2, none⟩ = some (.string u.nm) ∧ wx.cell? ⟨wr.heap.size, 3, none⟩ = some (.slice (ka0 i) u.ks.length (kc0 i))) := Lib.hid (fun wx hx => by
            have hk2 := HKV.out.below hx HKV.out.lt
            exact ⟨HKA.out wx (bt HBK.out hx), hk2.cell 0, hk2.cell 1, hk2.cell 2, hk2.cell 3⟩)
          have HDR : Hid (Below wk.heap.size wk wk.drew) := Lib.hid ((Below.refl _ _).drew)
          have HBD : Hid (Below wr.heap.size wr wk.drew) := Lib.hid (bt HBK.out HDR.out)
          have HPL : Hid (∀ w4, Lf bl wk.drew w4 → ((w4.cell? ⟨w.heap.size, 3, none⟩ = some (.slice (some ⟨g, 0, none⟩) n c2) ∧ w4.cell? ⟨w.heap.size + 1, 0, none⟩ = some (.int .i64 x.op) ∧ w4.cell? ⟨w.heap.size + 1, 1, none⟩ = some (.int .i64 x.vr) ∧ w4.cell? ⟨w.heap.size + 1, 2, none⟩ = some (.string x.nm) ∧ w4.cell? ⟨w.heap.size + 1, 3, none⟩ = some (.slice B x.ks.length d)) ∧ w4.cell? ⟨wr.heap.size, 0, none⟩ = some (.int .i64 u.op) ∧ w4.cell? ⟨wr.heap.size, 1, none⟩ = some (.int .i64 u.vr) ∧ w4.cell? ⟨wr.heap.size, 2, none⟩ = some (.string u.nm) ∧ w4.cell? ⟨wr.heap.size, 3, none⟩ = some (.slice (ka0 i) u.ks.length (kc0 i)))) := Lib.hid (fun w4 hl => by
            have hP := HP.out.below HBD.out
            have hz := hP.hz
            have hbl := hP.hbl
            have hk2 := hl.blk (HKV.out.below HDR.out HKV.out.lt) (by have := HP.out.hz; omega)
            have q0 := hl.blk hP.b0 (by omega)
            have q1 := hl.blk hP.b1 (by omega)
            exact ⟨⟨q0.cell 3, q1.cell 0, q1.cell 1, q1.cell 2, q1.cell 3⟩, hk2.cell 0, hk2.cell 1, hk2.cell 2, hk2.cell 3⟩)
          have HPT : Hid (∀ w4 a b1 c1 d1, Lf bl wk.drew w4 → (((S4 w4 g (i * 4) a b1 c1 d1).cell? ⟨w.heap.size, 3, none⟩ = some (.slice (some ⟨g, 0, none⟩) n c2) ∧ (S4 w4 g (i * 4) a b1 c1 d1).cell? ⟨w.heap.size + 1, 0, none⟩ = some (.int .i64 x.op) ∧ (S4 w4 g (i * 4) a b1 c1 d1).cell? ⟨w.heap.size + 1, 1, none⟩ = some (.int .i64 x.vr) ∧ (S4 w4 g (i * 4) a b1 c1 d1).cell? ⟨w.heap.size + 1, 2, none⟩ = some (.string x.nm) ∧ (S4 w4 g (i * 4) a b1 c1 d1).cell? ⟨w.heap.size + 1, 3, none⟩ = some (.slice B x.ks.length d)) ∧ (S4 w4 g (i * 4) a b1 c1 d1).cell? ⟨wr.heap.size, 0, none⟩ = some (.int .i64 u.op) ∧ (S4 w4 g (i * 4) a b1 c1 d1).cell? ⟨wr.heap.size, 1, none⟩ = some (.int .i64 u.vr) ∧ (S4 w4 g (i * 4) a b1 c1 d1).cell? ⟨wr.heap.size, 2, none⟩ = some (.string u.nm) ∧ (S4 w4 g (i * 4) a b1 c1 d1).cell? ⟨wr.heap.size, 3, none⟩ = some (.slice (ka0 i) u.ks.length (kc0 i)))) := Lib.hid (fun w4 a b1 c1 d1 hl => by
            have hP := HP.out.below HBD.out
            have hz := hP.hz
            have hbl := hP.hbl
            have hk2 := hl.blk (HKV.out.below HDR.out HKV.out.lt) (by have := HP.out.hz; omega)
            have q0 := hl.blk hP.b0 (by omega)
            have q1 := hl.blk hP.b1 (by omega)
            have r2 : Blk (S4 w4 g (i * 4) a b1 c1 d1) _ _ _ := (set4_blk w4 a b1 c1 d1 (by omega)).trans hk2
            have r0 : Blk (S4 w4 g (i * 4) a b1 c1 d1) _ _ _ := (set4_blk w4 a b1 c1 d1 (by omega)).trans q0
            have r1 : Blk (S4 w4 g (i * 4) a b1 c1 d1) _ _ _ := (set4_blk w4 a b1 c1 d1 (by omega)).trans q1
            exact ⟨⟨r0.cell 3, r1.cell 0, r1.cell 1, r1.cell 2, r1.cell 3⟩, r2.cell 0, r2.cell 1, r2.cell 2, r2.cell 3⟩)
          have HPS : Hid (∀ w4 k4, Lf bl wk.drew w4 → Blk w4 bl 3 #[.int .i64 k4] → w4.cell? ⟨g, i * 4, none⟩ = some (.int .i64 u.op) ∧ w4.cell? ⟨g, i * 4 + 1, none⟩ = some (.int .i64 u.vr) ∧ w4.cell? ⟨g, i * 4 + 2, none⟩ = some (.string u.nm) ∧ w4.cell? ⟨g, i * 4 + 3, none⟩ = some (.slice (ka0 i) u.ks.length (kc0 i)) ∧ (w4.frozen? ⟨g, i * 4, none⟩ = false ∧ w4.frozen? ⟨g, i * 4 + 1, none⟩ = false ∧ w4.frozen? ⟨g, i * 4 + 2, none⟩ = false ∧ w4.frozen? ⟨g, i * 4 + 3, none⟩ = false) ∧ g < w4.heap.size) := Lib.hid (fun w4 k4 hl hb => by
            obtain ⟨g', e, _, h2, c0, c1, c2', c3, fr⟩ := ((HP.out.below HBD.out).lfs hl hb).at hlt
            have e2 : g = g' := by simpa using e
            subst e2
            rw [HU.out] at c0 c1 c2' c3
            exact ⟨c0, c1, c2', c3, ⟨fr 0, fr 1, fr 2, fr 3⟩, h2⟩)
          have HST : Hid (∀ w4 A4 c4 k4, Lf bl wk.drew w4 → Blk w4 bl 3 #[.int .i64 k4] → RepS (fun y => (Q y ∨ wk.drew.heap.size ≤ y) ∧ y < w4.heap.size ∧ y ≠ bl) w4 A4 v → PutS m x Q bl t ka0 kc0 (some ⟨g, 0, none⟩) c2 B d n w (i + 1) (S4 w4 g (i * 4) (.int .i64 v.op) (.int .i64 v.vr) (.string v.nm) (.slice A4 v.ks.length c4)) k4) := Lib.hid (fun w4 A4 c4 k4 hl hb hr => by
            have hst := HP.out.step hlt (A' := A4) (c' := c4) wk.drew (Lf.below HBD.out) hl hb (by rw [HU.out, HV.out]; exact hr) HQ.out g rfl
            rw [HU.out, HV.out] at hst
            exact hst)
          clear hu hv hwk hbk hkv
          go_upto_region 8 with (fail)
          rw [HWK.out]
          go_region_held3 (fun wx => (wx.cell? ⟨w.heap.size, 3, none⟩ = some (.slice (some ⟨g, 0, none⟩) n c2) ∧ wx.cell? ⟨w.heap.size + 1, 0, none⟩ = some (.int .i64 x.op) ∧ wx.cell? ⟨w.heap.size + 1, 1, none⟩ = some (.int .i64 x.vr) ∧ wx.cell? ⟨w.heap.size + 1, 2, none⟩ = some (.string x.nm) ∧ wx.cell? ⟨w.heap.size + 1, 3, none⟩ = some (.slice B x.ks.length d)) ∧ wx.cell? ⟨wr.heap.size, 0, none⟩ = some (.int .i64 u.op) ∧ wx.cell? ⟨wr.heap.size, 1, none⟩ = some (.int .i64 u.vr) ∧ wx.cell? ⟨wr.heap.size, 2, none⟩ = some (.string u.nm) ∧ wx.cell? ⟨wr.heap.size, 3, none⟩ = some (.slice (ka0 i) u.ks.length (kc0 i))) (first | with_reducible exact HK4.out | with_reducible exact HK5.out | exact HPA.out _ HDR.out | exact HPA.out _ (Below.refl _ _)) ((go_at_call 54; (with_reducible refine (HC.out _ HBD.out).mono ?_); rintro e w4 hpp; obtain ⟨A4, c4, k4, rfl, hB4, hR4, hL4⟩ := hpp; have HK4 := Lib.hid (HPL.out w4 hL4); have HK5 := Lib.hid (HPT.out w4 (.int .i64 v.op) (.int .i64 v.vr) (.string v.nm) (.slice A4 v.ks.length c4) hL4); obtain ⟨y0, y1, y2, y3, ⟨z0, z1, z2, z3⟩, zl⟩ := HPS.out w4 k4 hL4 hB4; have HS4 := Lib.hid (HST.out w4 A4 c4 k4 hL4 hB4 hR4); clear hB4 hR4 hL4))
          all_goals go_wp2
          go_roundw
          case rel => exact ⟨i + 1, k4, by omega, by go_num, HS4⟩
          case measure => simp [intOf]; try omega
        · have l1 : ¬ (i : Int) < (n : Int) := by omega
          obtain rfl : i = n := by omega
          obtain ⟨s0, s1, s2, s3, sl⟩ := HP.out.box
          have v0 := HP.out.b2.cell 0
          have v1 := HP.out.b2.cell 1
          have v2 := HP.out.b2.cell 2
          have v3 := HP.out.b2.cell 3
          have u0 := HP.out.b2.frozen 0
          have u1 := HP.out.b2.frozen 1
          have u2 := HP.out.b2.frozen 2
          have u3 := HP.out.b2.frozen 3
          have ul := HP.out.b2.lt
          go_wp2
          have hll : (putL m x t.ks).length = i := by rw [putL_len]; exact HM.out.symm
          have hz := HP.out.hz
          have hbl := HP.out.hbl
          refine bodyPost_ret (res_ex rfl _ _ (w.heap.size + 1 + 1) _ _ _ _ rfl ((((HP.out.b2.set_ 0 _).set_ 1 _).set_ 2 _).set_ 3 _)) rfl ⟨A2, c2, kk, ?_, (set4_blk _ _ _ _ _ (by omega)).trans HP.out.bb, (HP.out.done.kept (fun y hy => set4_blk _ _ _ _ _ hy.2.2.2)).mono (fun y hy => ⟨hy.1, by rw [set4_size]; exact hy.2.1, hy.2.2.1⟩), (((HP.out.lf.set (by omega) 0 _).set (by omega) 1 _).set (by omega) 2 _).set (by omega) 3 _⟩
          show _ = Ending.returned (.agg #[.int .i64 t.op, .int .i64 t.vr, .string t.nm, .slice A2 (putL m x t.ks).length c2])
          rw [hll]
end Go.Proofs.Ytcdpjodnbegepaa
