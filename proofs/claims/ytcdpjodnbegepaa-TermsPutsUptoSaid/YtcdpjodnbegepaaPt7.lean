/- The contract of the specification's Put, of layer 30 (terms). -/
import Derived.Test.YtcdpjodnbegepaaPt6
namespace Go.Proofs.Ytcdpjodnbegepaa
open Go.RowKit

theorem RepS.row {P : Nat → Prop} {w : World} {A : Option Addr} {t : Ex} (h : RepS P w A t) (hp : 0 < t.ks.length) : ∃ b f, A = some ⟨b, f, none⟩ ∧ P b ∧ ∀ i, i < t.ks.length → ∃ ka kc, w.cell? ⟨b, f + i * 4, none⟩ = some (.int .i64 (kd t.ks i).op) ∧ w.cell? ⟨b, f + i * 4 + 1, none⟩ = some (.int .i64 (kd t.ks i).vr) ∧ w.cell? ⟨b, f + i * 4 + 2, none⟩ = some (.string (kd t.ks i).nm) ∧ w.cell? ⟨b, f + i * 4 + 3, none⟩ = some (.slice ka (kd t.ks i).ks.length kc) ∧ RepS P w ka (kd t.ks i) := by
  cases h with
  | mk _ _ ka kc hrow hkid =>
    obtain ⟨b, f, e, hb, hc⟩ := hrow hp
    exact ⟨b, f, e, hb, fun i hi => ⟨ka i, kc i, (hc i hi).1, (hc i hi).2.1, (hc i hi).2.2.1, (hc i hi).2.2.2, hkid i hi⟩⟩
set_option maxRecDepth 100000 in
set_option maxHeartbeats 8000000 in
theorem rf_Put (x : Ex) (m : ByteArray) (Q : Nat → Prop) : ∀ (N : Nat) t, t.sz ≤ N → N ≤ 100000000 → ∀ (A B : Option Addr) (c d : Nat) (w : World), RepS Q w A t → RepS Q w B x → (∀ y, Q y → y < w.heap.size) →
    Calls Try.prog 26 #[exV t A c, .string m, exV x B d] w (GivT (putE m x t) Q w) := by
  intro N
  induction N with
  | zero => intro t h; have := sz_eq t; omega
  | succ N ih =>
    intro t ht hn A B c d w hR hRx hQ
    rw [putE_eq]
    obtain ⟨W, hW⟩ : ∃ W, ((w.alloc (.cells #[.int .i64 t.op, .int .i64 t.vr, .string t.nm, .slice A t.ks.length c] 24)).alloc (.cells #[.int .i64 x.op, .int .i64 x.vr, .string x.nm, .slice B x.ks.length d] 24)).alloc (.cells #[.int .i64 0, .int .i64 0, .string ⟨#[]⟩, .slice none 0 0] 24) = W := ⟨_, rfl⟩
    have hJ := putW w.heap.size t x A B c d w
    rw [hW] at hJ
    have hal : Below w.heap.size w W := by rw [← hW]; exact al (al (al (Below.refl _ _) _) _) _
    have hlen := szL_len t.ks
    have hszt := sz_eq t
    have HIH := Lib.hid (fun t h => ih t h (by omega))
    have HKS := Lib.hid (fun i (hi : i < t.ks.length) => (show (kd t.ks i).sz ≤ N by have := kd_sz hi; omega))
    have HQ := Lib.hid hQ
    have HRR := Lib.hid hR
    have HRX := Lib.hid hRx
    have HAL := Lib.hid hal
    obtain ⟨n, hnn⟩ : ∃ n, t.ks.length = n := ⟨_, rfl⟩
    have HM := Lib.hid hnn.symm
    have HJ := Lib.hid hJ
    have hnb : n ≤ 1000000000 := by omega
    have p0 : W.cell? ⟨w.heap.size, 0, none⟩ = some (.int .i64 t.op) := hJ.b0.cell 0
    have p1 : W.cell? ⟨w.heap.size, 1, none⟩ = some (.int .i64 t.vr) := hJ.b0.cell 1
    have p2 : W.cell? ⟨w.heap.size, 2, none⟩ = some (.string t.nm) := hJ.b0.cell 2
    have p3 : W.cell? ⟨w.heap.size, 3, none⟩ = some (.slice A t.ks.length c) := hJ.b0.cell 3
    have pl := hJ.b0.lt
    have x0 := hJ.b1.cell 0
    have x1 := hJ.b1.cell 1
    have x2 := hJ.b1.cell 2
    have x3 := hJ.b1.cell 3
    have xl := hJ.b1.lt
    have v0 := hJ.b2.cell 0
    have v1 := hJ.b2.cell 1
    have v2 := hJ.b2.cell 2
    have v3 := hJ.b2.cell 3
    have u0 := hJ.b2.frozen 0
    have u1 := hJ.b2.frozen 1
    have u2 := hJ.b2.frozen 2
    have u3 := hJ.b2.frozen 3
    have ul := hJ.b2.lt
    show Calls Try.prog 26 #[.agg #[.int .i64 t.op, .int .i64 t.vr, .string t.nm, .slice A t.ks.length c], .string m, .agg #[.int .i64 x.op, .int .i64 x.vr, .string x.nm, .slice B x.ks.length d]] w _
    rw [hnn] at p3 hW ⊢
    have HWW := Lib.hid hW
    by_cases q : (t.op == 3 && (t.nm.toList == m.toList)) = true
    · rw [if_pos q]
      simp only [Bool.and_eq_true, beq_iff_eq] at q
      have gq : (t.nm.toList == m.toList) = true := by simp [q.2]
      rw [q.1] at p0
      clear ih ht hn hR hQ hJ hlen hszt hW hnn hal hRx q
      go_enter Try.func26, Try.ntmps26
      go_upto_region 1 with (go_at_call 999)
      rw [HWW.out]
      go_wp2
      have hz := HJ.out.hz
      refine bodyPost_ret (res_ex rfl _ _ (w.heap.size + 1 + 1) _ _ _ _ rfl ((((HJ.out.b2.set_ 0 _).set_ 1 _).set_ 2 _).set_ 3 _)) rfl ⟨B, d, rfl, ((HRX.out.kept (fun y hy => HAL.out.block y (HQ.out y hy))).kept (fun y hy => set4_blk _ _ _ _ _ (by have := HQ.out y hy; omega))).mono (fun y hy => ⟨.inl hy, by rw [set4_size]; have := HQ.out y hy; have := HAL.out.size; omega⟩), below_set (below_set (below_set (below_set HAL.out (by omega) _ _) (by omega) _ _) (by omega) _ _) (by omega) _ _⟩
    rw [if_neg q]
    clear ih ht hn hR hQ hJ hlen hszt hW hnn hal hRx x0 x1 x2 x3 xl v0 v1 v2 v3 u0 u1 u2 u3 ul
    by_cases g3 : t.op = 3
    · have g3b : (t.op == 3) = true := by simp [g3]
      have gq : (t.nm.toList == m.toList) = false := by
        cases e : (t.nm.toList == m.toList) with
        | false => rfl
        | true => rw [g3b, e] at q; exact absurd rfl q
      clear g3 q
      go_enter Try.func26, Try.ntmps26
      go_upto_region 1 with (go_at_call 999)
      rw [HWW.out]
      go_wp2_with fail
      go_loopw [7, 8] (fun v i wr => ∃ k : Nat, k ≤ n ∧ i = .int .i64 (k : Int) ∧ Hid (RowK Q wr W.heap.size v k (putL m x (t.ks.take k))) ∧ Hid (Below W.heap.size W wr)) (fun _ i _ => n - (intOf i).toNat)
      case atStart => exact ⟨0, Nat.zero_le _, rfl, Lib.hid (RowK.made Q W _ (Nat.le_refl _)), Lib.hid (al (Below.refl _ _) _)⟩
      case round =>
        obtain ⟨k, hk, rfl, HO, HB⟩ := hrel
        obtain ⟨A9, c9, rfl⟩ := HO.out.form
        have hJr := HJ.out.below HB.out
        have q0 : wr.cell? ⟨w.heap.size, 0, none⟩ = some (.int .i64 t.op) := hJr.b0.cell 0
        have q1 : wr.cell? ⟨w.heap.size, 1, none⟩ = some (.int .i64 t.vr) := hJr.b0.cell 1
        have q2 : wr.cell? ⟨w.heap.size, 2, none⟩ = some (.string t.nm) := hJr.b0.cell 2
        have q3 : wr.cell? ⟨w.heap.size, 3, none⟩ = some (.slice A n c) := (by rw [HM.out]; exact hJr.b0.cell 3)
        have ql := hJr.b0.lt
        have HJR := Lib.hid hJr
        clear hJr
        by_cases hlt : k < n
        · have l1 : (k : Int) < (n : Int) := by omega
          have l0 : (0 : Int) ≤ (k : Int) := by omega
          have hi2 : k < t.ks.length := by rw [← HM.out]; exact hlt
          obtain ⟨b, f0, rfl, hQb, hc⟩ := HRR.out.row (by omega)
          obtain ⟨ka, kc, c0, c1, c2, c3, hRk⟩ := hc k hi2
          have hbb := HQ.out b hQb
          obtain ⟨u, hu⟩ : ∃ u, kd t.ks k = u := ⟨_, rfl⟩
          rw [hu] at c0 c1 c2 c3 hRk
          have HPA : Hid (∀ wx, Below W.heap.size W wx → wx.cell? ⟨w.heap.size, 3, none⟩ = some (.slice (some ⟨b, f0, none⟩) n c) ∧ wx.cell? ⟨b, f0 + k * 4, none⟩ = some (.int .i64 u.op) ∧ wx.cell? ⟨b, f0 + k * 4 + 1, none⟩ = some (.int .i64 u.vr) ∧ wx.cell? ⟨b, f0 + k * 4 + 2, none⟩ = some (.string u.nm) ∧ wx.cell? ⟨b, f0 + k * 4 + 3, none⟩ = some (.slice ka u.ks.length kc) ∧ wx.cell? ⟨w.heap.size + 1, 0, none⟩ = some (.int .i64 x.op) ∧ wx.cell? ⟨w.heap.size + 1, 1, none⟩ = some (.int .i64 x.vr) ∧ wx.cell? ⟨w.heap.size + 1, 2, none⟩ = some (.string x.nm) ∧ wx.cell? ⟨w.heap.size + 1, 3, none⟩ = some (.slice B x.ks.length d)) := Lib.hid (fun wx hx => by
            have hJx := HJ.out.below hx
            have hbx := HAL.out.trans (hx.mono HAL.out.size)
            exact ⟨(by rw [HM.out]; exact hJx.b0.cell 3), (hbx.cell (p := ⟨b, f0 + k * 4, none⟩) hbb).trans c0, (hbx.cell (p := ⟨b, f0 + k * 4 + 1, none⟩) hbb).trans c1, (hbx.cell (p := ⟨b, f0 + k * 4 + 2, none⟩) hbb).trans c2, (hbx.cell (p := ⟨b, f0 + k * 4 + 3, none⟩) hbb).trans c3, hJx.b1.cell 0, hJx.b1.cell 1, hJx.b1.cell 2, hJx.b1.cell 3⟩)
          have HC : Hid (∀ wx, Below W.heap.size W wx → Calls Try.prog 26 #[exV u ka kc, .string m, exV x B d] wx (GivT (putE m x u) Q wx)) := Lib.hid (fun wx hx => by
            have hbx := HAL.out.trans (hx.mono HAL.out.size)
            have := HIH.out (kd t.ks k) (HKS.out k hi2) ka B kc d wx
            rw [hu] at this
            exact this (hRk.kept (fun y hy => hbx.block y (HQ.out y hy))) (HRX.out.kept (fun y hy => hbx.block y (HQ.out y hy))) (fun y hy => Nat.lt_of_lt_of_le (HQ.out y hy) hbx.size))
          have HSN : Hid (putL m x (t.ks.take (k + 1)) = putL m x (t.ks.take k) ++ [putE m x u]) := Lib.hid (by rw [kd_take hi2, putL_snoc, hu])
          have HDR : Hid (Below wr.heap.size wr wr.drew) := Lib.hid ((Below.refl _ _).drew)
          have HBD : Hid (Below W.heap.size W wr.drew) := Lib.hid (bt HB.out HDR.out)
          obtain ⟨v, hv⟩ : ∃ v, putE m x u = v := ⟨_, rfl⟩
          rw [hv] at HSN
          have HCV : Hid (∀ wx, Below W.heap.size W wx → Calls Try.prog 26 #[exV u ka kc, .string m, exV x B d] wx (GivT v Q wx)) := Lib.hid (fun wx hx => by rw [← hv]; exact HC.out wx hx)
          have HWQ : Hid (w.heap.size + 1 + 1 + 1 ≤ W.heap.size ∧ ∀ y, Q y → y < W.heap.size) := Lib.hid ⟨HJ.out.hz, fun y hy => by have := HQ.out y hy; have := HJ.out.hz; omega⟩
          have HRK : Hid (∀ y s4, (Q y ∨ wr.drew.heap.size ≤ y) ∧ y < s4 → (Q y ∨ W.heap.size ≤ y) ∧ y < s4 ∧ (Value.slice A9 k c9).ownBlock ≠ some y) := Lib.hid (fun y s4 hy => by
            have h1 := HBD.out.size
            have h2 := HDR.out.size
            refine ⟨?_, hy.2, fun e => ?_⟩
            · rcases hy.1 with h | h
              · exact .inl h
              · exact .inr (by omega)
            · have h3 := HO.out.own_lt e
              rcases hy.1 with h | h
              · have := HWQ.out.2 y h; omega
              · omega)
          clear hc c0 c1 c2 c3 hRk hu hv HC
          go_upto_region 7 with (fail)
          clear q0 q1 q2 q3
          go_region_held3 (fun wx => wx.cell? ⟨w.heap.size, 3, none⟩ = some (.slice (some ⟨b, f0, none⟩) n c) ∧ wx.cell? ⟨b, f0 + k * 4, none⟩ = some (.int .i64 u.op) ∧ wx.cell? ⟨b, f0 + k * 4 + 1, none⟩ = some (.int .i64 u.vr) ∧ wx.cell? ⟨b, f0 + k * 4 + 2, none⟩ = some (.string u.nm) ∧ wx.cell? ⟨b, f0 + k * 4 + 3, none⟩ = some (.slice ka u.ks.length kc) ∧ wx.cell? ⟨w.heap.size + 1, 0, none⟩ = some (.int .i64 x.op) ∧ wx.cell? ⟨w.heap.size + 1, 1, none⟩ = some (.int .i64 x.vr) ∧ wx.cell? ⟨w.heap.size + 1, 2, none⟩ = some (.string x.nm) ∧ wx.cell? ⟨w.heap.size + 1, 3, none⟩ = some (.slice B x.ks.length d)) (first | exact HPA.out _ HB5.out | exact HPA.out _ (al HB4.out _) | exact HPA.out _ HB4.out | exact HPA.out _ HBD.out) ((first
            | (go_at_call 26; (with_reducible refine (HCV.out _ HBD.out).mono ?_); rintro e w4 hgv; obtain ⟨A4, c4, rfl, hR4, hb4⟩ := hgv; have HB4 := Lib.hid (bt HBD.out hb4); have HO4 := Lib.hid ((HO.out.below HDR.out).below hb4); have HR4 := Lib.hid hR4; have HZ4 := Lib.hid hb4.size; clear hR4 hb4)
            | (refine step_app_k rfl (.tmp 27) (.tmp 36) rfl Q w4 W.heap.size k (.slice A9 k c9) _ rfl HO4.out v A4 c4 rfl (HR4.out.mono (fun y hy => HRK.out y _ hy)) HWQ.out.2 HB4.out.size (by omega) ?_; intro v5 w5 hr5 hb5; have HO5 := Lib.hid hr5; have HB5 := Lib.hid (HB4.out.trans hb5); clear hr5 hb5)))
          all_goals go_wp2
          go_roundw
          case rel => exact ⟨k + 1, by omega, by go_num, by rw [HSN.out]; exact HO5.out, HB5⟩
          case measure => simp [intOf]; try omega
        · have l1 : ¬ (k : Int) < (n : Int) := by omega
          obtain rfl : k = n := by omega
          have hO := HO.out
          rw [HM.out, List.take_length, ← HM.out] at hO
          have HO := Lib.hid hO
          have q5 := HJR.out.b0.frozen 3
          have v0 := HJR.out.b2.cell 0
          have v1 := HJR.out.b2.cell 1
          have v2 := HJR.out.b2.cell 2
          have v3 := HJR.out.b2.cell 3
          have u0 := HJR.out.b2.frozen 0
          have u1 := HJR.out.b2.frozen 1
          have u2 := HJR.out.b2.frozen 2
          have u3 := HJR.out.b2.frozen 3
          have ul := HJR.out.b2.lt
          clear hO
          go_wp2
          have hz := HJ.out.hz
          have hll : (putL m x t.ks).length = k := by rw [putL_len]; exact HM.out.symm
          have hb2 : Blk (wr.setCell ⟨w.heap.size, 3, none⟩ (.slice A9 k c9)) (w.heap.size + 1 + 1) 24 #[.int .i64 0, .int .i64 0, .string ⟨#[]⟩, .slice none 0 0] := (set_blk _ _ _ (by omega)).trans HJR.out.b2
          have hne : ∀ y, (Q y ∨ W.heap.size ≤ y) ∧ y < wr.heap.size → y ≠ w.heap.size ∧ y ≠ w.heap.size + 1 + 1 := fun y hy => by
            rcases hy.1 with h | h
            · have := HQ.out y h; omega
            · omega
          refine bodyPost_ret (res_ex rfl _ _ (w.heap.size + 1 + 1) _ _ _ _ rfl ((((hb2.set_ 0 _).set_ 1 _).set_ 2 _).set_ 3 _)) rfl ⟨A9, c9, ?_, (((HO.out.tree t.op t.vr t.nm).kept (fun y hy => set_blk _ _ _ (hne y hy).1)).kept (fun y hy => set4_blk _ _ _ _ _ (hne y hy).2)).mono (fun y hy => ⟨?_, by rw [set4_size]; simpa using hy.2⟩), below_set (below_set (below_set (below_set (below_set (HAL.out.trans (HB.out.mono (by omega))) (by omega) _ _) (by omega) _ _) (by omega) _ _) (by omega) _ _) (by omega) _ _⟩
          · show _ = Ending.returned (.agg #[.int .i64 t.op, .int .i64 t.vr, .string t.nm, .slice A9 (putL m x t.ks).length c9])
            rw [hll]
          · rcases hy.1 with h | h
            · exact .inl h
            · exact .inr (by omega)
    · have g3b : (t.op == 3) = false := by simp [g3]
      clear g3 q
      go_enter Try.func26, Try.ntmps26
      go_upto_region 1 with (go_at_call 999)
      rw [HWW.out]
      go_wp2_with fail
      go_loopw [7, 8] (fun v i wr => ∃ k : Nat, k ≤ n ∧ i = .int .i64 (k : Int) ∧ Hid (RowK Q wr W.heap.size v k (putL m x (t.ks.take k))) ∧ Hid (Below W.heap.size W wr)) (fun _ i _ => n - (intOf i).toNat)
      case atStart => exact ⟨0, Nat.zero_le _, rfl, Lib.hid (RowK.made Q W _ (Nat.le_refl _)), Lib.hid (al (Below.refl _ _) _)⟩
      case round =>
        obtain ⟨k, hk, rfl, HO, HB⟩ := hrel
        obtain ⟨A9, c9, rfl⟩ := HO.out.form
        have hJr := HJ.out.below HB.out
        have q0 : wr.cell? ⟨w.heap.size, 0, none⟩ = some (.int .i64 t.op) := hJr.b0.cell 0
        have q1 : wr.cell? ⟨w.heap.size, 1, none⟩ = some (.int .i64 t.vr) := hJr.b0.cell 1
        have q2 : wr.cell? ⟨w.heap.size, 2, none⟩ = some (.string t.nm) := hJr.b0.cell 2
        have q3 : wr.cell? ⟨w.heap.size, 3, none⟩ = some (.slice A n c) := (by rw [HM.out]; exact hJr.b0.cell 3)
        have ql := hJr.b0.lt
        have HJR := Lib.hid hJr
        clear hJr
        by_cases hlt : k < n
        · have l1 : (k : Int) < (n : Int) := by omega
          have l0 : (0 : Int) ≤ (k : Int) := by omega
          have hi2 : k < t.ks.length := by rw [← HM.out]; exact hlt
          obtain ⟨b, f0, rfl, hQb, hc⟩ := HRR.out.row (by omega)
          obtain ⟨ka, kc, c0, c1, c2, c3, hRk⟩ := hc k hi2
          have hbb := HQ.out b hQb
          obtain ⟨u, hu⟩ : ∃ u, kd t.ks k = u := ⟨_, rfl⟩
          rw [hu] at c0 c1 c2 c3 hRk
          have HPA : Hid (∀ wx, Below W.heap.size W wx → wx.cell? ⟨w.heap.size, 3, none⟩ = some (.slice (some ⟨b, f0, none⟩) n c) ∧ wx.cell? ⟨b, f0 + k * 4, none⟩ = some (.int .i64 u.op) ∧ wx.cell? ⟨b, f0 + k * 4 + 1, none⟩ = some (.int .i64 u.vr) ∧ wx.cell? ⟨b, f0 + k * 4 + 2, none⟩ = some (.string u.nm) ∧ wx.cell? ⟨b, f0 + k * 4 + 3, none⟩ = some (.slice ka u.ks.length kc) ∧ wx.cell? ⟨w.heap.size + 1, 0, none⟩ = some (.int .i64 x.op) ∧ wx.cell? ⟨w.heap.size + 1, 1, none⟩ = some (.int .i64 x.vr) ∧ wx.cell? ⟨w.heap.size + 1, 2, none⟩ = some (.string x.nm) ∧ wx.cell? ⟨w.heap.size + 1, 3, none⟩ = some (.slice B x.ks.length d)) := Lib.hid (fun wx hx => by
            have hJx := HJ.out.below hx
            have hbx := HAL.out.trans (hx.mono HAL.out.size)
            exact ⟨(by rw [HM.out]; exact hJx.b0.cell 3), (hbx.cell (p := ⟨b, f0 + k * 4, none⟩) hbb).trans c0, (hbx.cell (p := ⟨b, f0 + k * 4 + 1, none⟩) hbb).trans c1, (hbx.cell (p := ⟨b, f0 + k * 4 + 2, none⟩) hbb).trans c2, (hbx.cell (p := ⟨b, f0 + k * 4 + 3, none⟩) hbb).trans c3, hJx.b1.cell 0, hJx.b1.cell 1, hJx.b1.cell 2, hJx.b1.cell 3⟩)
          have HC : Hid (∀ wx, Below W.heap.size W wx → Calls Try.prog 26 #[exV u ka kc, .string m, exV x B d] wx (GivT (putE m x u) Q wx)) := Lib.hid (fun wx hx => by
            have hbx := HAL.out.trans (hx.mono HAL.out.size)
            have := HIH.out (kd t.ks k) (HKS.out k hi2) ka B kc d wx
            rw [hu] at this
            exact this (hRk.kept (fun y hy => hbx.block y (HQ.out y hy))) (HRX.out.kept (fun y hy => hbx.block y (HQ.out y hy))) (fun y hy => Nat.lt_of_lt_of_le (HQ.out y hy) hbx.size))
          have HSN : Hid (putL m x (t.ks.take (k + 1)) = putL m x (t.ks.take k) ++ [putE m x u]) := Lib.hid (by rw [kd_take hi2, putL_snoc, hu])
          have HDR : Hid (Below wr.heap.size wr wr.drew) := Lib.hid ((Below.refl _ _).drew)
          have HBD : Hid (Below W.heap.size W wr.drew) := Lib.hid (bt HB.out HDR.out)
          obtain ⟨v, hv⟩ : ∃ v, putE m x u = v := ⟨_, rfl⟩
          rw [hv] at HSN
          have HCV : Hid (∀ wx, Below W.heap.size W wx → Calls Try.prog 26 #[exV u ka kc, .string m, exV x B d] wx (GivT v Q wx)) := Lib.hid (fun wx hx => by rw [← hv]; exact HC.out wx hx)
          have HWQ : Hid (w.heap.size + 1 + 1 + 1 ≤ W.heap.size ∧ ∀ y, Q y → y < W.heap.size) := Lib.hid ⟨HJ.out.hz, fun y hy => by have := HQ.out y hy; have := HJ.out.hz; omega⟩
          have HRK : Hid (∀ y s4, (Q y ∨ wr.drew.heap.size ≤ y) ∧ y < s4 → (Q y ∨ W.heap.size ≤ y) ∧ y < s4 ∧ (Value.slice A9 k c9).ownBlock ≠ some y) := Lib.hid (fun y s4 hy => by
            have h1 := HBD.out.size
            have h2 := HDR.out.size
            refine ⟨?_, hy.2, fun e => ?_⟩
            · rcases hy.1 with h | h
              · exact .inl h
              · exact .inr (by omega)
            · have h3 := HO.out.own_lt e
              rcases hy.1 with h | h
              · have := HWQ.out.2 y h; omega
              · omega)
          clear hc c0 c1 c2 c3 hRk hu hv HC
          go_upto_region 7 with (fail)
          clear q0 q1 q2 q3
          go_region_held3 (fun wx => wx.cell? ⟨w.heap.size, 3, none⟩ = some (.slice (some ⟨b, f0, none⟩) n c) ∧ wx.cell? ⟨b, f0 + k * 4, none⟩ = some (.int .i64 u.op) ∧ wx.cell? ⟨b, f0 + k * 4 + 1, none⟩ = some (.int .i64 u.vr) ∧ wx.cell? ⟨b, f0 + k * 4 + 2, none⟩ = some (.string u.nm) ∧ wx.cell? ⟨b, f0 + k * 4 + 3, none⟩ = some (.slice ka u.ks.length kc) ∧ wx.cell? ⟨w.heap.size + 1, 0, none⟩ = some (.int .i64 x.op) ∧ wx.cell? ⟨w.heap.size + 1, 1, none⟩ = some (.int .i64 x.vr) ∧ wx.cell? ⟨w.heap.size + 1, 2, none⟩ = some (.string x.nm) ∧ wx.cell? ⟨w.heap.size + 1, 3, none⟩ = some (.slice B x.ks.length d)) (first | exact HPA.out _ HB5.out | exact HPA.out _ (al HB4.out _) | exact HPA.out _ HB4.out | exact HPA.out _ HBD.out) ((first
            | (go_at_call 26; (with_reducible refine (HCV.out _ HBD.out).mono ?_); rintro e w4 hgv; obtain ⟨A4, c4, rfl, hR4, hb4⟩ := hgv; have HB4 := Lib.hid (bt HBD.out hb4); have HO4 := Lib.hid ((HO.out.below HDR.out).below hb4); have HR4 := Lib.hid hR4; have HZ4 := Lib.hid hb4.size; clear hR4 hb4)
            | (refine step_app_k rfl (.tmp 27) (.tmp 36) rfl Q w4 W.heap.size k (.slice A9 k c9) _ rfl HO4.out v A4 c4 rfl (HR4.out.mono (fun y hy => HRK.out y _ hy)) HWQ.out.2 HB4.out.size (by omega) ?_; intro v5 w5 hr5 hb5; have HO5 := Lib.hid hr5; have HB5 := Lib.hid (HB4.out.trans hb5); clear hr5 hb5)))
          all_goals go_wp2
          go_roundw
          case rel => exact ⟨k + 1, by omega, by go_num, by rw [HSN.out]; exact HO5.out, HB5⟩
          case measure => simp [intOf]; try omega
        · have l1 : ¬ (k : Int) < (n : Int) := by omega
          obtain rfl : k = n := by omega
          have hO := HO.out
          rw [HM.out, List.take_length, ← HM.out] at hO
          have HO := Lib.hid hO
          have q5 := HJR.out.b0.frozen 3
          have v0 := HJR.out.b2.cell 0
          have v1 := HJR.out.b2.cell 1
          have v2 := HJR.out.b2.cell 2
          have v3 := HJR.out.b2.cell 3
          have u0 := HJR.out.b2.frozen 0
          have u1 := HJR.out.b2.frozen 1
          have u2 := HJR.out.b2.frozen 2
          have u3 := HJR.out.b2.frozen 3
          have ul := HJR.out.b2.lt
          clear hO
          go_wp2
          have hz := HJ.out.hz
          have hll : (putL m x t.ks).length = k := by rw [putL_len]; exact HM.out.symm
          have hb2 : Blk (wr.setCell ⟨w.heap.size, 3, none⟩ (.slice A9 k c9)) (w.heap.size + 1 + 1) 24 #[.int .i64 0, .int .i64 0, .string ⟨#[]⟩, .slice none 0 0] := (set_blk _ _ _ (by omega)).trans HJR.out.b2
          have hne : ∀ y, (Q y ∨ W.heap.size ≤ y) ∧ y < wr.heap.size → y ≠ w.heap.size ∧ y ≠ w.heap.size + 1 + 1 := fun y hy => by
            rcases hy.1 with h | h
            · have := HQ.out y h; omega
            · omega
          refine bodyPost_ret (res_ex rfl _ _ (w.heap.size + 1 + 1) _ _ _ _ rfl ((((hb2.set_ 0 _).set_ 1 _).set_ 2 _).set_ 3 _)) rfl ⟨A9, c9, ?_, (((HO.out.tree t.op t.vr t.nm).kept (fun y hy => set_blk _ _ _ (hne y hy).1)).kept (fun y hy => set4_blk _ _ _ _ _ (hne y hy).2)).mono (fun y hy => ⟨?_, by rw [set4_size]; simpa using hy.2⟩), below_set (below_set (below_set (below_set (below_set (HAL.out.trans (HB.out.mono (by omega))) (by omega) _ _) (by omega) _ _) (by omega) _ _) (by omega) _ _) (by omega) _ _⟩
          · show _ = Ending.returned (.agg #[.int .i64 t.op, .int .i64 t.vr, .string t.nm, .slice A9 (putL m x t.ks).length c9])
            rw [hll]
          · rcases hy.1 with h | h
            · exact .inl h
            · exact .inr (by omega)
end Go.Proofs.Ytcdpjodnbegepaa
