/- The specification's Same; layer 32 (forms). -/
import Derived.Test.YtnjkphopklbogaaMf
import Derived.Test.YtnjkphopklbogaaSm2
namespace Go.Proofs.Ytnjkphopklbogaa
open Go.RowKit Go.PlainAid

abbrev C6 (wx : World) (b f : Nat) (u : Fx) (E : Option Addr) (d : Nat) (A : Option Addr) (c : Nat) : Prop := wx.cell? ⟨b, f, none⟩ = some (.int .i64 u.op) ∧ wx.cell? ⟨b, f + 1, none⟩ = some (.int .i64 u.e.op) ∧ wx.cell? ⟨b, f + 2, none⟩ = some (.int .i64 u.e.vr) ∧ wx.cell? ⟨b, f + 3, none⟩ = some (.string u.e.nm) ∧ wx.cell? ⟨b, f + 4, none⟩ = some (.slice E u.e.ks.length d) ∧ wx.cell? ⟨b, f + 5, none⟩ = some (.slice A u.ks.length c)
theorem FAt.c6 {wx : World} {b f : Nat} {u : Fx} {E : Option Addr} {d : Nat} {A : Option Addr} {c : Nat} (h : FAt wx b f u E d A c) : C6 wx b f u E d A c := ⟨h.c0, h.c1, h.c2, h.c3, h.c4, h.c5⟩
set_option maxRecDepth 100000 in
set_option maxHeartbeats 8000000 in
theorem rf_fSame : ∀ (n : Nat) (t : Fx), t.sz ≤ n → n ≤ 100000000 → ∀ (u : Fx), u.sz ≤ 100000000 → ∀ (E : Option Addr) (dd : Nat) (A : Option Addr) (c : Nat) (E2 : Option Addr) (d2 : Nat) (B : Option Addr) (d : Nat) (w : World), Fm w.heap.size w t E A → Fm w.heap.size w u E2 B →
    Calls Try.prog 20 #[fV t E dd A c, fV u E2 d2 B d] w (ValP w (eqF t u)) := by
  intro n
  induction n with
  | zero => intro t h; have := fsz_pos t; omega
  | succ n ih =>
    intro t ht hn u hu E dd A c E2 d2 B d w hA hB
    have h1 := fkl_sz t
    have h2 := fe_sz t
    have h3 := fkl_sz u
    have h4 := fe_sz u
    have hkt : t.ks.length ≤ 1000000000 := by omega
    have HS : Hid (EqF 20 t.ks u.ks) := Lib.hid (fun i hi E dd A c E2 d2 B d w ha hb => by
      have := fkd_sz hi
      by_cases hj : i < u.ks.length
      · have := fkd_sz hj
        exact ih (fkd t.ks i) (by omega) (by omega) (fkd u.ks i) (by omega) E dd A c E2 d2 B d w ha hb
      · have e : fkd u.ks i = fx0 := by unfold fkd; rw [List.getD, List.getElem?_eq_none (by omega)]; rfl
        exact ih (fkd t.ks i) (by omega) (by omega) (fkd u.ks i) (by rw [e]; decide) E dd A c E2 d2 B d w ha hb)
    have HA := Lib.hid hA
    have HB := Lib.hid hB
    have HAL : Hid (∀ o1 o2, Below w.heap.size w ((w.alloc o1).alloc o2)) := Lib.hid (fun o1 o2 => bt (bal _ _) (bal _ _))
    obtain ⟨W, hW⟩ : ∃ W, (w.alloc (.cells (fC t E dd A c) 27)).alloc (.cells (fC u E2 d2 B d) 27) = W := ⟨_, rfl⟩
    have hz1 : (w.alloc (.cells (fC t E dd A c) 27)).heap.size = w.heap.size + 1 := by simp
    have hbW : Below w.heap.size w W := by rw [← hW]; exact HAL.out _ _
    have hat1 : FAt W w.heap.size 0 t E dd A c := by rw [← hW]; exact (fal t E A dd c w).below (bal _ _) (by simp)
    have hat2 : FAt W (w.heap.size + 1) 0 u E2 d2 B d := by rw [← hW, ← hz1]; exact fal u E2 B d2 d _
    have hzW : w.heap.size + 1 < W.heap.size := by rw [← hW]; simp
    have HX : Hid (∀ wx, Below W.heap.size W wx → FAt wx w.heap.size 0 t E dd A c ∧ FAt wx (w.heap.size + 1) 0 u E2 d2 B d ∧ Below w.heap.size w wx) := Lib.hid (fun wx hb => ⟨hat1.below hb (by omega), hat2.below hb (by omega), hbW.trans (hb.mono hbW.size)⟩)
    have HT : Hid (Calls Try.prog 44 #[exV t.e E dd, exV u.e E2 d2] W (ValP W (eqE t.e u.e))) := Lib.hid (rf_term t.e.sz t.e (Nat.le_refl _) (by omega) u.e (by omega) E E2 dd d2 W (hA.1.step hbW) (hB.1.step hbW))
    obtain ⟨R, hR⟩ : ∃ R, eqF t u = R := ⟨_, rfl⟩
    rw [hR]
    rw [eqF_eq] at hR
    obtain ⟨p0, p1, p2, p3, p4, p5⟩ := hat1
    obtain ⟨r0, r1, r2, r3, r4, r5⟩ := hat2
    have HW := Lib.hid hW
    clear h1 h2 h3 h4 ih hA hB ht hu hn hz1 hbW hzW hW
    obtain ⟨qe, hqe⟩ : ∃ q, eqE t.e u.e = q := ⟨_, rfl⟩
    obtain ⟨qo, hqo⟩ : ∃ q, (t.op != u.op) = q := ⟨_, rfl⟩
    have hqo2 : (t.op == u.op) = !qo := by rw [← hqo]; simp [bne]
    rw [hqe] at hR HT
    rw [hqo2] at hR
    clear hqe hqo2
    cases qo
    · cases qe
      · have X : Hid (R = false) := Lib.hid (by rw [← hR]; rfl)
        clear hR
        go_enter Try.func20, Try.ntmps20
        go_upto_region 1 with (fail)
        rw [HW.out]
        go_wp2_with (go_at_call 44; (with_reducible refine HT.out.mono ?_); rintro e w2 ⟨rfl, hb2⟩; have HB2 := Lib.hid hb2; clear hb2)
        go_ret
        exact ⟨by rw [X.out]; rfl, (HX.out _ HB2.out).2.2⟩
      · have hR2 : eqFL t.ks u.ks = R := by rw [← hR]; rfl
        by_cases hl : t.ks.length = u.ks.length
        · have hne : ((t.ks.length : Int) != (u.ks.length : Int)) = false := by simp [hl]
          have HL := Lib.hid hl
          have HR0 : Hid (eqFL (t.ks.drop 0) (u.ks.drop 0) = R) := Lib.hid hR2
          clear hR hR2 hl
          go_enter Try.func20, Try.ntmps20
          go_upto_region 1 with (fail)
          rw [HW.out]
          go_wp2_with (go_at_call 44; (with_reducible refine HT.out.mono ?_); rintro e w2 ⟨rfl, hb2⟩; have HB2 := Lib.hid hb2; obtain ⟨⟨a0, a1, a2, a3, a4, a5⟩, ⟨s0, s1, s2, s3, s4, s5⟩, _⟩ := HX.out _ hb2; clear hb2)
          go_loopw [5] (fun i wr => ∃ k : Nat, k ≤ t.ks.length ∧ i = .int .i64 (k : Int) ∧ Hid (eqFL (t.ks.drop k) (u.ks.drop k) = R) ∧ Hid (Below W.heap.size W wr)) (fun i _ => t.ks.length - (intOf i).toNat)
          case atStart => exact ⟨0, Nat.zero_le _, rfl, HR0, HB2⟩
          case round =>
            clear a0 a1 a2 a3 a4 a5 s0 s1 s2 s3 s4 s5 p0 p1 p2 p3 p4 p5 r0 r1 r2 r3 r4 r5 hne HB2
            obtain ⟨k, hk, rfl, HV, HWr⟩ := hrel
            have hX := HX.out _ HWr.out
            have f0 := hX.1.c5
            have f1 := hX.2.1.c5
            have hbw := hX.2.2
            have hk0 : (0 : Int) ≤ (k : Int) := by omega
            have hll := HL.out
            by_cases hlt : k < t.ks.length
            · have hlt2 : k < u.ks.length := by omega
              have h1 : (k : Int) < (t.ks.length : Int) := by omega
              have h2 : (k : Int) < (u.ks.length : Int) := by omega
              clear hll
              obtain ⟨b, g0, rfl, hb, hc⟩ := HA.out.2.out (show 0 < t.ks.length by omega)
              obtain ⟨b2, g2, rfl, hb2, hc2⟩ := HB.out.2.out (show 0 < u.ks.length by omega)
              obtain ⟨ea, ec, ka, kc, hAt, hRe, hRk⟩ := hc k hlt
              obtain ⟨ea2, ec2, ka2, kc2, hAt2, hRe2, hRk2⟩ := hc2 k hlt2
              have hst := eqFL_step hlt hlt2
              rw [HV.out] at hst
              have HC : Hid (Calls Try.prog 20 #[fV (fkd t.ks k) ea ec ka kc, fV (fkd u.ks k) ea2 ec2 ka2 kc2] wr.drew (ValP wr.drew (eqF (fkd t.ks k) (fkd u.ks k)))) := Lib.hid (HS.out k hlt ea ec ka kc ea2 ec2 ka2 kc2 wr.drew ⟨(hRe.step hbw).step (Below.refl _ _).drew, (hRk.step hbw).step (Below.refl _ _).drew⟩ ⟨(hRe2.step hbw).step (Below.refl _ _).drew, (hRk2.step hbw).step (Below.refl _ _).drew⟩)
              obtain ⟨q, hq⟩ : ∃ q, eqF (fkd t.ks k) (fkd u.ks k) = q := ⟨_, rfl⟩
              rw [hq] at HC hst
              have HST := Lib.hid hst
              have hsw := hbw.size
              have hlb : b < wr.heap.size := by omega
              have hlb2 : b2 < wr.heap.size := by omega
              have hcc := hAt.below hbw hb
              have hcc2 := hAt2.below hbw hb2
              have HKK : Hid (∀ wx, Below wr.heap.size wr wx → (wx.cell? ⟨w.heap.size, 0 + 5, none⟩ = some (.slice (some ⟨b, g0, none⟩) t.ks.length c) ∧ wx.cell? ⟨w.heap.size + 1, 0 + 5, none⟩ = some (.slice (some ⟨b2, g2, none⟩) u.ks.length d)) ∧ C6 wx b (g0 + k * 6) (fkd t.ks k) ea ec ka kc ∧ C6 wx b2 (g2 + k * 6) (fkd u.ks k) ea2 ec2 ka2 kc2) := Lib.hid (fun wx hx => by
                have hY := HX.out _ (HWr.out.trans (hx.mono HWr.out.size))
                exact ⟨⟨hY.1.c5, hY.2.1.c5⟩, (hcc.below hx hlb).c6, (hcc2.below hx hlb2).c6⟩)
              have HB00 : Hid (Below wr.heap.size wr wr.drew) := Lib.hid (Below.refl _ _).drew
              clear hst hq hc hc2 hAt hAt2 hRe hRe2 hRk hRk2 hb hb2 hbw hlb hlb2 hcc hcc2 hsw hX
              generalize fkd t.ks k = x1 at *
              generalize fkd u.ks k = x2 at *
              cases q
              · have X : Hid (R = false) := Lib.hid HST.out
                go_upto_region 6 with (fail)
                go_region_held3 (fun wx => (wx.cell? ⟨w.heap.size, 5, none⟩ = some (.slice (some ⟨b, g0, none⟩) t.ks.length c) ∧ wx.cell? ⟨w.heap.size + 1, 5, none⟩ = some (.slice (some ⟨b2, g2, none⟩) u.ks.length d)) ∧ C6 wx b (g0 + k * 6) x1 ea ec ka kc ∧ C6 wx b2 (g2 + k * 6) x2 ea2 ec2 ka2 kc2) (first | exact HKK.out _ HB2.out | exact HKK.out _ HB00.out) ((go_at_call 20; (with_reducible refine (HC.out).mono ?_); rintro e w2 ⟨rfl, hb2⟩; have HB2 := Lib.hid (bt HB00.out hb2); clear hb2))
                all_goals go_wp2
                all_goals (go_ret; exact ⟨by rw [X.out]; rfl, (HX.out _ (HWr.out.trans (HB2.out.mono HWr.out.size))).2.2⟩)
              · have X : Hid (eqFL (t.ks.drop (k + 1)) (u.ks.drop (k + 1)) = R) := Lib.hid (by have := HST.out; simpa using this.symm)
                go_upto_region 6 with (fail)
                go_region_held3 (fun wx => (wx.cell? ⟨w.heap.size, 5, none⟩ = some (.slice (some ⟨b, g0, none⟩) t.ks.length c) ∧ wx.cell? ⟨w.heap.size + 1, 5, none⟩ = some (.slice (some ⟨b2, g2, none⟩) u.ks.length d)) ∧ C6 wx b (g0 + k * 6) x1 ea ec ka kc ∧ C6 wx b2 (g2 + k * 6) x2 ea2 ec2 ka2 kc2) (first | exact HKK.out _ HB2.out | exact HKK.out _ HB00.out) ((go_at_call 20; (with_reducible refine (HC.out).mono ?_); rintro e w2 ⟨rfl, hb2⟩; have HB2 := Lib.hid (bt HB00.out hb2); clear hb2))
                all_goals go_wp2
                all_goals exact ⟨⟨k + 1, by omega, by go_num, X, Lib.hid (HWr.out.trans (HB2.out.mono HWr.out.size))⟩, by simp [intOf]; omega⟩
            · have X : Hid (R = true) := Lib.hid (by
                have := HV.out
                rw [List.drop_of_length_le (by omega), List.drop_of_length_le (by omega)] at this
                rw [← this]; rfl)
              clear hll hX
              go_wp2
              go_ret
              exact ⟨by rw [X.out]; rfl, hbw⟩
        · have hne : ((t.ks.length : Int) != (u.ks.length : Int)) = true := by simp; omega
          have X : Hid (R = false) := Lib.hid (by rw [← hR2, eqFL_len hl])
          clear hR hR2 hl
          go_enter Try.func20, Try.ntmps20
          go_upto_region 1 with (fail)
          rw [HW.out]
          go_wp2_with (go_at_call 44; (with_reducible refine HT.out.mono ?_); rintro e w2 ⟨rfl, hb2⟩; have HB2 := Lib.hid hb2; obtain ⟨⟨a0, a1, a2, a3, a4, a5⟩, ⟨s0, s1, s2, s3, s4, s5⟩, _⟩ := HX.out _ hb2; clear hb2)
          go_ret
          exact ⟨by rw [X.out]; rfl, (HX.out _ HB2.out).2.2⟩
    · have X : Hid (R = false) := Lib.hid (by rw [← hR]; rfl)
      clear hR
      go_enter Try.func20, Try.ntmps20
      go_upto_region 1 with (fail)
      rw [HW.out]
      go_wp2
      go_ret
      exact ⟨by rw [X.out]; rfl, (HX.out _ (Below.refl _ _)).2.2⟩
end Go.Proofs.Ytnjkphopklbogaa
