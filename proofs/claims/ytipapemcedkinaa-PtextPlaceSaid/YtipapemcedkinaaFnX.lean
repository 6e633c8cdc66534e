/- The specification's Same; layer 7 (ptext). -/
import Derived.Test.YtipapemcedkinaaFnW
import Derived.Deep.RegionHeld3
namespace Go.Proofs.Ytipapemcedkinaa
open Go.RowKit Go.PlainAid

set_option maxRecDepth 100000 in
set_option maxHeartbeats 4000000 in
theorem rf_Same_in (o v : Int) (ks us : List Ex) (A B : Option Addr) (c d : Nat) (w : World) (hA : Rep w.heap.size w A (.mk o v ks)) (hB : Rep w.heap.size w B (.mk o v us)) (hl : ks.length = us.length) (hlk : ks.length ≤ 1000000000) (hS : SamH 10 ks us) :
    Calls Try.prog 10 #[.agg #[.int .i64 o, .int .i64 v, .slice A ks.length c], .agg #[.int .i64 o, .int .i64 v, .slice B us.length d]] w (ValP w (smL ks us)) := by
  have HA := Lib.hid hA
  have HB := Lib.hid hB
  have HS := Lib.hid hS
  have HHL := Lib.hid hl
  have hk1 := Blk.new w 25 #[.int .i64 o, .int .i64 v, .slice A ks.length c]
  have hk2 := Blk.new (w.alloc (.cells #[.int .i64 o, .int .i64 v, .slice A ks.length c] 25)) 25 #[.int .i64 o, .int .i64 v, .slice B us.length d]
  have hba := bal w (.cells #[.int .i64 o, .int .i64 v, .slice A ks.length c] 25)
  have hbb := bal (w.alloc (.cells #[.int .i64 o, .int .i64 v, .slice A ks.length c] 25)) (.cells #[.int .i64 o, .int .i64 v, .slice B us.length d] 25)
  have hz1 : (w.alloc (.cells #[.int .i64 o, .int .i64 v, .slice A ks.length c] 25)).heap.size = w.heap.size + 1 := by simp
  rw [hz1] at hk2
  obtain ⟨W0, hW0⟩ : ∃ W0, (w.alloc (.cells #[.int .i64 o, .int .i64 v, .slice A ks.length c] 25)).alloc (.cells #[.int .i64 o, .int .i64 v, .slice B us.length d] 25) = W0 := ⟨_, rfl⟩
  have hk1' := hk1.below hbb hk1.lt
  have hb0 := bt hba hbb
  rw [hW0] at hk1' hk2 hb0
  obtain ⟨G, hG⟩ : ∃ G, w.heap.size = G := ⟨_, rfl⟩
  rw [hG] at hk1' hk2
  have HU : Hid (∀ wx, Below W0.heap.size W0 wx → (wx.cell? ⟨G, 2, none⟩ = some (.slice A ks.length c) ∧ wx.cell? ⟨G + 1, 2, none⟩ = some (.slice B us.length d)) ∧ Below w.heap.size w wx) := Lib.hid (fun wx hb =>
    ⟨⟨(hk1'.below hb hk1'.lt).cell 2, (hk2.below hb hk2.lt).cell 2⟩, bt hb0 hb⟩)
  have HU0 : Hid ((W0.cell? ⟨G, 0, none⟩ = some (.int .i64 o) ∧ W0.cell? ⟨G, 1, none⟩ = some (.int .i64 v)) ∧ W0.cell? ⟨G + 1, 0, none⟩ = some (.int .i64 o) ∧ W0.cell? ⟨G + 1, 1, none⟩ = some (.int .i64 v)) := Lib.hid ⟨⟨hk1'.cell 0, hk1'.cell 1⟩, hk2.cell 0, hk2.cell 1⟩
  have HW0 := Lib.hid hW0
  have HG := Lib.hid hG
  obtain ⟨R, hR⟩ : ∃ R, smL ks us = R := ⟨_, rfl⟩
  have HR0 : Hid (smL (ks.drop 0) (us.drop 0) = R) := Lib.hid hR
  rw [hR]
  have hne : ((ks.length : Int) != (us.length : Int)) = false := by simp [hl]
  have hne2 : ((ks.length : Int) == (us.length : Int)) = true := by simp [hl]
  have hle : ks.length ≤ us.length := by omega
  clear hR hA hB hS hk1 hk2 hba hbb hz1 hW0 hk1' hb0 hG hl hne2
  go_enter Try.func10, Try.ntmps10
  go_upto_region 1 with (fail)
  rw [HW0.out, HG.out]
  obtain ⟨⟨e0, e1⟩, e2, e3⟩ := HU0.out
  obtain ⟨⟨f0, f1⟩, _⟩ := HU.out _ (Below.refl _ _)
  go_wp2
  clear e0 e1 e2 e3 f0 f1
  go_loopw [5] (fun i wr => ∃ k : Nat, k ≤ ks.length ∧ i = .int .i64 (k : Int) ∧ Hid (smL (ks.drop k) (us.drop k) = R) ∧ Hid (Below W0.heap.size W0 wr)) (fun i _ => ks.length - (intOf i).toNat)
  case atStart => exact ⟨0, Nat.zero_le _, rfl, HR0, Lib.hid (Below.refl _ _)⟩
  case round =>
    obtain ⟨k, hk, rfl, HV, HW⟩ := hrel
    obtain ⟨⟨f0, f1⟩, hbw⟩ := HU.out _ HW.out
    have hk0 : (0 : Int) ≤ (k : Int) := by omega
    by_cases hlt : k < ks.length
    · have hlt2 : k < us.length := by omega
      have h1 : (k : Int) < (ks.length : Int) := by omega
      have h2 : (k : Int) < (us.length : Int) := by omega
      obtain ⟨b, g0, rfl, hb, hc⟩ := HA.out.out (show 0 < ks.length by omega)
      obtain ⟨b2, g2, rfl, hb2, hc2⟩ := HB.out.out (show 0 < us.length by omega)
      obtain ⟨ka, kc, c0, c1, c2, hRk⟩ := hc k hlt
      obtain ⟨kb, kd2, q0, q1, q2, hRk2⟩ := hc2 k hlt2
      have d0 := (hbw.cell (p := ⟨b, g0 + k * 3, none⟩) hb).trans c0
      have d1 := (hbw.cell (p := ⟨b, g0 + k * 3 + 1, none⟩) hb).trans c1
      have d2 := (hbw.cell (p := ⟨b, g0 + k * 3 + 2, none⟩) hb).trans c2
      have d3 := (hbw.cell (p := ⟨b2, g2 + k * 3, none⟩) hb2).trans q0
      have d4 := (hbw.cell (p := ⟨b2, g2 + k * 3 + 1, none⟩) hb2).trans q1
      have d5 := (hbw.cell (p := ⟨b2, g2 + k * 3 + 2, none⟩) hb2).trans q2
      have hst := smL_step hlt hlt2
      rw [HV.out] at hst
      have HC : Hid (Calls Try.prog 10 #[exV (kd ks k) ka kc, exV (kd us k) kb kd2] wr.drew (ValP wr.drew (sm (kd ks k) (kd us k)))) := Lib.hid (HS.out k hlt ka kc kb kd2 wr.drew ((hRk.step hbw).step (Below.refl _ _).drew) ((hRk2.step hbw).step (Below.refl _ _).drew))
      obtain ⟨q, hq⟩ : ∃ q, sm (kd ks k) (kd us k) = q := ⟨_, rfl⟩
      rw [hq] at HC hst
      have HST := Lib.hid hst
      have hlb : b < wr.heap.size := Nat.lt_of_lt_of_le hb hbw.size
      have hlb2 : b2 < wr.heap.size := Nat.lt_of_lt_of_le hb2 hbw.size
      have HKK : Hid (∀ wx, Below wr.heap.size wr wx → (wx.cell? ⟨G, 2, none⟩ = some (.slice (some ⟨b, g0, none⟩) ks.length c) ∧ wx.cell? ⟨G + 1, 2, none⟩ = some (.slice (some ⟨b2, g2, none⟩) us.length d)) ∧
          (wx.cell? ⟨b, g0 + k * 3, none⟩ = some (.int .i64 (kd ks k).op) ∧ wx.cell? ⟨b, g0 + k * 3 + 1, none⟩ = some (.int .i64 (kd ks k).vr) ∧ wx.cell? ⟨b, g0 + k * 3 + 2, none⟩ = some (.slice ka (kd ks k).ks.length kc)) ∧
          wx.cell? ⟨b2, g2 + k * 3, none⟩ = some (.int .i64 (kd us k).op) ∧ wx.cell? ⟨b2, g2 + k * 3 + 1, none⟩ = some (.int .i64 (kd us k).vr) ∧ wx.cell? ⟨b2, g2 + k * 3 + 2, none⟩ = some (.slice kb (kd us k).ks.length kd2)) := Lib.hid (fun wx hx =>
        ⟨(HU.out _ (bt HW.out hx)).1, ⟨(hx.cell (p := ⟨b, g0 + k * 3, none⟩) hlb).trans d0, (hx.cell (p := ⟨b, g0 + k * 3 + 1, none⟩) hlb).trans d1, (hx.cell (p := ⟨b, g0 + k * 3 + 2, none⟩) hlb).trans d2⟩,
          (hx.cell (p := ⟨b2, g2 + k * 3, none⟩) hlb2).trans d3, (hx.cell (p := ⟨b2, g2 + k * 3 + 1, none⟩) hlb2).trans d4, (hx.cell (p := ⟨b2, g2 + k * 3 + 2, none⟩) hlb2).trans d5⟩)
      have HB00 : Hid (Below wr.heap.size wr wr.drew) := Lib.hid (Below.refl _ _).drew
      clear hst hq hc hc2 c0 c1 c2 q0 q1 q2 hRk hRk2 hb hb2 hbw d0 d1 d2 d3 d4 d5 hlb hlb2
      generalize kd ks k = x1 at *
      generalize kd us k = x2 at *
      cases q
      · have X : Hid (R = false) := Lib.hid HST.out
        go_upto_region 6 with (fail)
        go_region_held3 (fun wx => (wx.cell? ⟨G, 2, none⟩ = some (.slice (some ⟨b, g0, none⟩) ks.length c) ∧ wx.cell? ⟨G + 1, 2, none⟩ = some (.slice (some ⟨b2, g2, none⟩) us.length d)) ∧
          (wx.cell? ⟨b, g0 + k * 3, none⟩ = some (.int .i64 x1.op) ∧ wx.cell? ⟨b, g0 + k * 3 + 1, none⟩ = some (.int .i64 x1.vr) ∧ wx.cell? ⟨b, g0 + k * 3 + 2, none⟩ = some (.slice ka x1.ks.length kc)) ∧
          wx.cell? ⟨b2, g2 + k * 3, none⟩ = some (.int .i64 x2.op) ∧ wx.cell? ⟨b2, g2 + k * 3 + 1, none⟩ = some (.int .i64 x2.vr) ∧ wx.cell? ⟨b2, g2 + k * 3 + 2, none⟩ = some (.slice kb x2.ks.length kd2)) (first
          | exact HKK.out _ HB2.out
          | exact HKK.out _ HB00.out) ((go_at_call 10; (with_reducible refine (HC.out).mono ?_); rintro e w2 ⟨rfl, hb2⟩; have HB2 := Lib.hid (bt HB00.out hb2); clear hb2))
        all_goals go_wp2
        all_goals (go_ret; exact ⟨by rw [X.out]; rfl, (HU.out _ (bt HW.out HB2.out)).2⟩)
      · have X : Hid (smL (ks.drop (k + 1)) (us.drop (k + 1)) = R) := Lib.hid (by have := HST.out; simpa using this.symm)
        go_upto_region 6 with (fail)
        go_region_held3 (fun wx => (wx.cell? ⟨G, 2, none⟩ = some (.slice (some ⟨b, g0, none⟩) ks.length c) ∧ wx.cell? ⟨G + 1, 2, none⟩ = some (.slice (some ⟨b2, g2, none⟩) us.length d)) ∧
          (wx.cell? ⟨b, g0 + k * 3, none⟩ = some (.int .i64 x1.op) ∧ wx.cell? ⟨b, g0 + k * 3 + 1, none⟩ = some (.int .i64 x1.vr) ∧ wx.cell? ⟨b, g0 + k * 3 + 2, none⟩ = some (.slice ka x1.ks.length kc)) ∧
          wx.cell? ⟨b2, g2 + k * 3, none⟩ = some (.int .i64 x2.op) ∧ wx.cell? ⟨b2, g2 + k * 3 + 1, none⟩ = some (.int .i64 x2.vr) ∧ wx.cell? ⟨b2, g2 + k * 3 + 2, none⟩ = some (.slice kb x2.ks.length kd2)) (first
          | exact HKK.out _ HB2.out
          | exact HKK.out _ HB00.out) ((go_at_call 10; (with_reducible refine (HC.out).mono ?_); rintro e w2 ⟨rfl, hb2⟩; have HB2 := Lib.hid (bt HB00.out hb2); clear hb2))
        all_goals go_wp2
        all_goals exact ⟨⟨k + 1, by omega, by go_num, X, Lib.hid (bt HW.out HB2.out)⟩, by simp [intOf]; omega⟩
    · have X : Hid (R = true) := Lib.hid (by
        have := HV.out
        have h5 := HHL.out
        rw [List.drop_of_length_le (by omega), List.drop_of_length_le (by omega)] at this
        rw [← this]; rfl)
      clear hbw
      go_wp2
      go_ret
      exact ⟨by rw [X.out]; rfl, (HU.out _ HW.out).2⟩
set_option maxRecDepth 100000 in
set_option maxHeartbeats 4000000 in
theorem rf_Same : ∀ (n : Nat) (t : Ex), t.sz ≤ n → n ≤ 100000000 → ∀ (u : Ex), u.sz ≤ 100000000 → ∀ (A B : Option Addr) (c d : Nat) (w : World), Rep w.heap.size w A t → Rep w.heap.size w B u →
    Calls Try.prog 10 #[exV t A c, exV u B d] w (ValP w (sm t u)) := by
  intro n
  induction n with
  | zero => intro t h; have := sz_eq t; omega
  | succ n ih =>
    intro t ht hn u hu A B c d w hA hB
    have h1 := szL_len t.ks
    have h2 := sz_eq t
    have h3 := szL_len u.ks
    have h4 := sz_eq u
    have HS : Hid (SamH 10 t.ks u.ks) := Lib.hid (fun i hi A c B d w ha hb => by
      have := kd_sz hi
      by_cases hj : i < u.ks.length
      · have := kd_sz hj
        exact ih (kd t.ks i) (by omega) (by omega) (kd u.ks i) (by omega) A B c d w ha hb
      · have e : kd u.ks i = ex0 := by unfold kd; rw [List.getD, List.getElem?_eq_none (by omega)]; rfl
        exact ih (kd t.ks i) (by omega) (by omega) (kd u.ks i) (by rw [e]; decide) A B c d w ha hb)
    have HAL : Hid (∀ o1 o2, Below w.heap.size w ((w.alloc o1).alloc o2)) := Lib.hid (fun o1 o2 => bt (bal _ _) (bal _ _))
    obtain ⟨R, hR⟩ : ∃ R, sm t u = R := ⟨_, rfl⟩
    rw [hR]
    rw [sm_eq] at hR
    have hlt : t.ks.length ≤ 1000000000 := by omega
    have hlu : u.ks.length ≤ 1000000000 := by omega
    clear h1 h2 h3 h4 ih ht hu hn
    obtain ⟨o, v, ks⟩ := t
    obtain ⟨o', v', us⟩ := u
    have hR' : (o == o' && (v == v' && smL ks us)) = R := hR
    have hlk : ks.length ≤ 1000000000 := hlt
    have hlu' : us.length ≤ 1000000000 := hlu
    clear hR hlt hlu
    show Calls Try.prog 10 #[.agg #[.int .i64 o, .int .i64 v, .slice A ks.length c], .agg #[.int .i64 o', .int .i64 v', .slice B us.length d]] w (ValP w R)
    by_cases ho : o = o'
    · subst ho
      by_cases hv : v = v'
      · subst hv
        by_cases hl : ks.length = us.length
        · have e : smL ks us = R := by rw [← hR']; simp
          rw [← e]
          exact rf_Same_in o v ks us A B c d w hA hB hl hlk HS.out
        · have hne : ((ks.length : Int) != (us.length : Int)) = true := by simp; omega
          have X : Hid (R = false) := Lib.hid (by rw [← hR', smL_len hl]; simp)
          clear hR' hl hA hB
          go_enter Try.func10, Try.ntmps10
          go_wp2
          go_ret
          exact ⟨by rw [X.out]; rfl, HAL.out _ _⟩
      · have hv1 : (v == v') = false := by simp [hv]
        have hv2 : (v != v') = true := by simp [hv]
        have X : Hid (R = false) := Lib.hid (by rw [← hR', hv1]; simp)
        clear hR' hv hA hB
        go_enter Try.func10, Try.ntmps10
        go_wp2
        go_ret
        exact ⟨by rw [X.out]; rfl, HAL.out _ _⟩
    · have ho1 : (o == o') = false := by simp [ho]
      have ho2 : (o != o') = true := by simp [ho]
      have X : Hid (R = false) := Lib.hid (by rw [← hR', ho1]; simp)
      clear hR' ho hA hB
      go_enter Try.func10, Try.ntmps10
      go_wp2
      go_ret
      exact ⟨by rw [X.out]; rfl, HAL.out _ _⟩
end Go.Proofs.Ytipapemcedkinaa
