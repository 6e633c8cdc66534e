/- The contract of the specification's Eval, of layer 30 (terms). -/
import Derived.Test.YtcdpjodnbegepaaVq
import Derived.Test.YtcdpjodnbegepaaWk2
namespace Go.Proofs.Ytcdpjodnbegepaa
open Go.RowKit

theorem with_err {n : Int} {b : Bool} (h : (withS n b).2 ≠ 0) : (withS n b).1 = 0 := by
  cases b
  · rfl
  · exact absurd rfl h
theorem valN_err {vs : List Vr} {s n : List Int} {t : Ex} {l : List Int} (h : (valN vs s n t l).2 ≠ 0) : (valN vs s n t l).1 = 0 := by
  unfold valN at h ⊢
  by_cases g : (if t.op = 4 then n else s).length ≠ vs.length
  · rw [if_pos g]
  rw [if_neg g] at h ⊢
  by_cases g2 : t.op = 3 ∨ t.op = 4
  · rw [if_pos g2] at h ⊢
    cases hi : idxN t.nm vs with
    | none => rfl
    | some i =>
      rw [hi] at h
      have h2 : (vvS (va vs i) (li (if t.op = 4 then n else s) i)).2 ≠ 0 := h
      show (vvS (va vs i) (li (if t.op = 4 then n else s) i)).1 = 0
      unfold vvS at h2 ⊢
      by_cases g3 : (va vs i).b = true
      · rw [if_pos g3] at h2; exact absurd rfl h2
      · rw [if_neg g3] at h2 ⊢; exact with_err h2
  rw [if_neg g2] at h ⊢
  by_cases g3 : t.op = 17
  · rw [if_pos g3] at h; exact absurd rfl h
  rw [if_neg g3] at h ⊢
  unfold valS at h ⊢
  by_cases g4 : t.op = 1 ∨ t.op = 2
  · rw [if_pos g4] at h; exact absurd rfl h
  rw [if_neg g4] at h ⊢
  by_cases g5 : t.op = 14 ∨ t.op = 15 ∨ t.op = 16
  · rw [if_pos g5] at h ⊢; exact with_err h
  rw [if_neg g5] at h
  by_cases g6 : t.op = 18
  · rw [if_pos g6] at h; exact absurd rfl h
  · rw [if_neg g6] at h; exact absurd rfl h
mutual
theorem fdV_err (vs : List Vr) (s n : List Int) : ∀ t : Ex, (fd (0 : Int) (valN vs s n) t).2 ≠ 0 → (fd (0 : Int) (valN vs s n) t).1 = 0
  | .mk o v m ks, h => by
    rw [fd_eq] at h ⊢
    have hk := fdVL_err vs s n ks
    by_cases g : (fdL (0 : Int) (valN vs s n) ks).2 = 0
    · have e : (fdL (0 : Int) (valN vs s n) (Ex.mk o v m ks).ks).2 = 0 := g
      rw [if_pos e] at h ⊢
      exact valN_err h
    · have e : ¬ (fdL (0 : Int) (valN vs s n) (Ex.mk o v m ks).ks).2 = 0 := g
      rw [if_neg e]
      exact hk g
theorem fdVL_err (vs : List Vr) (s n : List Int) : ∀ ks : List Ex, (fdL (0 : Int) (valN vs s n) ks).2 ≠ 0 → (fdL (0 : Int) (valN vs s n) ks).1.2 = 0
  | [], h => absurd rfl h
  | t :: r, h => by
    by_cases g : (fd (0 : Int) (valN vs s n) t).2 = 0
    · have e : fdL (0 : Int) (valN vs s n) (t :: r) = (((fd (0 : Int) (valN vs s n) t).1 :: (fdL (0 : Int) (valN vs s n) r).1.1, (fdL (0 : Int) (valN vs s n) r).1.2), (fdL (0 : Int) (valN vs s n) r).2) := if_pos g
      rw [e] at h ⊢
      exact fdVL_err vs s n r h
    · have e : fdL (0 : Int) (valN vs s n) (t :: r) = (([], (fd (0 : Int) (valN vs s n) t).1), (fd (0 : Int) (valN vs s n) t).2) := if_neg g
      rw [e]
      exact fdV_err vs s n t g
end
theorem stL_ex : ∀ {l : List Ex}, stL l = true → ∃ k, k < l.length ∧ stE (kd l k) = true
  | [], h => by cases h
  | a :: r, h => by
    have h2 : (stE a || stL r) = true := h
    cases g : stE a with
    | true => exact ⟨0, by simp, g⟩
    | false =>
      rw [g, Bool.false_or] at h2
      obtain ⟨k, hk, e⟩ := stL_ex h2
      exact ⟨k + 1, by simpa using hk, by simpa [kd] using e⟩
theorem st_len {vs : List Vr} {s n : List Int} : ∀ (N : Nat) t, t.sz ≤ N → (fd (0 : Int) (valN vs s n) t).2 = 0 → stE t = true → n.length = vs.length := by
  intro N
  induction N with
  | zero => intro t h; have := sz_eq t; omega
  | succ N ih =>
    intro t hsz h hst
    obtain ⟨L, hL, e, _⟩ := val_node h
    rw [stE_eq] at hst
    by_cases o : t.op = 4
    · by_cases g : n.length = vs.length
      · exact g
      · have e2 : valN vs s n t L = (0, 21) := by unfold valN; rw [if_pos o, if_pos g]
        rw [e, e2] at h
        have h3 : (21 : Int) = 0 := h
        omega
    · have g : (t.op == 4) = false := by simp [o]
      rw [g, Bool.false_or] at hst
      obtain ⟨k, hk, hk2⟩ := stL_ex hst
      have := sz_eq t
      exact ih (kd t.ks k) (by have := kd_sz hk; omega) (fdL_zero (by rw [hL]) _ (kd_mem hk)) hk2
theorem evS_no {vs : List Vr} {t : Ex} {s n : List Int} (h : ¬ ((typS vs true t).2 = 0 ∧ s.length = vs.length)) : evS vs t s n = (0, false) := if_neg h
theorem evS_err {vs : List Vr} {t : Ex} {s n : List Int} (h : (fd (0 : Int) (valN vs s n) t).2 ≠ 0) : evS vs t s n = (0, false) := by
  unfold evS
  split
  · rw [fdV_err vs s n t h, show ((fd (0 : Int) (valN vs s n) t).2 == 0) = false from (by simp [h])]
  · rfl
theorem evS_st {vs : List Vr} {t : Ex} {s n : List Int} (h : stE t = true) (hn : n.length ≠ vs.length) : evS vs t s n = (0, false) :=
  evS_err (fun h0 => hn (st_len t.sz t (Nat.le_refl _) h0 h))
theorem evS_yes {vs : List Vr} {t : Ex} {s n : List Int} (h1 : (typS vs true t).2 = 0) (h2 : s.length = vs.length) (h : (fd (0 : Int) (valN vs s n) t).2 = 0) : evS vs t s n = ((fd (0 : Int) (valN vs s n) t).1, true) := by
  unfold evS
  rw [if_pos ⟨h1, h2⟩, h]
  rfl
def EvP (R : Int × Bool) (w : World) (e : Ending) (w' : World) : Prop := e = .returned (.tuple #[.int .i64 R.1, .bool R.2]) ∧ Below w.heap.size w w'
set_option maxRecDepth 100000 in
set_option maxHeartbeats 4000000 in
theorem rf_Eval (vs : List Vr) (V : Option Addr) (cv : Nat) (t : Ex) (A : Option Addr) (c : Nat) (s n : List Int) (Sa Na : Option Addr) (cs cn : Nat) (w : World) (hV : Vars w.heap.size w V vs) (hvl : vs.length ≤ 1000000000) (hR : Rep w.heap.size w A t) (hs : t.sz ≤ 100000000)
    (hS : RI w w.heap.size Sa s) (hN : RI w w.heap.size Na n) :
    Calls Try.prog 23 #[.slice V vs.length cv, exV t A c, .slice Sa s.length cs, .slice Na n.length cn] w (EvP (evS vs t s n) w) := by
  obtain ⟨W, hW⟩ : ∃ W, w.alloc (.cells #[.int .i64 t.op, .int .i64 t.vr, .string t.nm, .slice A t.ks.length c] 24) = W := ⟨_, rfl⟩
  have hX := lawBox t A c w hR
  rw [hW] at hX
  have hWs : W.heap.size = w.heap.size + 1 := by rw [← hW]; simp
  rw [← hWs] at hX
  have HX := Lib.hid hX
  obtain ⟨⟨q0, q1, q2, q3⟩, hR0, hB0, ql⟩ := hX W (Below.refl _ _)
  have HTP : Hid (Calls Try.prog 21 #[.slice V vs.length cv, exV t A c, .bool true] W (TyE (typS vs true t) W)) := Lib.hid (rf_Type vs V cv t A c true W (hV.step hB0) hvl hR0 hs)
  have HST : Hid (∀ w1, Below W.heap.size W w1 → Calls Try.prog 52 #[exV t A c] w1 fun e w' => e = .returned (.bool (stE t)) ∧ Below w1.heap.size w1 w') := Lib.hid (fun w1 hb => rf_Steps t.sz t (Nat.le_refl _) hs A c w1 (hX w1 hb).2.1)
  have HVL : Hid ((typS vs true t).2 = 0 → s.length = vs.length → (stE t = true → n.length = vs.length) → ∀ w1, Below W.heap.size W w1 → Calls Try.prog 53 #[.slice V vs.length cv, exV t A c, .slice Sa s.length cs, .slice Na n.length cn] w1 (VlP (fd (0 : Int) (valN vs s n) t) w1)) := Lib.hid (fun h1 h2 h3 w1 hb => by
    obtain ⟨_, hR1, hB1, _⟩ := hX w1 hb
    exact rf_value vs V cv s n Sa Na cs cn hvl h2 t.sz t (Nat.le_refl _) hs (typS_ok h1) h3 A c w1 (hV.step hB1) (hS.step hB1) (hN.step hB1) hR1)
  have HE1 : Hid (¬ ((typS vs true t).2 = 0 ∧ s.length = vs.length) → evS vs t s n = (0, false)) := Lib.hid evS_no
  have HE2 : Hid (stE t = true → n.length ≠ vs.length → evS vs t s n = (0, false)) := Lib.hid evS_st
  have HE3 : Hid ((fd (0 : Int) (valN vs s n) t).2 ≠ 0 → evS vs t s n = (0, false)) := Lib.hid evS_err
  have HE4 : Hid ((typS vs true t).2 = 0 → s.length = vs.length → (fd (0 : Int) (valN vs s n) t).2 = 0 → evS vs t s n = ((fd (0 : Int) (valN vs s n) t).1, true)) := Lib.hid evS_yes
  obtain ⟨R, hRr⟩ : ∃ R, evS vs t s n = R := ⟨_, rfl⟩
  rw [hRr] at HE1 HE2 HE3 HE4 ⊢
  obtain ⟨T, hT⟩ : ∃ T, typS vs true t = T := ⟨_, rfl⟩
  rw [hT] at HTP HVL HE1 HE4
  obtain ⟨⟨Tb, Tl, Th⟩, Te⟩ := T
  obtain ⟨F, hF⟩ : ∃ F, fd (0 : Int) (valN vs s n) t = F := ⟨_, rfl⟩
  rw [hF] at HVL HE3 HE4
  obtain ⟨S, hSt⟩ : ∃ S, stE t = S := ⟨_, rfl⟩
  rw [hSt] at HST HVL HE2
  have HWW := Lib.hid hW
  show Calls Try.prog 23 #[.slice V vs.length cv, .agg #[.int .i64 t.op, .int .i64 t.vr, .string t.nm, .slice A t.ks.length c], .slice Sa s.length cs, .slice Na n.length cn] w _
  clear hX hW hV hvl hR hs hS hN hRr hT hF hSt hWs hR0 hB0
  by_cases h0 : Te = 0
  · subst h0
    by_cases hss : s.length = vs.length
    · cases S
      · have HV4 := Lib.hid (HVL.out rfl hss (fun h => by cases h))
        have HE5 := Lib.hid (HE4.out rfl hss)
        rw [hss] at HV4 ⊢
        clear HVL HE1 HE2 HE4 hss
        by_cases f0 : F.2 = 0
        · obtain rfl := HE5.out f0
          go_enter Try.func23, Try.ntmps23
          go_upto_region 1 with (go_at_call 999)
          rw [HWW.out]
          go_wp2_with (first
            | (go_at_call 21; (with_reducible refine HTP.out.mono ?_); rintro e w1 ⟨rfl, hb1⟩; have hb1a := hb1.alloc hb1.size (.cells #[.bool Tb, .int .i64 Tl, .int .i64 Th] 39); obtain ⟨⟨s0, s1, s2, s3⟩, _, _, s4⟩ := HX.out _ hb1; have HB1 := Lib.hid hb1a; clear hb1 hb1a)
            | (go_at_call 52; (with_reducible refine (HST.out _ HB1.out).mono ?_); rintro e w2 ⟨rfl, hb2⟩; have hb2a := HB1.out.trans (hb2.mono HB1.out.size); obtain ⟨⟨t0, t1, t2, t3⟩, _, _, t4⟩ := HX.out _ hb2a; have HB2 := Lib.hid hb2a; clear hb2 hb2a)
            | (go_at_call 53; (with_reducible refine (HV4.out _ HB2.out).mono ?_); intro e w3 hvp; obtain ⟨rfl, hb3⟩ := hvp.ok f0; have HB3 := Lib.hid (HB2.out.trans (hb3.mono HB2.out.size)); clear hvp hb3))
          go_ret2
          exact ⟨rfl, (HX.out _ HB3.out).2.2.1⟩
        · obtain rfl := HE3.out f0
          go_enter Try.func23, Try.ntmps23
          go_upto_region 1 with (go_at_call 999)
          rw [HWW.out]
          go_wp2_with (first
            | (go_at_call 21; (with_reducible refine HTP.out.mono ?_); rintro e w1 ⟨rfl, hb1⟩; have hb1a := hb1.alloc hb1.size (.cells #[.bool Tb, .int .i64 Tl, .int .i64 Th] 39); obtain ⟨⟨s0, s1, s2, s3⟩, _, _, s4⟩ := HX.out _ hb1; have HB1 := Lib.hid hb1a; clear hb1 hb1a)
            | (go_at_call 52; (with_reducible refine (HST.out _ HB1.out).mono ?_); rintro e w2 ⟨rfl, hb2⟩; have hb2a := HB1.out.trans (hb2.mono HB1.out.size); obtain ⟨⟨t0, t1, t2, t3⟩, _, _, t4⟩ := HX.out _ hb2a; have HB2 := Lib.hid hb2a; clear hb2 hb2a)
            | (go_at_call 53; (with_reducible refine (HV4.out _ HB2.out).mono ?_); intro e w3 hvp; obtain ⟨v3, rfl, hb3⟩ := hvp.no f0; have HB3 := Lib.hid (HB2.out.trans (hb3.mono HB2.out.size)); clear hvp hb3))
          go_ret2
          exact ⟨rfl, (HX.out _ HB3.out).2.2.1⟩
      · by_cases hnn : n.length = vs.length
        · have HV4 := Lib.hid (HVL.out rfl hss (fun _ => hnn))
          have HE5 := Lib.hid (HE4.out rfl hss)
          rw [hss, hnn] at HV4
          rw [hss, hnn]
          clear HVL HE1 HE2 HE4 hss hnn
          by_cases f0 : F.2 = 0
          · obtain rfl := HE5.out f0
            go_enter Try.func23, Try.ntmps23
            go_upto_region 1 with (go_at_call 999)
            rw [HWW.out]
            go_wp2_with (first
              | (go_at_call 21; (with_reducible refine HTP.out.mono ?_); rintro e w1 ⟨rfl, hb1⟩; have hb1a := hb1.alloc hb1.size (.cells #[.bool Tb, .int .i64 Tl, .int .i64 Th] 39); obtain ⟨⟨s0, s1, s2, s3⟩, _, _, s4⟩ := HX.out _ hb1; have HB1 := Lib.hid hb1a; clear hb1 hb1a)
              | (go_at_call 52; (with_reducible refine (HST.out _ HB1.out).mono ?_); rintro e w2 ⟨rfl, hb2⟩; have hb2a := HB1.out.trans (hb2.mono HB1.out.size); obtain ⟨⟨t0, t1, t2, t3⟩, _, _, t4⟩ := HX.out _ hb2a; have HB2 := Lib.hid hb2a; clear hb2 hb2a)
              | (go_at_call 53; (with_reducible refine (HV4.out _ HB2.out).mono ?_); intro e w3 hvp; obtain ⟨rfl, hb3⟩ := hvp.ok f0; have HB3 := Lib.hid (HB2.out.trans (hb3.mono HB2.out.size)); clear hvp hb3))
            go_ret2
            exact ⟨rfl, (HX.out _ HB3.out).2.2.1⟩
          · obtain rfl := HE3.out f0
            go_enter Try.func23, Try.ntmps23
            go_upto_region 1 with (go_at_call 999)
            rw [HWW.out]
            go_wp2_with (first
              | (go_at_call 21; (with_reducible refine HTP.out.mono ?_); rintro e w1 ⟨rfl, hb1⟩; have hb1a := hb1.alloc hb1.size (.cells #[.bool Tb, .int .i64 Tl, .int .i64 Th] 39); obtain ⟨⟨s0, s1, s2, s3⟩, _, _, s4⟩ := HX.out _ hb1; have HB1 := Lib.hid hb1a; clear hb1 hb1a)
              | (go_at_call 52; (with_reducible refine (HST.out _ HB1.out).mono ?_); rintro e w2 ⟨rfl, hb2⟩; have hb2a := HB1.out.trans (hb2.mono HB1.out.size); obtain ⟨⟨t0, t1, t2, t3⟩, _, _, t4⟩ := HX.out _ hb2a; have HB2 := Lib.hid hb2a; clear hb2 hb2a)
              | (go_at_call 53; (with_reducible refine (HV4.out _ HB2.out).mono ?_); intro e w3 hvp; obtain ⟨v3, rfl, hb3⟩ := hvp.no f0; have HB3 := Lib.hid (HB2.out.trans (hb3.mono HB2.out.size)); clear hvp hb3))
            go_ret2
            exact ⟨rfl, (HX.out _ HB3.out).2.2.1⟩
        · obtain rfl := HE2.out rfl hnn
          have g1 : ((n.length : Int) == (vs.length : Int)) = false := by simp; omega
          have g2 : ((n.length : Int) != (vs.length : Int)) = true := by simp; omega
          rw [hss]
          clear HVL HE1 HE2 HE3 HE4 hss hnn
          go_enter Try.func23, Try.ntmps23
          go_upto_region 1 with (go_at_call 999)
          rw [HWW.out]
          go_wp2_with (first
            | (go_at_call 21; (with_reducible refine HTP.out.mono ?_); rintro e w1 ⟨rfl, hb1⟩; have hb1a := hb1.alloc hb1.size (.cells #[.bool Tb, .int .i64 Tl, .int .i64 Th] 39); obtain ⟨⟨s0, s1, s2, s3⟩, _, _, s4⟩ := HX.out _ hb1; have HB1 := Lib.hid hb1a; clear hb1 hb1a)
            | (go_at_call 52; (with_reducible refine (HST.out _ HB1.out).mono ?_); rintro e w2 ⟨rfl, hb2⟩; have hb2a := HB1.out.trans (hb2.mono HB1.out.size); obtain ⟨⟨t0, t1, t2, t3⟩, _, _, t4⟩ := HX.out _ hb2a; have HB2 := Lib.hid hb2a; clear hb2 hb2a))
          go_ret2
          exact ⟨rfl, (HX.out _ HB2.out).2.2.1⟩
    · obtain rfl := HE1.out (fun h => hss h.2)
      have g1 : ((s.length : Int) == (vs.length : Int)) = false := by simp; omega
      have g2 : ((s.length : Int) != (vs.length : Int)) = true := by simp; omega
      clear HVL HE1 HE2 HE3 HE4 hss HST
      go_enter Try.func23, Try.ntmps23
      go_upto_region 1 with (go_at_call 999)
      rw [HWW.out]
      go_wp2_with (go_at_call 21; (with_reducible refine HTP.out.mono ?_); rintro e w1 ⟨rfl, hb1⟩; have hb1a := hb1.alloc hb1.size (.cells #[.bool Tb, .int .i64 Tl, .int .i64 Th] 39); obtain ⟨⟨s0, s1, s2, s3⟩, _, _, s4⟩ := HX.out _ hb1; have HB1 := Lib.hid hb1a; clear hb1 hb1a)
      go_ret2
      exact ⟨rfl, (HX.out _ HB1.out).2.2.1⟩
  · obtain rfl := HE1.out (fun h => h0 h.1)
    have g1 : (Te == 0) = false := by simp [h0]
    have g2 : (Te != 0) = true := by simp [h0]
    clear HVL HE1 HE2 HE3 HE4 h0 HST
    go_enter Try.func23, Try.ntmps23
    go_upto_region 1 with (go_at_call 999)
    rw [HWW.out]
    go_wp2_with (go_at_call 21; (with_reducible refine HTP.out.mono ?_); rintro e w1 ⟨rfl, hb1⟩; have hb1a := hb1.alloc hb1.size (.cells #[.bool Tb, .int .i64 Tl, .int .i64 Th] 39); obtain ⟨⟨s0, s1, s2, s3⟩, _, _, s4⟩ := HX.out _ hb1; have HB1 := Lib.hid hb1a; clear hb1 hb1a)
    go_ret2
    exact ⟨rfl, (HX.out _ HB1.out).2.2.1⟩
end Go.Proofs.Ytcdpjodnbegepaa
