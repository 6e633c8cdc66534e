/- The contract of the specification's value, of layer 30 (terms). -/
import Derived.Test.YtcdpjodnbegepaaVp
namespace Go.Proofs.Ytcdpjodnbegepaa
open Go.RowKit

theorem VlP.ok {R : Int × Int} {w w' : World} {e : Ending} (h : VlP R w e w') (h0 : R.2 = 0) : e = .returned (.tuple #[.int .i64 R.1, .bool true]) ∧ Below w.heap.size w w' := by
  obtain ⟨v, rfl, hv, hb⟩ := h
  rw [hv h0, h0]
  exact ⟨rfl, hb⟩
theorem VlP.no {R : Int × Int} {w w' : World} {e : Ending} (h : VlP R w e w') (h0 : R.2 ≠ 0) : ∃ v, e = .returned (.tuple #[.int .i64 v, .bool false]) ∧ Below w.heap.size w w' := by
  obtain ⟨v, rfl, _, hb⟩ := h
  exact ⟨v, by rw [show (R.2 == 0) = false from (by simp [h0])], hb⟩
theorem cells_oneV (w : World) (t : TypeId) (x : Value) : ∀ j u, [x][j]? = some u → (w.alloc (.cells #[x] t)).cell? ((⟨w.heap.size, 0, none⟩ : Addr).add j) = some u := by
  intro j u hj
  rw [addr_j, (Blk.new w t #[x]).cell j]
  simpa using hj
def sumS (o : Int) (l : List Int) : Int := if o = 6 ∨ o = 7 then smL l else 0
theorem sumS_pos {o : Int} {l : List Int} (h : o = 6 ∨ o = 7) : sumS o l = smL l := if_pos h
theorem sumS_neg {o : Int} {l : List Int} (h : ¬ (o = 6 ∨ o = 7)) : sumS o l = 0 := if_neg h
theorem sumS_nil {o : Int} : sumS o [] = 0 := by unfold sumS; split <;> rfl
theorem smL_near : ∀ {l : List Int}, (∀ y, y ∈ l → NearV y) → -(9007199254740992 * (l.length : Int)) ≤ smL l ∧ smL l ≤ 9007199254740992 * (l.length : Int)
  | [], _ => by simp [smL]
  | a :: r, h => by
    have h1 := h a (by simp)
    have h2 := smL_near (l := r) (fun y hy => h y (by simp [hy]))
    unfold NearV at h1
    simp only [smL, List.length_cons]
    omega
set_option maxRecDepth 100000 in
set_option maxHeartbeats 16000000 in
theorem rf_value (vs : List Vr) (V : Option Addr) (cv : Nat) (s n : List Int) (Sa Na : Option Addr) (cs cn : Nat) (hvl : vs.length ≤ 1000000000) (hss : s.length = vs.length) : ∀ (N : Nat) t, t.sz ≤ N → N ≤ 100000000 → okE vs t → (stE t = true → n.length = vs.length) → ∀ A c w, Vars w.heap.size w V vs → RI w w.heap.size Sa s → RI w w.heap.size Na n → Rep w.heap.size w A t →
    Calls Try.prog 53 #[.slice V vs.length cv, exV t A c, .slice Sa s.length cs, .slice Na n.length cn] w (VlP (fd (0 : Int) (valN vs s n) t) w) := by
  intro N
  induction N with
  | zero => intro t h; have := sz_eq t; omega
  | succ N ih =>
    intro t ht hn hok hst A c w hV hS hNn hR
    by_cases ho : t.op ≤ 4
    · exact rf_value_leaf vs V cv t A c s n Sa Na cs cn w hV hvl hS hNn hss (fun h => hst (by rw [stE_eq, h]; rfl)) hok ho
    have HB : Hid (∀ ob, Below w.heap.size w (w.alloc ob)) := Lib.hid (fun ob => (Below.refl _ _).alloc (Nat.le_refl _) ob)
    obtain ⟨W, hW⟩ : ∃ W, w.alloc (.cells #[.int .i64 t.op, .int .i64 t.vr, .string t.nm, .slice A t.ks.length c] 24) = W := ⟨_, rfl⟩
    have hBW : Below w.heap.size w W := by rw [← hW]; exact HB.out _
    have hWs : W.heap.size = w.heap.size + 1 := by rw [← hW]; simp
    have hBk : Blk W w.heap.size 24 #[.int .i64 t.op, .int .i64 t.vr, .string t.nm, .slice A t.ks.length c] := by rw [← hW]; exact Blk.new w 24 _
    have HX : Hid (∀ wr, Below W.heap.size W wr → (wr.cell? ⟨w.heap.size, 0, none⟩ = some (.int .i64 t.op) ∧ wr.cell? ⟨w.heap.size, 3, none⟩ = some (.slice A t.ks.length c)) ∧ Below w.heap.size w wr ∧ w.heap.size < wr.heap.size) := Lib.hid (fun wr h => by
      have hk2 := hBk.below h (by omega)
      exact ⟨⟨hk2.cell 0, hk2.cell 3⟩, hBW.trans (h.mono (by omega)), hk2.lt⟩)
    have p0 : W.cell? ⟨w.heap.size, 0, none⟩ = some (.int .i64 t.op) := hBk.cell 0
    have p3 : W.cell? ⟨w.heap.size, 3, none⟩ = some (.slice A t.ks.length c) := hBk.cell 3
    have pl := hBk.lt
    have HWW := Lib.hid hW
    have hlen := szL_len t.ks
    have hszt := sz_eq t
    have hkp := ok_pos hok.1 (by omega)
    have hkb : t.ks.length ≤ 64 := hkp.2.2.2
    have HIH := Lib.hid (fun k (hk : k < t.ks.length) => ih (kd t.ks k) (by have := kd_sz hk; omega) (by omega) (hok.kid _ (kd_mem hk)) (fun h => hst (by rw [stE_eq, stL_true hk h, Bool.or_true])))
    have HR := Lib.hid hR
    have HV := Lib.hid hV
    have HS := Lib.hid hS
    have HNN := Lib.hid hNn
    have HG := Lib.hid hok
    have HSS := Lib.hid hss
    have HKP := Lib.hid hkp
    have HOP : Hid (5 ≤ t.op ∧ t.op ≤ 18) := Lib.hid ⟨by omega, hok.1.node.2.1⟩
    have HFP : Hid (∀ k, k < t.ks.length → (fd (0 : Int) (valN vs s n) (kd t.ks k)).2 = 0 → NearV (fd (0 : Int) (valN vs s n) (kd t.ks k)).1) := Lib.hid (fun k hk h0 => fd_pk (z := (0 : Int)) (nd := valN vs s n) (ok := okE vs) (pk := NearV) (fun t h k hk => h.kid k hk) (fun t l h1 h2 _ h4 => valN_near h1.1 h2 h4) _ (hok.kid _ (kd_mem hk)) h0)
    obtain ⟨R, hRR⟩ : ∃ R, fd (0 : Int) (valN vs s n) t = R := ⟨_, rfl⟩
    rw [hRR]
    have HRR := Lib.hid hRR
    obtain ⟨RL, hRL⟩ : ∃ RL, fdL (0 : Int) (valN vs s n) t.ks = RL := ⟨_, rfl⟩
    have HRL := Lib.hid hRL
    have e1 : (t.op == 1) = false := by simp; omega
    have e2 : (t.op == 2) = false := by simp; omega
    have e3 : (t.op == 3) = false := by simp; omega
    have e4 : (t.op == 4) = false := by simp; omega
    have HO0 : Hid (OwnV (W.alloc (.cells #[] 3)) (w.heap.size + 1) (.slice (some ⟨W.heap.size, 0, none⟩) 0 0) 0 []) := Lib.hid (OwnV.made W _ (by omega))
    have HB0 : Hid (Below W.heap.size W (W.alloc (.cells #[] 3))) := Lib.hid ((Below.refl _ _).alloc (Nat.le_refl _) _)
    have HWS := Lib.hid hWs
    show Calls Try.prog 53 #[.slice V vs.length cv, .agg #[.int .i64 t.op, .int .i64 t.vr, .string t.nm, .slice A t.ks.length c], .slice Sa s.length cs, .slice Na n.length cn] w _
    clear ih hok hst hR hV hS hNn hRR hRL hlen hszt hkp hBW hBk hWs hW ht hn hss ho
    go_enter Try.func53, Try.ntmps53
    go_upto_region 1 with (go_at_call 999)
    rw [HWW.out]
    go_wp2
    go_loopw [12, 13, 14] (fun lv sum i wr => ∃ (k : Nat) (L : List Int), k ≤ t.ks.length ∧ i = .int .i64 (k : Int) ∧ sum = .int .i64 (sumS t.op L) ∧ Hid (L.length = k ∧ Rest (0 : Int) (valN vs s n) L (t.ks.drop k) RL ∧ ∀ y, y ∈ L → NearV y) ∧ Hid (OwnV wr (w.heap.size + 1) lv k L) ∧ Hid (Below W.heap.size W wr)) (fun _ _ i _ => t.ks.length - (intOf i).toNat)
    case atStart => exact ⟨0, [], Nat.zero_le _, rfl, by rw [sumS_nil], Lib.hid ⟨rfl, by show RL = _; rw [← HRL.out]; rfl, fun y hy => by cases hy⟩, HO0, HB0⟩
    case round =>
      obtain ⟨k, L, hk, rfl, rfl, HL, HO, HB1⟩ := hrel
      obtain ⟨⟨q0, q3⟩, hbw, ql⟩ := HX.out _ HB1.out
      obtain ⟨A9, c9, rfl, hT9, _, _⟩ := HO.out.form
      have HBW := Lib.hid hbw
      by_cases hlt : k < t.ks.length
      · have l1 : (k : Int) < (t.ks.length : Int) := by omega
        obtain ⟨b, f0, rfl, hb, hc⟩ := HR.out.out (by omega)
        obtain ⟨ka, kc, c0, c1, c2, c3, hRk⟩ := hc k hlt
        have d0 := (hbw.cell (p := ⟨b, f0 + k * 4, none⟩) hb).trans c0
        have d1 := (hbw.cell (p := ⟨b, f0 + k * 4 + 1, none⟩) hb).trans c1
        have d2 := (hbw.cell (p := ⟨b, f0 + k * 4 + 2, none⟩) hb).trans c2
        have d3 := (hbw.cell (p := ⟨b, f0 + k * 4 + 3, none⟩) hb).trans c3
        have HC := Lib.hid (HIH.out k hlt ka kc wr (HV.out.step hbw) (HS.out.step hbw) (HNN.out.step hbw) (hRk.step hbw))
        obtain ⟨hLk, hrest, hkL⟩ := HL.out
        have HNX := Lib.hid (fun h0 => hrest.next (0 : Int) (valN vs s n) hlt h0)
        have HST := Lib.hid (fun h0 => hrest.stop (0 : Int) (valN vs s n) hlt h0)
        have HPK := Lib.hid (HFP.out k hlt)
        have HKL := Lib.hid hkL
        have HLK := Lib.hid hLk
        have hbd := smL_near hkL
        rw [hLk] at hbd
        have hsz : w.heap.size + 1 ≤ wr.heap.size := ql
        clear hc c0 c1 c2 c3 hRk hbw hLk hrest hkL HL hT9
        generalize fd (0 : Int) (valN vs s n) (kd t.ks k) = Y at *
        generalize kd t.ks k = u at *
        obtain ⟨yv, ye⟩ := Y
        by_cases he : ye = 0
        · subst he
          have hnv : NearV yv := HPK.out rfl
          have X2 : Hid ((L ++ [yv]).length = k + 1 ∧ Rest (0 : Int) (valN vs s n) (L ++ [yv]) (t.ks.drop (k + 1)) RL ∧ ∀ y, y ∈ L ++ [yv] → NearV y) := Lib.hid ⟨by rw [List.length_append, HLK.out]; rfl, HNX.out rfl, fun y hy => by
            rcases List.mem_append.1 hy with h | h
            · exact HKL.out y h
            · rw [List.mem_singleton.1 h]; exact hnv⟩
          have HSM := Lib.hid (smL_snoc L yv)
          unfold NearV at hnv
          have g1 : wrap64 (smL L + yv) = smL L + yv := by unfold wrap64; omega
          have g2 : IntKind.i64.wrap (smL L + yv) = smL L + yv := by rw [IntKind.wrap_i64]; omega
          clear hbd
          by_cases g6 : t.op = 6
          · have G67 : Hid (t.op = 6 ∨ t.op = 7) := Lib.hid (.inl g6)
            rw [sumS_pos G67.out]
            have g6b : (t.op == 6) = true := by simp [g6]
            have g7b : (t.op == 7) = false := by simp [g6]
            clear g6
            go_wp2_with (first
              | (go_at_call 53; (with_reducible refine HC.out.mono ?_); intro e w3 hvp; obtain ⟨rfl, hb3⟩ := hvp.ok rfl; have q0 := (HX.out _ (HB1.out.trans (hb3.mono HB1.out.size))).1.1; have HO3 := Lib.hid ((HO.out.below hb3).below (al (Below.refl _ _) (.cells #[.int .i64 yv] 3))); have HB3 := Lib.hid (HB1.out.trans ((al hb3 (.cells #[.int .i64 yv] 3)).mono HB1.out.size)); have hz3 : w.heap.size + 1 ≤ w3.heap.size := Nat.le_trans hsz hb3.size; clear hb3 hvp)
              | (at_builtin; refine wpList_app_val rfl _ _ rfl _ (w.heap.size + 1) k (.slice A9 k c9) L rfl HO3.out ⟨w3.heap.size, 0, none⟩ yv rfl (cells_oneV _ _ _) (by simp; omega) (by omega) ?_; intro A4 c4 w4 ho4 hb4; have HO4 := Lib.hid ho4; have HB4 := Lib.hid (HB3.out.trans (hb4.mono (by have := HB3.out.size; have := HWS.out; omega))); have q04 := (HX.out _ HB4.out).1.1; have ql4 := (HX.out _ HB4.out).2.2; clear ho4 hb4))
            go_roundw
            case rel => exact ⟨k + 1, L ++ [yv], by omega, by go_num, by rw [sumS_pos G67.out, HSM.out], X2, HO4, HB4⟩
            case measure => simp [intOf]; try omega
          by_cases g7 : t.op = 7
          · have G67 : Hid (t.op = 6 ∨ t.op = 7) := Lib.hid (.inr g7)
            rw [sumS_pos G67.out]
            have g6b : (t.op == 6) = false := by simp [g7]
            have g7b : (t.op == 7) = true := by simp [g7]
            clear g6 g7
            go_wp2_with (first
              | (go_at_call 53; (with_reducible refine HC.out.mono ?_); intro e w3 hvp; obtain ⟨rfl, hb3⟩ := hvp.ok rfl; have q0 := (HX.out _ (HB1.out.trans (hb3.mono HB1.out.size))).1.1; have HO3 := Lib.hid ((HO.out.below hb3).below (al (Below.refl _ _) (.cells #[.int .i64 yv] 3))); have HB3 := Lib.hid (HB1.out.trans ((al hb3 (.cells #[.int .i64 yv] 3)).mono HB1.out.size)); have hz3 : w.heap.size + 1 ≤ w3.heap.size := Nat.le_trans hsz hb3.size; clear hb3 hvp)
              | (at_builtin; refine wpList_app_val rfl _ _ rfl _ (w.heap.size + 1) k (.slice A9 k c9) L rfl HO3.out ⟨w3.heap.size, 0, none⟩ yv rfl (cells_oneV _ _ _) (by simp; omega) (by omega) ?_; intro A4 c4 w4 ho4 hb4; have HO4 := Lib.hid ho4; have HB4 := Lib.hid (HB3.out.trans (hb4.mono (by have := HB3.out.size; have := HWS.out; omega))); have q04 := (HX.out _ HB4.out).1.1; have ql4 := (HX.out _ HB4.out).2.2; clear ho4 hb4))
            go_roundw
            case rel => exact ⟨k + 1, L ++ [yv], by omega, by go_num, by rw [sumS_pos G67.out, HSM.out], X2, HO4, HB4⟩
            case measure => simp [intOf]; try omega
          have g67 : ¬ (t.op = 6 ∨ t.op = 7) := by omega
          · rw [sumS_neg g67]
            clear g6 g7
            have g6b : (t.op == 6) = false := by simp; omega
            have g7b : (t.op == 7) = false := by simp; omega
            go_wp2_with (first
                | (go_at_call 53; (with_reducible refine HC.out.mono ?_); intro e w3 hvp; obtain ⟨rfl, hb3⟩ := hvp.ok rfl; have HO3 := Lib.hid ((HO.out.below hb3).below (al (Below.refl _ _) (.cells #[.int .i64 yv] 3))); have HB3 := Lib.hid (HB1.out.trans ((al hb3 (.cells #[.int .i64 yv] 3)).mono HB1.out.size)); have hz3 : w.heap.size + 1 ≤ w3.heap.size := Nat.le_trans hsz hb3.size; clear hb3 hvp)
                | (at_builtin; refine wpList_app_val rfl _ _ rfl _ (w.heap.size + 1) k (.slice A9 k c9) L rfl HO3.out ⟨w3.heap.size, 0, none⟩ yv rfl (cells_oneV _ _ _) (by simp; omega) (by omega) ?_; intro A4 c4 w4 ho4 hb4; have HO4 := Lib.hid ho4; have HB4 := Lib.hid (HB3.out.trans (hb4.mono (by have := HB3.out.size; have := HWS.out; omega))); have q04 := (HX.out _ HB4.out).1.1; have ql4 := (HX.out _ HB4.out).2.2; clear ho4 hb4))
            go_roundw
            case rel => exact ⟨k + 1, L ++ [yv], by omega, by go_num, by rw [sumS_neg g67], X2, HO4, HB4⟩
            case measure => simp [intOf]; try omega
        · have X2 : Hid (R.2 ≠ 0) := Lib.hid (by
            obtain ⟨s1, s2⟩ := HST.out he
            have s2' : RL.2 = ye := s2
            rw [← HRR.out, fd_eq, HRL.out, s2', if_neg he]
            exact he)
          clear hbd
          go_wp2_with (go_at_call 53; (with_reducible refine HC.out.mono ?_); intro e w3 hvp; obtain ⟨v3, rfl, hb3⟩ := hvp.no he; have HB3 := Lib.hid (bt HBW.out hb3); clear hb3 hvp)
          go_ret2
          exact vlp_no X2.out HB3.out
      · have l1 : ¬ (k : Int) < (t.ks.length : Int) := by omega
        obtain rfl : k = t.ks.length := by omega
        obtain ⟨hLk, hrest, hkL⟩ := HL.out
        have hdone := hrest.done (0 : Int) (valN vs s n)
        have hL := HRL.out.trans hdone
        have X : Hid (R = valN vs s n t L) := Lib.hid (by
          rw [← HRR.out, fd_eq, hL, if_pos rfl])
        obtain ⟨hk0, hk1, hk3, _⟩ := HKP.out
        obtain ⟨b, f, rfl, hbl, hc⟩ := hT9 (by omega)
        have e0 : wr.cell? ⟨b, f, none⟩ = some (.int .i64 (li L 0)) := by simpa using hc 0 (by omega)
        have HC1 := Lib.hid (fun (h : 1 < L.length) => hc 1 h)
        have HC2 := Lib.hid (fun (h : 2 < L.length) => hc 2 h)
        have HL := Lib.hid hL
        have HLK := Lib.hid hLk
        have HKL := Lib.hid hkL
        have i0 : (0 : Int) < (t.ks.length : Int) := by omega
        have hop := HOP.out
        have n0 := li_near hkL 0
        have n1 := li_near hkL 1
        have n2 := li_near hkL 2
        clear hc hdone hkL hrest hT9 hbw HO HRL HRR HIH HFP HX HR HV HS HNN HO0 HB0
        by_cases o5 : t.op = 5
        · have HF : Hid (Fit R (1 - li L 0)) := Lib.hid (by rw [X.out]; exact (fit_not HSS.out HG.out hL o5))
          rw [o5] at q0
          unfold NearV at n0 n1
          have g1 : wrap64 (1 - li L 0) = 1 - li L 0 := by unfold wrap64; omega
          have g2 : IntKind.i64.wrap (1 - li L 0) = 1 - li L 0 := by rw [IntKind.wrap_i64]; omega
          have HFR := Lib.hid (fun w => rf_far (1 - li L 0) w)
          obtain ⟨q, hq⟩ : ∃ q, farS (1 - li L 0) = q := ⟨_, rfl⟩
          rw [hq] at HFR
          have HQ := Lib.hid hq
          clear hq
          clear hL HL HKL
          generalize li L 0 = x0 at *
          go_wp2_with (first
            | (go_at_call 75; (with_reducible refine (HU.out _).mono ?_); rintro e w2 ⟨rfl, rfl⟩)
            | (go_at_call 76; (with_reducible refine (HFR.out _).mono ?_); rintro e w3 ⟨rfl, rfl⟩))
          go_ret2
          exact vlp_fit HF.out (by rw [HQ.out]) (by first | exact HBW.out | exact below_drewN HBW.out _ | exact below_drewN (below_drewN HBW.out _) _)
        by_cases o6 : t.op = 6
        · have HF : Hid (Fit R (truthS (smL L == (t.ks.length : Int)))) := Lib.hid (by rw [X.out]; exact (by have := fit_and HSS.out HG.out hL hLk o6; rw [hLk] at this; exact this))
          rw [o6] at q0
          rw [sumS_pos (.inl o6)]
          have HU := Lib.hid (fun w => rf_truth (smL L == (t.ks.length : Int)) w)
          obtain ⟨x, hx⟩ : ∃ x, truthS (smL L == (t.ks.length : Int)) = x := ⟨_, rfl⟩
          rw [hx] at HF HU
          clear hx
          have HFR := Lib.hid (fun w => rf_far (x) w)
          obtain ⟨q, hq⟩ : ∃ q, farS (x) = q := ⟨_, rfl⟩
          rw [hq] at HFR
          have HQ := Lib.hid hq
          clear hq
          clear hL HL HKL
          generalize smL L = sm at *
          go_wp2_with (first
            | (go_at_call 75; (with_reducible refine (HU.out _).mono ?_); rintro e w2 ⟨rfl, rfl⟩)
            | (go_at_call 76; (with_reducible refine (HFR.out _).mono ?_); rintro e w3 ⟨rfl, rfl⟩))
          go_ret2
          exact vlp_fit HF.out (by rw [HQ.out]) (by first | exact HBW.out | exact below_drewN HBW.out _ | exact below_drewN (below_drewN HBW.out _) _)
        by_cases o7 : t.op = 7
        · have HF : Hid (Fit R (truthS (decide (0 < smL L)))) := Lib.hid (by rw [X.out]; exact (fit_or HSS.out HG.out hL hLk o7))
          rw [o7] at q0
          rw [sumS_pos (.inr o7)]
          have HU := Lib.hid (fun w => rf_truth (decide (0 < smL L)) w)
          obtain ⟨x, hx⟩ : ∃ x, truthS (decide (0 < smL L)) = x := ⟨_, rfl⟩
          rw [hx] at HF HU
          clear hx
          have HFR := Lib.hid (fun w => rf_far (x) w)
          obtain ⟨q, hq⟩ : ∃ q, farS (x) = q := ⟨_, rfl⟩
          rw [hq] at HFR
          have HQ := Lib.hid hq
          clear hq
          clear hL HL HKL
          generalize smL L = sm at *
          go_wp2_with (first
            | (go_at_call 75; (with_reducible refine (HU.out _).mono ?_); rintro e w2 ⟨rfl, rfl⟩)
            | (go_at_call 76; (with_reducible refine (HFR.out _).mono ?_); rintro e w3 ⟨rfl, rfl⟩))
          go_ret2
          exact vlp_fit HF.out (by rw [HQ.out]) (by first | exact HBW.out | exact below_drewN HBW.out _ | exact below_drewN (below_drewN HBW.out _) _)
        have n67 : ¬ (t.op = 6 ∨ t.op = 7) := by omega
        rw [sumS_neg n67]
        by_cases o8 : t.op = 8
        · have HF : Hid (Fit R (truthS (li L 0 == 0 || li L 1 == 1))) := Lib.hid (by rw [X.out]; exact (fit_imp HSS.out HG.out hL o8))
          rw [o8] at q0
          have e1' := HC1.out (by have := hk1 (by omega); omega)
          have i1 : (1 : Int) < (t.ks.length : Int) := by have := hk1 (by omega); omega
          have HU := Lib.hid (fun w => rf_truth (li L 0 == 0 || li L 1 == 1) w)
          obtain ⟨x, hx⟩ : ∃ x, truthS (li L 0 == 0 || li L 1 == 1) = x := ⟨_, rfl⟩
          rw [hx] at HF HU
          clear hx
          have HFR := Lib.hid (fun w => rf_far (x) w)
          obtain ⟨q, hq⟩ : ∃ q, farS (x) = q := ⟨_, rfl⟩
          rw [hq] at HFR
          have HQ := Lib.hid hq
          clear hq
          clear hL HL HKL
          generalize li L 0 = x0 at *
          generalize li L 1 = x1 at *
          obtain ⟨v0, hv0⟩ : ∃ v0, (x0 == 0) = v0 := ⟨_, rfl⟩
          rw [hv0] at HU
          cases v0
          · rw [Bool.false_or] at HU
            go_wp2_with (first
              | (go_at_call 75; (with_reducible refine (HU.out _).mono ?_); rintro e w2 ⟨rfl, rfl⟩)
              | (go_at_call 76; (with_reducible refine (HFR.out _).mono ?_); rintro e w3 ⟨rfl, rfl⟩))
            go_ret2
            exact vlp_fit HF.out (by rw [HQ.out]) (by first | exact HBW.out | exact below_drewN HBW.out _ | exact below_drewN (below_drewN HBW.out _) _)
          · rw [Bool.true_or] at HU
            go_wp2_with (first
              | (go_at_call 75; (with_reducible refine (HU.out _).mono ?_); rintro e w2 ⟨rfl, rfl⟩)
              | (go_at_call 76; (with_reducible refine (HFR.out _).mono ?_); rintro e w3 ⟨rfl, rfl⟩))
            go_ret2
            exact vlp_fit HF.out (by rw [HQ.out]) (by first | exact HBW.out | exact below_drewN HBW.out _ | exact below_drewN (below_drewN HBW.out _) _)
        by_cases o9 : t.op = 9
        · have HF : Hid (Fit R (truthS (li L 0 == li L 1))) := Lib.hid (by rw [X.out]; exact (fit_eq HSS.out (.inl o9)))
          rw [o9] at q0
          have e1' := HC1.out (by have := hk1 (by omega); omega)
          have i1 : (1 : Int) < (t.ks.length : Int) := by have := hk1 (by omega); omega
          have HU := Lib.hid (fun w => rf_truth (li L 0 == li L 1) w)
          obtain ⟨x, hx⟩ : ∃ x, truthS (li L 0 == li L 1) = x := ⟨_, rfl⟩
          rw [hx] at HF HU
          clear hx
          have HFR := Lib.hid (fun w => rf_far (x) w)
          obtain ⟨q, hq⟩ : ∃ q, farS (x) = q := ⟨_, rfl⟩
          rw [hq] at HFR
          have HQ := Lib.hid hq
          clear hq
          clear hL HL HKL
          generalize li L 0 = x0 at *
          generalize li L 1 = x1 at *
          go_wp2
          go_quiet ((go_at_call 75; exact Calls.quiet_of_same ((HU.out _).mono fun _ _ h => ⟨h.1, h.2.symm⟩)))
          go_wp2_with (first
            | (go_at_call 75; (with_reducible refine (HU.out _).mono ?_); rintro e w2 ⟨rfl, rfl⟩)
            | (go_at_call 76; (with_reducible refine (HFR.out _).mono ?_); rintro e w3 ⟨rfl, rfl⟩))
          go_ret2
          exact vlp_fit HF.out (by rw [HQ.out]) (by first | exact HBW.out | exact below_drewN HBW.out _ | exact below_drewN (below_drewN HBW.out _) _)
        by_cases o10 : t.op = 10
        · have HF : Hid (Fit R (truthS (li L 0 == li L 1))) := Lib.hid (by rw [X.out]; exact (fit_eq HSS.out (.inr o10)))
          rw [o10] at q0
          have e1' := HC1.out (by have := hk1 (by omega); omega)
          have i1 : (1 : Int) < (t.ks.length : Int) := by have := hk1 (by omega); omega
          have HU := Lib.hid (fun w => rf_truth (li L 0 == li L 1) w)
          obtain ⟨x, hx⟩ : ∃ x, truthS (li L 0 == li L 1) = x := ⟨_, rfl⟩
          rw [hx] at HF HU
          clear hx
          have HFR := Lib.hid (fun w => rf_far (x) w)
          obtain ⟨q, hq⟩ : ∃ q, farS (x) = q := ⟨_, rfl⟩
          rw [hq] at HFR
          have HQ := Lib.hid hq
          clear hq
          clear hL HL HKL
          generalize li L 0 = x0 at *
          generalize li L 1 = x1 at *
          go_wp2
          go_quiet ((go_at_call 75; exact Calls.quiet_of_same ((HU.out _).mono fun _ _ h => ⟨h.1, h.2.symm⟩)))
          go_wp2_with (first
            | (go_at_call 75; (with_reducible refine (HU.out _).mono ?_); rintro e w2 ⟨rfl, rfl⟩)
            | (go_at_call 76; (with_reducible refine (HFR.out _).mono ?_); rintro e w3 ⟨rfl, rfl⟩))
          go_ret2
          exact vlp_fit HF.out (by rw [HQ.out]) (by first | exact HBW.out | exact below_drewN HBW.out _ | exact below_drewN (below_drewN HBW.out _) _)
        by_cases o11 : t.op = 11
        · have HF : Hid (Fit R (truthS (li L 0 != li L 1))) := Lib.hid (by rw [X.out]; exact (fit_ne HSS.out o11))
          rw [o11] at q0
          have e1' := HC1.out (by have := hk1 (by omega); omega)
          have i1 : (1 : Int) < (t.ks.length : Int) := by have := hk1 (by omega); omega
          have HU := Lib.hid (fun w => rf_truth (li L 0 != li L 1) w)
          obtain ⟨x, hx⟩ : ∃ x, truthS (li L 0 != li L 1) = x := ⟨_, rfl⟩
          rw [hx] at HF HU
          clear hx
          have HFR := Lib.hid (fun w => rf_far (x) w)
          obtain ⟨q, hq⟩ : ∃ q, farS (x) = q := ⟨_, rfl⟩
          rw [hq] at HFR
          have HQ := Lib.hid hq
          clear hq
          clear hL HL HKL
          generalize li L 0 = x0 at *
          generalize li L 1 = x1 at *
          go_wp2
          go_quiet ((go_at_call 75; exact Calls.quiet_of_same ((HU.out _).mono fun _ _ h => ⟨h.1, h.2.symm⟩)))
          go_wp2_with (first
            | (go_at_call 75; (with_reducible refine (HU.out _).mono ?_); rintro e w2 ⟨rfl, rfl⟩)
            | (go_at_call 76; (with_reducible refine (HFR.out _).mono ?_); rintro e w3 ⟨rfl, rfl⟩))
          go_ret2
          exact vlp_fit HF.out (by rw [HQ.out]) (by first | exact HBW.out | exact below_drewN HBW.out _ | exact below_drewN (below_drewN HBW.out _) _)
        by_cases o12 : t.op = 12
        · have HF : Hid (Fit R (truthS (decide (li L 0 < li L 1)))) := Lib.hid (by rw [X.out]; exact (fit_lt HSS.out o12))
          rw [o12] at q0
          have e1' := HC1.out (by have := hk1 (by omega); omega)
          have i1 : (1 : Int) < (t.ks.length : Int) := by have := hk1 (by omega); omega
          have HU := Lib.hid (fun w => rf_truth (decide (li L 0 < li L 1)) w)
          obtain ⟨x, hx⟩ : ∃ x, truthS (decide (li L 0 < li L 1)) = x := ⟨_, rfl⟩
          rw [hx] at HF HU
          clear hx
          have HFR := Lib.hid (fun w => rf_far (x) w)
          obtain ⟨q, hq⟩ : ∃ q, farS (x) = q := ⟨_, rfl⟩
          rw [hq] at HFR
          have HQ := Lib.hid hq
          clear hq
          clear hL HL HKL
          generalize li L 0 = x0 at *
          generalize li L 1 = x1 at *
          go_wp2
          go_quiet ((go_at_call 75; exact Calls.quiet_of_same ((HU.out _).mono fun _ _ h => ⟨h.1, h.2.symm⟩)))
          go_wp2_with (first
            | (go_at_call 75; (with_reducible refine (HU.out _).mono ?_); rintro e w2 ⟨rfl, rfl⟩)
            | (go_at_call 76; (with_reducible refine (HFR.out _).mono ?_); rintro e w3 ⟨rfl, rfl⟩))
          go_ret2
          exact vlp_fit HF.out (by rw [HQ.out]) (by first | exact HBW.out | exact below_drewN HBW.out _ | exact below_drewN (below_drewN HBW.out _) _)
        by_cases o13 : t.op = 13
        · have HF : Hid (Fit R (truthS (decide (li L 0 ≤ li L 1)))) := Lib.hid (by rw [X.out]; exact (fit_le HSS.out o13))
          rw [o13] at q0
          have e1' := HC1.out (by have := hk1 (by omega); omega)
          have i1 : (1 : Int) < (t.ks.length : Int) := by have := hk1 (by omega); omega
          have HU := Lib.hid (fun w => rf_truth (decide (li L 0 ≤ li L 1)) w)
          obtain ⟨x, hx⟩ : ∃ x, truthS (decide (li L 0 ≤ li L 1)) = x := ⟨_, rfl⟩
          rw [hx] at HF HU
          clear hx
          have HFR := Lib.hid (fun w => rf_far (x) w)
          obtain ⟨q, hq⟩ : ∃ q, farS (x) = q := ⟨_, rfl⟩
          rw [hq] at HFR
          have HQ := Lib.hid hq
          clear hq
          clear hL HL HKL
          generalize li L 0 = x0 at *
          generalize li L 1 = x1 at *
          go_wp2
          go_quiet ((go_at_call 75; exact Calls.quiet_of_same ((HU.out _).mono fun _ _ h => ⟨h.1, h.2.symm⟩)))
          go_wp2_with (first
            | (go_at_call 75; (with_reducible refine (HU.out _).mono ?_); rintro e w2 ⟨rfl, rfl⟩)
            | (go_at_call 76; (with_reducible refine (HFR.out _).mono ?_); rintro e w3 ⟨rfl, rfl⟩))
          go_ret2
          exact vlp_fit HF.out (by rw [HQ.out]) (by first | exact HBW.out | exact below_drewN HBW.out _ | exact below_drewN (below_drewN HBW.out _) _)
        by_cases o14 : t.op = 14
        · have HF : Hid (Fit R (li L 0 + li L 1)) := Lib.hid (by rw [X.out]; exact (fit_add HSS.out o14))
          rw [o14] at q0
          have e1' := HC1.out (by have := hk1 (by omega); omega)
          have i1 : (1 : Int) < (t.ks.length : Int) := by have := hk1 (by omega); omega
          unfold NearV at n0 n1
          have g1 : wrap64 (li L 0 + li L 1) = li L 0 + li L 1 := by unfold wrap64; omega
          have g2 : IntKind.i64.wrap (li L 0 + li L 1) = li L 0 + li L 1 := by rw [IntKind.wrap_i64]; omega
          have HFR := Lib.hid (fun w => rf_far (li L 0 + li L 1) w)
          obtain ⟨q, hq⟩ : ∃ q, farS (li L 0 + li L 1) = q := ⟨_, rfl⟩
          rw [hq] at HFR
          have HQ := Lib.hid hq
          clear hq
          clear hL HL HKL
          generalize li L 0 = x0 at *
          generalize li L 1 = x1 at *
          go_wp2
          go_quiet (fail)
          go_wp2_with (first
            | (go_at_call 75; (with_reducible refine (HU.out _).mono ?_); rintro e w2 ⟨rfl, rfl⟩)
            | (go_at_call 76; (with_reducible refine (HFR.out _).mono ?_); rintro e w3 ⟨rfl, rfl⟩))
          go_ret2
          exact vlp_fit HF.out (by rw [HQ.out]) (by first | exact HBW.out | exact below_drewN HBW.out _ | exact below_drewN (below_drewN HBW.out _) _)
        by_cases o15 : t.op = 15
        · have HF : Hid (Fit R (li L 0 - li L 1)) := Lib.hid (by rw [X.out]; exact (fit_sub HSS.out HKL.out o15))
          rw [o15] at q0
          have e1' := HC1.out (by have := hk1 (by omega); omega)
          have i1 : (1 : Int) < (t.ks.length : Int) := by have := hk1 (by omega); omega
          unfold NearV at n0 n1
          have g1 : wrap64 (li L 0 - li L 1) = li L 0 - li L 1 := by unfold wrap64; omega
          have g2 : IntKind.i64.wrap (li L 0 - li L 1) = li L 0 - li L 1 := by rw [IntKind.wrap_i64]; omega
          have HFR := Lib.hid (fun w => rf_far (li L 0 - li L 1) w)
          obtain ⟨q, hq⟩ : ∃ q, farS (li L 0 - li L 1) = q := ⟨_, rfl⟩
          rw [hq] at HFR
          have HQ := Lib.hid hq
          clear hq
          clear hL HL HKL
          generalize li L 0 = x0 at *
          generalize li L 1 = x1 at *
          go_wp2
          go_quiet (fail)
          go_wp2_with (first
            | (go_at_call 75; (with_reducible refine (HU.out _).mono ?_); rintro e w2 ⟨rfl, rfl⟩)
            | (go_at_call 76; (with_reducible refine (HFR.out _).mono ?_); rintro e w3 ⟨rfl, rfl⟩))
          go_ret2
          exact vlp_fit HF.out (by rw [HQ.out]) (by first | exact HBW.out | exact below_drewN HBW.out _ | exact below_drewN (below_drewN HBW.out _) _)
        by_cases o16 : t.op = 16
        · have HF : Hid (Fit R (li L 0 * li L 1)) := Lib.hid (by rw [X.out]; exact fit_mul HSS.out o16)
          have HOUT : Hid (¬ NearV (li L 0 * li L 1) → R.2 ≠ 0) := Lib.hid (fun h => by rw [X.out]; exact fit_mulOut HSS.out o16 h)
          rw [o16] at q0
          have e1' := HC1.out (by have := hk1 (by omega); omega)
          have i1 : (1 : Int) < (t.ks.length : Int) := by have := hk1 (by omega); omega
          clear hL HL HKL
          generalize li L 0 = x at *
          generalize li L 1 = y at *
          by_cases z : x = 0
          · subst z
            rw [Int.zero_mul] at HF
            have HFR := Lib.hid (fun w => rf_far 0 w)
            obtain ⟨q, hq⟩ : ∃ q, farS 0 = q := ⟨_, rfl⟩
            rw [hq] at HFR
            have HQ := Lib.hid hq
            clear hq HOUT
            go_wp2
            go_quiet (fail)
            go_wp2
            go_quiet (fail)
            go_wp2_with (go_at_call 76; (with_reducible refine (HFR.out _).mono ?_); rintro e w3 ⟨rfl, rfl⟩)
            go_ret2
            exact vlp_fit HF.out (by rw [HQ.out]) (by first | exact below_drewN HBW.out _ | exact below_drewN (below_drewN HBW.out _) _ | exact HBW.out)
          · have z1 : (x == 0) = false := by simp [z]
            have z2 : (x != 0) = true := by simp [z]
            have HFAR := Lib.hid (mul_far (x := x) (y := y) z)
            unfold NearV at n0 n1
            have HSX := Lib.hid (fun w => rf_size x w (by omega))
            have HSY := Lib.hid (fun w => rf_size y w (by omega))
            have hsx : 0 < (x.natAbs : Int) := by omega
            generalize (x.natAbs : Int) = sx at *
            generalize (y.natAbs : Int) = sy at *
            have dq0 : 0 ≤ 9007199254740992 / sx := Int.ediv_nonneg (by omega) (by omega)
            have dq1 : 9007199254740992 / sx ≤ 9007199254740992 := Int.ediv_le_self _ (by omega)
            have t1 : Int.tdiv 9007199254740992 sx = 9007199254740992 / sx := Int.tdiv_eq_ediv_of_nonneg (by omega)
            obtain ⟨dq, hdq⟩ : ∃ dq, 9007199254740992 / sx = dq := ⟨_, rfl⟩
            rw [hdq] at t1 dq0 dq1 HFAR
            have t2 : wrap64 dq = dq := by unfold wrap64; omega
            have t3 : IntKind.i64.wrap dq = dq := by rw [IntKind.wrap_i64]; omega
            have s0 : (sx == 0) = false := by simp; omega
            have s1 : ¬ sx = 0 := by omega
            clear n0 n1 n2
            by_cases g : dq < sy
            · have HNO := Lib.hid (HOUT.out (HFAR.out.1 g))
              clear HF HOUT HFAR
              go_wp2
              go_quiet ((first | (go_at_call 77; exact Calls.quiet_of_same ((HSX.out _).mono fun _ _ h => ⟨h.1, h.2.symm⟩)) | (go_at_call 77; exact Calls.quiet_of_same ((HSY.out _).mono fun _ _ h => ⟨h.1, h.2.symm⟩))))
              go_wp2
              go_ret2
              exact vlp_no HNO.out (by first | exact below_drewN HBW.out _ | exact below_drewN (below_drewN HBW.out _) _ | exact HBW.out)
            · have hnr := Decidable.not_not.1 (fun h => g (HFAR.out.2 h))
              have HFR := Lib.hid (fun w => rf_far (x * y) w)
              obtain ⟨q, hq⟩ : ∃ q, farS (x * y) = q := ⟨_, rfl⟩
              rw [hq] at HFR
              have HQ := Lib.hid hq
              have g1 : wrap64 (x * y) = x * y := by unfold wrap64; omega
              have g2 : IntKind.i64.wrap (x * y) = x * y := by rw [IntKind.wrap_i64]; omega
              clear hq HOUT HFAR hnr
              go_wp2
              go_quiet ((first | (go_at_call 77; exact Calls.quiet_of_same ((HSX.out _).mono fun _ _ h => ⟨h.1, h.2.symm⟩)) | (go_at_call 77; exact Calls.quiet_of_same ((HSY.out _).mono fun _ _ h => ⟨h.1, h.2.symm⟩))))
              go_wp2
              go_quiet (fail)
              go_wp2_with (go_at_call 76; (with_reducible refine (HFR.out _).mono ?_); rintro e w3 ⟨rfl, rfl⟩)
              go_ret2
              exact vlp_fit HF.out (by rw [HQ.out]) (by first | exact below_drewN HBW.out _ | exact below_drewN (below_drewN HBW.out _) _ | exact HBW.out)
        by_cases o17 : t.op = 17
        · have HF : Hid (Fit R (modS (li L 0) (li L 1))) := Lib.hid (by rw [X.out]; exact (fit_mod HSS.out HKL.out o17))
          rw [o17] at q0
          have e1' := HC1.out (by have := hk1 (by omega); omega)
          have i1 : (1 : Int) < (t.ks.length : Int) := by have := hk1 (by omega); omega
          obtain ⟨hm1, hm2⟩ := (mod_at HSS.out HG.out o17 hL).2
          have HFR := Lib.hid (fun w => rf_far (modS (li L 0) (li L 1)) w)
          obtain ⟨q, hq⟩ : ∃ q, farS (modS (li L 0) (li L 1)) = q := ⟨_, rfl⟩
          rw [hq] at HFR
          have HQ := Lib.hid hq
          clear hq
          clear hL HL HKL
          unfold modS at HF HFR HQ
          generalize li L 0 = x at *
          generalize li L 1 = y at *
          have r1 : x.tmod y < y := Int.tmod_lt_of_pos x hm1
          have r2 : -y < x.tmod y := Int.lt_tmod_of_pos x hm1
          have g0 : (y == 0) = false := by simp; omega
          have g1 : ¬ y = 0 := by omega
          have g2 : wrap64 (x.tmod y + y) = x.tmod y + y := by unfold wrap64; omega
          have g3 : IntKind.i64.wrap (x.tmod y + y) = x.tmod y + y := by rw [IntKind.wrap_i64]; omega
          have r5 : (x.tmod y + y).tmod y = (x.tmod y + y) % y := Int.tmod_eq_emod_of_nonneg (by omega)
          have r3 : (x.tmod y + y).tmod y < y := Int.tmod_lt_of_pos _ hm1
          have r4 : -y < (x.tmod y + y).tmod y := Int.lt_tmod_of_pos _ hm1
          have g4 : wrap64 (x.tmod y) = x.tmod y := by unfold wrap64; omega
          have g5 : IntKind.i64.wrap (x.tmod y) = x.tmod y := by rw [IntKind.wrap_i64]; omega
          have g6 : wrap64 ((x.tmod y + y).tmod y) = (x.tmod y + y).tmod y := by unfold wrap64; omega
          have g7 : IntKind.i64.wrap ((x.tmod y + y).tmod y) = (x.tmod y + y).tmod y := by rw [IntKind.wrap_i64]; omega
          have HFR2 := HFR
          have HF2 := HF
          have HQ2 := HQ
          have r6 : (x.tmod y + y) % y = x.tmod y % y := by simp
          rw [r6] at HFR2 HF2 HQ2
          go_wp2
          go_quiet (fail)
          go_wp2_with (first
            | (go_at_call 76; (with_reducible refine (HFR2.out _).mono ?_); rintro e w3 ⟨rfl, rfl⟩)
            | (go_at_call 76; (with_reducible refine (HFR.out _).mono ?_); rintro e w3 ⟨rfl, rfl⟩))
          go_ret2
          first | exact vlp_fit HF.out (by rw [HQ.out]) (below_drewN HBW.out _) | exact vlp_fit HF2.out (by rw [HQ2.out]) (below_drewN HBW.out _) | exact vlp_fit HF2.out (by rw [HQ2.out]) (by first | exact HBW.out | exact below_drewN HBW.out _ | exact below_drewN (below_drewN HBW.out _) _)
        have o18 : t.op = 18 := by omega
        have HF : Hid (Fit R (if li L 0 = 1 then li L 1 else li L 2)) := Lib.hid (by rw [X.out]; exact fit_if HSS.out HG.out hL HKL.out o18)
        rw [o18] at q0
        have h3 := hk3 o18
        have e1' := HC1.out (by omega)
        have e2' := HC2.out (by omega)
        have i1 : (1 : Int) < (t.ks.length : Int) := by omega
        have i2 : (2 : Int) < (t.ks.length : Int) := by omega
        clear hL HL HKL
        generalize li L 0 = x0 at *
        generalize li L 1 = x1 at *
        generalize li L 2 = x2 at *
        by_cases g : x0 = 1
        · rw [if_pos g] at HF
          subst g
          have HFR := Lib.hid (fun w => rf_far x1 w)
          obtain ⟨q, hq⟩ : ∃ q, farS x1 = q := ⟨_, rfl⟩
          rw [hq] at HFR
          have HQ := Lib.hid hq
          clear hq
          go_wp2_with (go_at_call 76; (with_reducible refine (HFR.out _).mono ?_); rintro e w3 ⟨rfl, rfl⟩)
          go_ret2
          exact vlp_fit HF.out (by rw [HQ.out]) HBW.out
        · rw [if_neg g] at HF
          have g2 : (x0 == 1) = false := by simp [g]
          have HFR := Lib.hid (fun w => rf_far x2 w)
          obtain ⟨q, hq⟩ : ∃ q, farS x2 = q := ⟨_, rfl⟩
          rw [hq] at HFR
          have HQ := Lib.hid hq
          clear hq
          go_wp2_with (go_at_call 76; (with_reducible refine (HFR.out _).mono ?_); rintro e w3 ⟨rfl, rfl⟩)
          go_ret2
          exact vlp_fit HF.out (by rw [HQ.out]) HBW.out
end Go.Proofs.Ytcdpjodnbegepaa
