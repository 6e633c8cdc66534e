/- follow: the widths and the numbers of live variables; layer 42 (sched). -/
import Derived.Test.YtjohdkcgodaeiaaQ3
namespace Go.Proofs.Ytjohdkcgodaeiaa
open Go.RowKit

theorem take_memI {l : List Int} {j : Nat} (h : j < l.length) {v : Int} : v ∈ l.take (j + 1) ↔ v ∈ l.take j ∨ v = li l j := by
  rw [List.take_succ_eq_append_getElem h, List.mem_append, List.mem_singleton, li_get h]
theorem live_len {rows : List Rw} {K : List (Int × List Int)} (h : ∀ p, (vrs rows p).length ≤ 1000) (m : Nat) (hm : m ≤ K.length) : (liveL rows K m).length ≤ 1000 * m := by
  have h1 : (partsU rows K m).length ≤ 1000 * m := by
    induction m with
    | zero => simp [partsU]
    | succ m ih =>
      rw [partsU_succ (by omega), List.length_append]
      have := ih (by omega)
      have := h (kAt K m).1
      omega
  unfold liveL
  have h2 := set_le ((partsU rows K m).filter fun v => !mem (outsU K m) v)
  have h3 := List.length_filter_le (fun v => !mem (outsU K m) v) (partsU rows K m)
  omega
def FollowR (w : World) (rows : List Rw) (K : List (Int × List Int)) (e : Ending) (w' : World) : Prop :=
  ∃ wv lv, e = .returned (.tuple #[wv, lv]) ∧ Own w' w.heap.size wv (wl rows K K.length) ∧ Own w' w.heap.size lv (ll rows K K.length) ∧ Below w.heap.size w w'
set_option maxRecDepth 100000 in
set_option maxHeartbeats 16000000 in
theorem p_follow (A AL : Option Addr) (ca cl : Nat) (rows : List Rw) (T : List St) (w : World) (hP : RR w w.heap.size A rows) (hT : StP w AL T)
    (hr : rows.length ≤ 1000) (hl : T.length ≤ 1000) (hlp : ∀ j, j < rows.length → (pr rows j).length ≤ 1000) (hlo : ∀ k, k < T.length → (stAt T k).2.2.2.length ≤ 1000)
    (hv : ∀ j, j < rows.length → ∀ v ∈ pr rows j, In64 v) (hvo : ∀ k, k < T.length → ∀ v ∈ (stAt T k).2.2.2, In64 v) :
    Calls Try.prog 33 #[.slice A rows.length ca, .slice AL T.length cl] w (FollowR w rows (T.map stK)) := by
  obtain ⟨i0, hi0, hz0, hz1, hz2⟩ := info_parts info3
  have HP := Lib.hid hP
  have HT := Lib.hid hT
  have HLO := Lib.hid hlo
  have HVO := Lib.hid hvo
  have HVR : Hid (∀ p, (vrs rows p).length ≤ 1000 ∧ ∀ v ∈ vrs rows p, In64 v) := Lib.hid (fun p => by
    unfold vrs
    split
    · rename_i hp
      refine ⟨Nat.le_trans (set_le _) (hlp _ (by omega)), fun v h => hv _ (by omega) v ((set_mem _ _).1 h)⟩
    · exact ⟨by simp, fun v h => by simp at h⟩)
  have HLP : Hid (∀ j, j < rows.length → (pr rows j).length ≤ 1000000) := Lib.hid (fun j hj => by have := hlp j hj; omega)
  obtain ⟨K, hK⟩ : ∃ K, T.map stK = K := ⟨_, rfl⟩
  have HK1 : Hid (∀ k, (kAt K k).1 = (stAt T k).1) := Lib.hid (fun k => by rw [← hK, kAt_fst])
  have HK2 : Hid (∀ k, (kAt K k).2 = (stAt T k).2.2.2) := Lib.hid (fun k => by rw [← hK, kAt_snd])
  have HKL : Hid (K.length = T.length) := Lib.hid (by rw [← hK, List.length_map])
  rw [hK]
  unfold FollowR
  rw [HKL.out]
  have HF0 := Lib.hid (Fl.made w)
  have HB0 : Hid (Below w.heap.size w ((w.alloc (.map #[] 0)).alloc (.map #[] 0))) := Lib.hid (((Below.refl _ _).alloc (Nat.le_refl _) _).alloc (by simp) _)
  have mk41 := make41
  clear hP hT hlp hlo hv hvo hK
  go_enter Try.func33, Try.ntmps33
  go_wp2
  clear mk41
  go_loopw [4, 5, 19] (fun wv lv i wr => ∃ (k : Nat) (Kn : List Int) (S : Int → Bool), k ≤ T.length ∧ i = .int .i64 (k : Int) ∧ Hid (Fl wr w.heap.size (3000 * k) Kn S wv lv (wl rows K k) (ll rows K k)) ∧ Hid ((∀ v, v ∈ Kn ↔ v ∈ liveL rows K k) ∧ ∀ v, S v = mem (outsU K k) v) ∧ Below w.heap.size w wr) (fun _ _ i _ => T.length - (intOf i).toNat)
  case atStart => exact ⟨0, [], _, Nat.zero_le _, rfl, HF0, Lib.hid ⟨fun v => by rw [live_zero], fun v => by unfold outsU mem; simp⟩, HB0.out⟩
  case round =>
    obtain ⟨k, Kn, S, hk, rfl, HFL, HKS, hb⟩ := hrel
    have hbs := hb.size
    by_cases hkl : k < T.length
    · have h1 : (k : Int) < (T.length : Int) := by omega
      have h0 : (0 : Int) ≤ (k : Int) := by omega
      obtain ⟨b, off, rfl, hbl, hc⟩ := (HT.out.1) (by omega)
      obtain ⟨c1, c2⟩ := hc k hkl
      have e1 := (hb.cell (p := ⟨b, off + k * 2, none⟩) hbl).trans c1
      have e2 := (hb.cell (p := ⟨b, off + k * 2 + 1, none⟩) hbl).trans c2
      unfold rcell at e2
      have hro := HT.out.2 k hkl
      have hol := HLO.out k hkl
      have hov := HVO.out k hkl
      obtain ⟨⟨p, Ak, ck, O⟩, hst⟩ : ∃ r, stAt T k = r := ⟨_, rfl⟩
      have HKP : Hid ((kAt K k).1 = p ∧ (kAt K k).2 = O) := Lib.hid (by rw [HK1.out, HK2.out, hst]; exact ⟨rfl, rfl⟩)
      rw [hst] at e1 e2 hro hol hov
      dsimp only at e1 e2 hro hol hov
      have HRO := Lib.hid hro
      have HOV := Lib.hid hov
      have HB := Lib.hid hb
      have HWID : Hid (Kn.length + ((vrs rows p).filter fun v => !mem Kn v).length = widL rows K k) := Lib.hid (by have := wid_eq (rows := rows) (K := K) (m := k) HFL.out.nod HKS.out.1; rw [HKP.out.1] at this; exact this)
      clear hc c1 c2 hst hro hov hb
      generalize wr = wo at *
      go_upto_region 5 with (fail)
      obtain ⟨W, hW⟩ : ∃ W, wo.alloc (.cells #[.int .i64 p, .slice Ak O.length ck] 31) = W := ⟨_, rfl⟩
      have HLW : Hid (Below wo.heap.size wo W) := Lib.hid (by rw [← hW]; exact (Below.refl _ _).alloc (Nat.le_refl _) _)
      have HBW : Hid (Below w.heap.size w W) := Lib.hid (HB.out.trans (HLW.out.mono hbs))
      have HFW := Lib.hid (HFL.out.below HLW.out)
      have HXB : Hid (Blk W wo.heap.size 31 #[.int .i64 p, .slice Ak O.length ck]) := Lib.hid (by rw [← hW]; exact Blk.new _ _ _)
      have x0 : W.cell? ⟨wo.heap.size, 0, none⟩ = some (.int .i64 p) := HXB.out.cell 0
      have x2 : wo.heap.size < W.heap.size := HXB.out.lt
      have HZ2 : Hid (w.heap.size + 2 ≤ wo.heap.size) := Lib.hid HFL.out.big
      have HVARS := Lib.hid (fun w' hb' => p_variables A ca rows p w' (HP.out.step hb') (by omega) HLP.out)
      have hVl := (HVR.out p).1
      have HVV := Lib.hid (HVR.out p).2
      have HVI := Lib.hid (vrs_inc rows p)
      obtain ⟨V, hV⟩ : ∃ V, vrs rows p = V := ⟨_, rfl⟩
      rw [hV] at HVARS HWID hVl HVV HVI
      have HVE := Lib.hid hV
      have hlen := HFW.out.now.len 3
      rw [hW]
      have hknl0 : Kn.length ≤ 1000 * k := by
        rw [nodup_len HFW.out.nod (inc_nodup (live_inc (rows := rows) (K := K) (m := k))) HKS.out.1]
        exact live_len (fun p => (HVR.out p).1) k (by rw [HKL.out]; omega)
      obtain ⟨kn, hkn⟩ : ∃ n, Kn.length = n := ⟨_, rfl⟩
      rw [hkn] at hknl0
      rw [hkn] at hlen HWID
      clear hW e1 e2 hV hkn HFL
      go_upto_region 7 with (go_at_call 45; refine (HVARS.out W HBW.out).mono ?_; rintro e w6 ⟨AV, cv, rfl, hrv, _, hfv, hb6⟩; have HRV := Lib.hid hrv; have HFV := Lib.hid hfv; have HB6 := Lib.hid hb6; clear hrv hfv hb6)
      have HF6 := Lib.hid (HFW.out.below HB6.out)
      have HBW6 := Lib.hid (HBW.out.trans (HB6.out.mono HBW.out.size))
      have HX6 := Lib.hid (HXB.out.below HB6.out x2)
      have HAV : Hid (0 < V.length → ∃ bv ov, AV = some ⟨bv, ov, none⟩ ∧ (bv < w.heap.size ∨ w.heap.size + 1 < bv) ∧ bv < w6.heap.size ∧ ∀ j, j < V.length → w6.cell? ⟨bv, ov + j, none⟩ = some (.int .i64 (li V j))) := Lib.hid (fun hp => by
        obtain ⟨bv, ov, hA, hlt, hcc⟩ := HRV.out hp
        have h1 := HFV.out hp _ hA
        have h2 := HFW.out.big
        have h3 : W.heap.size ≤ bv := h1
        exact ⟨bv, ov, hA, by omega, hlt, hcc⟩)
      go_loopw [10, 30] (fun wd i wr => ∃ (j : Nat) (K2 : List Int), j ≤ V.length ∧ i = .int .i64 (j : Int) ∧ wd = .int .i64 ((kn + ((V.take j).filter fun v => !mem Kn v).length : Nat) : Int) ∧ Hid (Fl wr w.heap.size (3000 * k + j) K2 S u4 u5 (wl rows K k) (ll rows K k)) ∧ Hid (∀ v, v ∈ K2 ↔ v ∈ Kn ∨ (v ∈ V.take j ∧ S v = false)) ∧ Below w.heap.size w wr ∧ Hid (Kp (fun b => b < w.heap.size ∨ w.heap.size + 1 < b) w6 wr)) (fun _ i _ => V.length - (intOf i).toNat)
      case atStart => exact ⟨0, Kn, Nat.zero_le _, rfl, by simp, HF6, Lib.hid (fun v => by simp), HBW6.out, Lib.hid ⟨Nat.le_refl _, fun _ _ _ => rfl⟩⟩
      case round =>
        obtain ⟨j, K2, hj, rfl, rfl, HFJ, HKJ, hbj, HKPJ⟩ := hrel
        by_cases hjl : j < V.length
        · have g1 : (j : Int) < (V.length : Int) := by omega
          have g0 : (0 : Int) ≤ (j : Int) := by omega
          obtain ⟨bv, ov, rfl, hq1, hq2, hcv⟩ := HAV.out (by omega)
          have e3 : wr.cell? ⟨bv, ov + j, none⟩ = some (.int .i64 (li V j)) := (cell_at (HKPJ.out.2 bv hq1 hq2)).trans (hcv j hjl)
          have hft := filter_take (p := fun v => !mem Kn v) hjl
          have hx := HVV.out _ (li_mem hjl)
          have hno := not_mem_take HVI.out hjl
          have HTM := Lib.hid (fun v => take_memI (l := V) (j := j) hjl (v := v))
          obtain ⟨x, hxe⟩ : ∃ x, li V j = x := ⟨_, rfl⟩
          rw [hxe] at e3 hft hx hno HTM
          have hm2 : mem K2 x = mem Kn x := mem_congr (by
            rw [HKJ.out x]
            constructor
            · rintro (h | ⟨h, _⟩)
              · exact h
              · exact absurd h hno
            · exact .inl)
          have lk1 := HFJ.out.now.look hx
          have lk2 := HFJ.out.gone.look hx
          rw [hm2] at lk1
          obtain ⟨W1, r1, f1, b1, k1⟩ := HFJ.out.put hx (by unfold maxLen; omega)
          have hcl : ((V.take j).filter fun v => !mem Kn v).length ≤ 1000 := by
            have h5 := List.length_filter_le (fun v => !mem Kn v) (V.take j)
            rw [List.length_take] at h5; omega
          have hknl : kn ≤ 1000000000 := by omega
          obtain ⟨c0, hc0⟩ : ∃ c, ((V.take j).filter fun v => !mem Kn v).length = c := ⟨_, rfl⟩
          rw [hc0] at hcl ⊢
          have HC1 : Hid (((V.take (j + 1)).filter fun v => !mem Kn v).length = c0 + if mem Kn x then 0 else 1) := Lib.hid (by
            rw [hft, List.length_append, hc0]
            cases mem Kn x <;> simp)
          have F1 := Lib.hid f1
          have B1 := Lib.hid (hbj.trans b1)
          have K1 := Lib.hid (HKPJ.out.trans k1)
          have HBJ := Lib.hid hbj
          have hwp : IntKind.i64.wrap (((kn + c0 : Nat) : Int) + 1) = ((kn + c0 : Nat) : Int) + 1 := IntWalk.i64_in _ (by omega)
          have HNX : Hid (∀ q : Bool, S x = q → ∀ K3 : List Int, (∀ v : Int, v ∈ K3 ↔ if q then v ∈ K2 else (v = x ∨ v ∈ K2)) → ∀ v : Int, v ∈ K3 ↔ v ∈ Kn ∨ (v ∈ V.take (j + 1) ∧ S v = false)) := Lib.hid (fun q hq K3 h3 v => by
            rw [h3 v, HTM.out v]
            cases q
            · simp only [Bool.false_eq_true, if_false]
              rw [HKJ.out v]
              constructor
              · rintro (h | h | ⟨h, h'⟩)
                · exact .inr ⟨.inr h, h ▸ hq⟩
                · exact .inl h
                · exact .inr ⟨.inl h, h'⟩
              · rintro (h | ⟨h | h, h'⟩)
                · exact .inr (.inl h)
                · exact .inr (.inr ⟨h, h'⟩)
                · exact .inl h
            · simp only [if_true]
              rw [HKJ.out v]
              constructor
              · rintro (h | ⟨h, h'⟩)
                · exact .inl h
                · exact .inr ⟨.inl h, h'⟩
              · rintro (h | ⟨h | h, h'⟩)
                · exact .inl h
                · exact .inr ⟨h, h'⟩
                · subst h; rw [hq] at h'; cases h')
          obtain ⟨q1, hq1'⟩ : ∃ q, mem Kn x = q := ⟨_, rfl⟩
          obtain ⟨q2, hq2'⟩ : ∃ q, S x = q := ⟨_, rfl⟩
          rw [hq1'] at lk1 HC1
          rw [hq2'] at lk2
          have HNY := Lib.hid (HNX.out q2 hq2')
          obtain ⟨kc, hkc⟩ : ∃ n, kn + c0 = n := ⟨_, rfl⟩
          rw [hkc] at hwp ⊢
          have HKC := Lib.hid hkc
          clear hft hno hm2 f1 b1 k1 hbj hcv hxe hx hc0 hcl hkc HNX hq1' hq2'
          have HKZ := Lib.hid HKPJ
          cases q1 <;> cases q2
          · have HC2 : Hid (kn + ((V.take (j + 1)).filter fun v => !mem Kn v).length = kc + 1) := Lib.hid (by rw [HC1.out, ← HKC.out]; rfl)
            go_wp2
            go_roundw
            case rel => exact ⟨j + 1, _, by omega, by go_num, by rw [HC2.out]; go_num, F1, Lib.hid (HNY.out _ (fun v => by simp [kPut_mem])), B1.out, K1⟩
            case measure => simp [intOf]; omega
          · have HC2 : Hid (kn + ((V.take (j + 1)).filter fun v => !mem Kn v).length = kc + 1) := Lib.hid (by rw [HC1.out, ← HKC.out]; rfl)
            go_wp2
            go_roundw
            case rel => exact ⟨j + 1, _, by omega, by go_num, by rw [HC2.out]; go_num, Lib.hid (HFJ.out.mono (by omega)), Lib.hid (HNY.out _ (fun v => by simp)), HBJ.out, HKZ.out⟩
            case measure => simp [intOf]; omega
          · have HC2 : Hid (kn + ((V.take (j + 1)).filter fun v => !mem Kn v).length = kc) := Lib.hid (by rw [HC1.out, ← HKC.out]; rfl)
            go_wp2
            go_roundw
            case rel => exact ⟨j + 1, _, by omega, by go_num, by rw [HC2.out], F1, Lib.hid (HNY.out _ (fun v => by simp [kPut_mem])), B1.out, K1⟩
            case measure => simp [intOf]; omega
          · have HC2 : Hid (kn + ((V.take (j + 1)).filter fun v => !mem Kn v).length = kc) := Lib.hid (by rw [HC1.out, ← HKC.out]; rfl)
            go_wp2
            go_roundw
            case rel => exact ⟨j + 1, _, by omega, by go_num, by rw [HC2.out], Lib.hid (HFJ.out.mono (by omega)), Lib.hid (HNY.out _ (fun v => by simp)), HBJ.out, HKZ.out⟩
            case measure => simp [intOf]; omega
        · obtain rfl : j = V.length := by omega
          have g1 : ¬ (V.length : Int) < (V.length : Int) := by omega
          rw [List.take_length] at HKJ ⊢
          rw [HWID.out]
          have hwl : widL rows K k ≤ 1000000000 := by
            have := HWID.out
            have h5 := List.length_filter_le (fun v => !mem Kn v) V
            omega
          have HX8 : Hid (wr.cell? ⟨wo.heap.size, 1, none⟩ = some (.slice Ak O.length ck)) := Lib.hid ((cell_at (HKPJ.out.2 wo.heap.size (.inr (by have := HZ2.out; omega)) (HX6.out.lt))).trans (HX6.out.cell 1))
          have x8 := HX8.out
          have x9 : wo.heap.size < wr.heap.size := Nat.lt_of_lt_of_le HX6.out.lt HKPJ.out.1
          obtain ⟨wd, hwd⟩ : ∃ n, widL rows K k = n := ⟨_, rfl⟩
          rw [hwd] at hwl ⊢
          have HWD := Lib.hid hwd
          clear hwd
          have HBJ := Lib.hid hbj
          generalize wr = w8 at *
          clear hbj
          go_upto_region 15 with (fail)
          go_loopw [50] (fun i wr => ∃ (m : Nat) (K3 : List Int) (S3 : Int → Bool), m ≤ O.length ∧ i = .int .i64 (m : Int) ∧ Hid (Fl wr w.heap.size (3000 * k + 1000 + m) K3 S3 u4 u5 (wl rows K k) (ll rows K k)) ∧ Hid ((∀ v, v ∈ K3 ↔ v ∈ K2 ∧ v ∉ O.take m) ∧ ∀ v, S3 v = (S v || mem (O.take m) v)) ∧ Below w.heap.size w wr) (fun i _ => O.length - (intOf i).toNat)
          case atStart => exact ⟨0, K2, S, Nat.zero_le _, rfl, Lib.hid (HFJ.out.mono (by omega)), Lib.hid ⟨fun v => by simp, fun v => by unfold mem; simp⟩, HBJ.out⟩
          case round =>
            obtain ⟨m, K3, S3, hm, rfl, HFM, HKM, hbm⟩ := hrel
            by_cases hml : m < O.length
            · have f1 : (m : Int) < (O.length : Int) := by omega
              have f0 : (0 : Int) ≤ (m : Int) := by omega
              obtain ⟨bo, oo, hAk, hbo, hco⟩ := HRO.out (by omega)
              subst hAk
              have e5 : wr.cell? ⟨bo, oo + m, none⟩ = some (.int .i64 (li O m)) := (hbm.cell (p := ⟨bo, oo + m, none⟩) hbo).trans (hco m hml)
              have hx := HOV.out _ (li_mem hml)
              have HTM := Lib.hid (fun v => take_memI (l := O) (j := m) hml (v := v))
              obtain ⟨x, hxe⟩ : ∃ x, li O m = x := ⟨_, rfl⟩
              rw [hxe] at e5 hx HTM
              obtain ⟨W1, r1, fl1, b1, _⟩ := HFM.out.gonePut hx (by unfold maxLen; omega)
              obtain ⟨W2, r2, fl2, b2, _⟩ := fl1.cut hx
              have F2 := Lib.hid fl2
              have B2 := Lib.hid ((hbm.trans b1).trans b2)
              have HKN : Hid ((∀ v, v ∈ kDel K3 x ↔ v ∈ K2 ∧ v ∉ O.take (m + 1)) ∧ ∀ v, (decide (v = x) || S3 v) = (S v || mem (O.take (m + 1)) v)) := Lib.hid ⟨fun v => by
                rw [kDel_mem, HKM.out.1 v, HTM.out v]
                constructor
                · rintro ⟨h1, h2, h3⟩; exact ⟨h2, fun q => q.elim h3 h1⟩
                · rintro ⟨h2, h3⟩; exact ⟨fun q => h3 (.inr q), h2, fun q => h3 (.inl q)⟩, fun v => by
                rw [HKM.out.2 v]
                have : mem (O.take (m + 1)) v = (mem (O.take m) v || decide (v = x)) := by
                  unfold mem
                  rw [← Bool.decide_or]
                  exact decide_eq_decide.2 (HTM.out v)
                rw [this]
                cases S v <;> cases mem (O.take m) v <;> simp⟩
              clear hco fl1 fl2 b1 b2 hbm hxe hx
              go_wp2
              go_roundw
              case rel => exact ⟨m + 1, _, _, by omega, by go_num, F2, HKN, B2.out⟩
              case measure => simp [intOf]; omega
            · obtain rfl : m = O.length := by omega
              have f1 : ¬ (O.length : Int) < (O.length : Int) := by omega
              have HNXT : Hid ((∀ v, v ∈ K3 ↔ v ∈ liveL rows K (k + 1)) ∧ ∀ v, S3 v = mem (outsU K (k + 1)) v) := Lib.hid (by
                have hkK : k < K.length := by rw [HKL.out]; exact hkl
                refine ⟨fun v => ?_, fun v => ?_⟩
                · rw [HKM.out.1 v, List.take_length, HKJ.out v, live_succ hkK, HKP.out.1, HKP.out.2, HVE.out, HKS.out.1 v, HKS.out.2 v, memF]
                · rw [HKM.out.2 v, List.take_length, outsU_succ hkK, HKP.out.2, HKS.out.2 v]
                  unfold mem
                  rw [← Bool.decide_or]
                  exact decide_eq_decide.2 (by rw [List.mem_append]))
              have HLEN : Hid (K3.length = (liveL rows K (k + 1)).length) := Lib.hid (nodup_len HFM.out.nod (inc_nodup live_inc) HNXT.out.1)
              have hk3 : K3.length ≤ 2000000 := by
                rw [HLEN.out]
                have := live_len (fun p => (HVR.out p).1) (k + 1) (by rw [HKL.out]; omega : k + 1 ≤ K.length)
                omega
              obtain ⟨nk, hnk⟩ : ∃ n, K3.length = n := ⟨_, rfl⟩
              rw [hnk] at hk3
              have HNK : Hid ((liveL rows K (k + 1)).length = nk) := Lib.hid (HLEN.out.symm.trans hnk)
              have HLE := Lib.hid hnk
              have HWS := Lib.hid (wl_succ rows K k)
              have HLS := Lib.hid (ll_succ rows K k)
              have hw1 := wl_len rows K k
              have hw2 := ll_len rows K k
              obtain ⟨WL, hWL⟩ : ∃ L, wl rows K k = L := ⟨_, rfl⟩
              obtain ⟨LL, hLL⟩ : ∃ L, ll rows K k = L := ⟨_, rfl⟩
              rw [hWL] at HFM HWS hw1
              rw [hLL] at HFM HLS hw2
              have hw1b : WL.length ≤ 1000 := by omega
              have hw2b : LL.length ≤ 1000 := by omega
              have hbig := HFM.out.big
              have HBM := Lib.hid hbm
              clear hnk hWL hLL hw1 hw2 hbm
              go_wp2_with (first
                | (at_builtin; have _ := HQ1; refine wpList_append_own_at _ rfl _ _ 23 rfl (w.heap.size + 2) 3 i0 _ 1 8 Try.underlying23 hi0 hz0 hz1 hz2 rfl (by decide) _ _ _ rfl (World.ownsRow.alloc HQ2.out _) ⟨w5.heap.size, 0, none⟩ 1 1 [.int .i64 (nk : Int)] rfl rfl (cell_one_new _ _ _) (by simp [Value.oneCell']) (max_ok (by omega)) (by omega) (by simp; omega) ?_; intro v9 w9 hO9 hg9 _ hat9; obtain ⟨p1, p2, p3, p4, p5⟩ := app_two HQ2.out HQ1.out HQ4.out hbig5 hO9 hg9 hat9; have HP1 := Lib.hid p1; have HP2 := Lib.hid p2; have HP4 := Lib.hid p4; have HP5 := Lib.hid p5; clear hO9 hg9 hat9 p1 p2 p3 p4 p5)
                | (at_builtin; refine wpList_append_own_at _ rfl _ _ 23 rfl (w.heap.size + 2) 3 i0 _ 1 8 Try.underlying23 hi0 hz0 hz1 hz2 rfl (by decide) _ _ _ rfl (World.ownsRow.alloc HFM.out.ww _) ⟨wr.heap.size, 0, none⟩ 1 1 [.int .i64 (wd : Int)] rfl rfl (cell_one_new _ _ _) (by simp [Value.oneCell']) (max_ok (by omega)) (by omega) (by simp; omega) ?_; intro v5 w5 hO5 hg5 _ hat5; obtain ⟨q1, q2, q3, q4, q5⟩ := app_two HFM.out.ww HFM.out.lw HFM.out.ap hbig hO5 hg5 hat5; have HQ1 := Lib.hid q1; have HQ2 := Lib.hid q2; have HQ4 := Lib.hid q4; have HQ5 := Lib.hid q5; have hlen5 := (HFM.out.now.below q5 (by omega)).len 3; rw [HLE.out] at hlen5; have hbig5 := Nat.le_trans hbig q5.size; clear hO5 hg5 hat5 q1 q2 q3 q4 q5))
              go_roundw
              case rel => exact ⟨k + 1, K3, S3, by omega, by go_num, Lib.hid ⟨((HFM.out.now.below HQ5.out (by omega)).below HP5.out (by omega)).mono (by omega), HFM.out.nod, ((HFM.out.gone.at (HQ5.out.block _ (by omega))).at (HP5.out.block _ (by omega))).mono (by omega), by rw [HWS.out, HWD.out]; exact HP2.out, by rw [HLS.out, HNK.out]; exact HP1.out, HP4.out⟩, HNXT, HBM.out.trans ((HQ5.out.trans HP5.out).mono (by omega))⟩
              case measure => simp [intOf]; omega
    · obtain rfl : k = T.length := by omega
      have h1 : ¬ (T.length : Int) < (T.length : Int) := by omega
      have HB := Lib.hid hb
      clear hb
      go_wp2
      go_returns
      exact ⟨_, _, rfl, HFL.out.ww.less (by omega), HFL.out.lw.less (by omega), HB.out⟩
end Go.Proofs.Ytjohdkcgodaeiaa
