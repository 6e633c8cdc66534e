/- Right of the program; layer 42 (sched). -/
import Derived.Test.YtjohdkcgodaeiaaQ5
import Derived.Test.YtjohdkcgodaeiaaD0
namespace Go.Proofs.Ytjohdkcgodaeiaa
open Go.RowKit

/-- The parts in the order of the steps. -/
def ahK (K : List (Int × List Int)) : List Nat := K.map fun x => x.1.toNat
def allO (K : List (Int × List Int)) (m : Nat) : List Int := (K.take m).flatMap fun x => setL x.2
theorem ahK_at {K : List (Int × List Int)} {k : Nat} (h : k < K.length) : (ahK K).getD k 0 = (kAt K k).1.toNat := by
  unfold ahK kAt
  simp [List.getD, List.getElem?_eq_getElem h]
theorem allO_succ {K : List (Int × List Int)} {m : Nat} (h : m < K.length) : allO K (m + 1) = allO K m ++ setL (kAt K m).2 := by
  unfold allO
  rw [take_kAt h, List.flatMap_append]; simp
theorem allO_len {K : List (Int × List Int)} (h : ∀ k, k < K.length → (kAt K k).2.length ≤ 1000) (m : Nat) (hm : m ≤ K.length) : (allO K m).length ≤ 1000 * m := by
  induction m with
  | zero => simp [allO]
  | succ m ih =>
    rw [allO_succ (by omega), List.length_append]
    have h1 := ih (by omega)
    have h2 := h m (by omega)
    have h3 := set_le (kAt K m).2
    omega
def PR (rows : List Rw) (o : List Int) (K : List (Int × List Int)) : Prop :=
  CompP rows.length K ∧ (rows.length = 0 ∨ ((∀ i, i < K.length → ∀ v ∈ (kAt K i).2, lastK rows (ahK K) v K.length ≤ i) ∧ srt (allO K K.length) = setL o))
theorem p_sort {w : World} {B : Nat} {v : Value} {l : List Int} (h : Own w B v l) (hl : l.length ≤ 1000000) :
    ∃ A c, v = .slice A l.length c ∧ Calls Try.prog 31 #[.slice A l.length c] w fun e w' => e = .returned (.tuple #[]) ∧ RI w' w'.heap.size A (srt l) ∧ Below B w w' := by
  rcases h.pre with ⟨rfl, rfl⟩ | ⟨g, cap, rfl, hg, hcap, hm, hP⟩
  · refine ⟨none, 0, rfl, (Any.slices_Sort_int_none Try.laysSort none 0 w).mono fun e w' ⟨he, hw⟩ => ?_⟩
    subst hw
    refine ⟨he, ?_, Below.refl _ _⟩
    have : srt [] = [] := List.eq_nil_of_length_eq_zero (by rw [srt_len]; rfl)
    rw [this]; exact RI.nil
  · unfold maxLen at hm
    refine ⟨_, cap, rfl, (Any.slices_Sort_int Try.laysSort g 0 cap l w hP.holds hP.lt (by omega)).mono fun e w' ⟨he, n, os, hw1⟩ => ?_⟩
    have hP1 : PreB w' g (srt l) := by rw [hw1]; exact (hP.put (m := srt l) (srt_len l) n).grow os
    have hb1 : Below g w w' := by rw [hw1]; exact below_grow (below_put (Nat.le_refl _)) os (by rw [put_size]; exact Nat.le_of_lt hP.lt)
    exact ⟨he, hP1.ri, hb1.mono hg⟩
/-- The slice AV reads as V, and lies elsewhere than the row v. -/
def AwayP (w : World) (AV : Option Addr) (V : List Int) (v : Value) : Prop := 0 < V.length → ∃ bv ov, AV = some ⟨bv, ov, none⟩ ∧ bv < w.heap.size ∧ v.ownBlock ≠ some bv ∧ ∀ t, t < V.length → w.cell? ⟨bv, ov + t, none⟩ = some (.int .i64 (li V t))
theorem AwayP.app {w w' : World} {AV : Option Addr} {V : List Int} {v v' : Value} {o : Obj} (h : AwayP w AV V v) (hg : (w.alloc o).grownBy w' v.ownBlock) (hat : v'.ownBlock = v.ownBlock ∨ v'.ownBlock = some (w.alloc o).heap.size) : AwayP w' AV V v' := fun hp => by
  obtain ⟨bv, ov, e, hl, hn, hc⟩ := h hp
  have ha : Below w.heap.size w (w.alloc o) := (Below.refl _ _).alloc (Nat.le_refl _) _
  have hb := (hg.block bv (Nat.lt_of_lt_of_le hl ha.size) (fun e => hn e.symm)).trans (ha.block bv hl)
  have hs : (w.alloc o).heap.size = w.heap.size + 1 := by simp
  refine ⟨bv, ov, e, Nat.lt_of_lt_of_le hl (Nat.le_trans ha.size hg.size), fun q => ?_, fun t ht => (cell_at hb).trans (hc t ht)⟩
  rcases hat with h1 | h1
  · exact hn (h1.symm.trans q)
  · rw [h1, hs] at q; injection q with q; omega
theorem LM.below {w w' : World} {b n F} {B : Nat} (h : LM w b n F) (hb : Below B w w') (hB : b < B) : LM w' b n F := h.at (hb.block b hB)
set_option maxRecDepth 100000 in
set_option maxHeartbeats 16000000 in
theorem p_Right (A AO AL : Option Addr) (ca co cl : Nat) (rows : List Rw) (o : List Int) (T : List St) (w : World) (hP : RR w w.heap.size A rows) (hO : RI w w.heap.size AO o) (hT : StP w AL T)
    (hr : rows.length ≤ 100) (hol : o.length ≤ 100) (hl : T.length ≤ 100) (hlp : ∀ j, j < rows.length → (pr rows j).length ≤ 1000) (hlo : ∀ k, k < T.length → (stAt T k).2.2.2.length ≤ 1000)
    (hv : ∀ j, j < rows.length → ∀ v ∈ pr rows j, In64 v) (hvo : ∀ k, k < T.length → ∀ v ∈ (stAt T k).2.2.2, In64 v) :
    Calls Try.prog 12 #[.slice A rows.length ca, .slice AO o.length co, .slice AL T.length cl] w (CompR w (PR rows o (T.map stK))) := by
  obtain ⟨i0, hi0, hz0, hz1, hz2⟩ := info_parts info3
  have HC := Lib.hid (p_complete rows.length AL cl T w hT (by omega) (by omega))
  have HP := Lib.hid hP
  have HO := Lib.hid hO
  have HT := Lib.hid hT
  have HLP := Lib.hid hlp
  have HLO := Lib.hid hlo
  have HV := Lib.hid hv
  have HVO := Lib.hid hvo
  have HST : Hid (∀ k, (kAt (T.map stK) k).1 = (stAt T k).1 ∧ (kAt (T.map stK) k).2 = (stAt T k).2.2.2) := Lib.hid (fun k => ⟨kAt_fst T k, kAt_snd T k⟩)
  obtain ⟨K, hK⟩ : ∃ K, T.map stK = K := ⟨_, rfl⟩
  have HKL : Hid (K.length = T.length) := Lib.hid (by rw [← hK, List.length_map])
  rw [hK] at HC HST ⊢
  have HOF : Hid (∀ wx, Below w.heap.size w wx → Calls Try.prog 30 #[.slice AO o.length co] wx (RowR wx (setL o))) := Lib.hid (fun wx hb => of_row AO co o wx (HO.out.step hb) (by omega))
  obtain ⟨nr, hnr⟩ : ∃ n, rows.length = n := ⟨_, rfl⟩
  have HNR := Lib.hid hnr
  rw [hnr] at HC hr ⊢
  clear hP hO hT hlp hlo hv hvo hK hnr
  unfold CompR
  go_enter Try.func12, Try.ntmps12
  go_upto_region 2 with (go_at_call 29; refine HC.out.mono ?_; rintro e w1 ⟨q, rfl, hq, hb1⟩; have HQ := Lib.hid hq; have HB1 := Lib.hid hb1; clear hq hb1)
  · have hqf : q = false := by cases q <;> simp_all
    have HN : Hid (¬ PR rows o K) := Lib.hid (fun h => by have := HQ.out.2 (by have h1 := h.1; rw [HNR.out] at h1; exact h1); rw [hqf] at this; cases this)
    clear hqf
    go_wp2
    go_ret
    exact ⟨false, rfl, ⟨(fun e => by cases e), (fun h => absurd h HN.out)⟩, HB1.out⟩
  · have hqt : q = true := by cases q <;> simp_all
    have HCP := Lib.hid (HQ.out.1 hqt)
    have hr0 : nr = 0 := by
      rcases Nat.eq_zero_or_pos nr with e | e
      · exact e
      · have : ((nr : Int) == 0) = false := by rw [beq_eq_false_iff_ne]; omega
        simp_all
    have HY : Hid (PR rows o K) := Lib.hid ⟨by rw [HNR.out]; exact HCP.out, .inl (by rw [HNR.out]; exact hr0)⟩
    clear hqt hr0
    go_wp2
    go_ret
    exact ⟨true, rfl, ⟨(fun _ => HY.out), (fun _ => rfl)⟩, HB1.out⟩
  · have hqt : q = true := by cases q <;> simp_all
    have HCP := Lib.hid (HQ.out.1 hqt)
    have hr0 : nr ≠ 0 := by
      intro e
      have : ((nr : Int) == 0) = true := by rw [e]; rfl
      simp_all
    have HR0 := Lib.hid hr0
    clear hqt hr0
    · rw [make46]
      have hlm0 := LM.made w1
      have hbm0 : Below w1.heap.size w1 (w1.alloc (.map #[] 0)) := (Below.refl _ _).alloc (Nat.le_refl _) _
      have HLM0 := Lib.hid hlm0
      have HBM0 := Lib.hid hbm0
      clear hlm0 hbm0
      go_wp2
      go_loopw [28] (fun i wr => ∃ k : Nat, k ≤ T.length ∧ i = .int .i64 (k : Int) ∧ Hid (LM wr w1.heap.size (2000 * k) fun v => ((lastK rows (ahK K) v k : Nat) : Int)) ∧ Below w1.heap.size w1 wr) (fun i _ => T.length - (intOf i).toNat)
      case atStart => exact ⟨0, Nat.zero_le _, rfl, HLM0, HBM0.out⟩
      case round =>
        obtain ⟨k, hk, rfl, HF, hb⟩ := hrel
        have hbs := hb.size
        have HB := Lib.hid hb
        by_cases hkl : k < T.length
        · have h1 : (k : Int) < (T.length : Int) := by omega
          have h0 : (0 : Int) ≤ (k : Int) := by omega
          have HBW := Lib.hid (HB1.out.trans (hb.mono HB1.out.size))
          obtain ⟨b, off, rfl, hbl, hc⟩ := (HT.out.1) (by omega)
          obtain ⟨c1, c2⟩ := hc k hkl
          have e1 := (HBW.out.cell (p := ⟨b, off + k * 2, none⟩) hbl).trans c1
          have e2 := (HBW.out.cell (p := ⟨b, off + k * 2 + 1, none⟩) hbl).trans c2
          unfold rcell at e2
          obtain ⟨hk0, hk1, _⟩ := HCP.out.2 k (by rw [HKL.out]; exact hkl)
          rw [(HST.out k).1] at hk0 hk1
          obtain ⟨m, hm⟩ : ∃ m : Nat, (stAt T k).1 = (m : Int) := ⟨(stAt T k).1.toNat, by omega⟩
          have HAH : Hid ((ahK K).getD k 0 = m) := Lib.hid (by rw [ahK_at (by rw [HKL.out]; exact hkl), (HST.out k).1, hm]; rfl)
          rw [hm] at e1 hk0 hk1
          have hml : m < rows.length := by rw [HNR.out]; omega
          generalize (stAt T k).2.1 = Ak at *
          generalize (stAt T k).2.2.1 = ck at *
          generalize (stAt T k).2.2.2.length = lk at *
          have hPw := HP.out.below HBW.out
          obtain ⟨bp, op, rfl, hbp, hcp⟩ := HP.out.at_ (by omega)
          have e3 := (HBW.out.cell (p := ⟨bp, op + m, none⟩) hbp).trans (hcp m hml)
          have hrow := (HP.out.row m hml).1
          have hll := HLP.out m hml
          have HVL := Lib.hid (HV.out m hml)
          unfold rcell at e3
          have HPR : Hid (pr rows m = (rw_ rows m).2.2) := Lib.hid rfl
          rw [HPR.out] at hll HVL
          obtain ⟨⟨Ap, cp, L⟩, hrk⟩ : ∃ r, rw_ rows m = r := ⟨_, rfl⟩
          rw [hrk] at e3 hrow hll HVL HPR
          dsimp only at e3 hrow hll HVL HPR
          have HROW := Lib.hid hrow
          clear hc c1 c2 hcp hrk hrow hPw hm hb
          go_upto_region 9 with (fail)
          obtain ⟨W, hW⟩ : ∃ W, wr.alloc (.cells #[.int .i64 (m : Int), .slice Ak lk ck] 31) = W := ⟨_, rfl⟩
          have HLW : Hid (Below wr.heap.size wr W) := Lib.hid (by rw [← hW]; exact (Below.refl _ _).alloc (Nat.le_refl _) _)
          have HBWW : Hid (Below w1.heap.size w1 W) := Lib.hid (HB.out.trans (HLW.out.mono hbs))
          have HFW := Lib.hid (HF.out.below HLW.out HF.out.lt)
          have x0 : W.cell? ⟨wr.heap.size, 0, none⟩ = some (.int .i64 (m : Int)) := by rw [← hW]; exact (Blk.new wr 31 _).cell 0
          have x2 : wr.heap.size < W.heap.size := by rw [← hW]; exact (Blk.new wr 31 #[.int .i64 (m : Int), .slice Ak lk ck]).lt
          have e5 : W.cell? ⟨bp, op + m, none⟩ = some (.slice Ap L.length cp) := ((HB1.out.trans (HBWW.out.mono HB1.out.size)).cell (p := ⟨bp, op + m, none⟩) hbp).trans ((HBW.out.cell (p := ⟨bp, op + m, none⟩) hbp).symm.trans e3)
          have HLK : Hid (∀ y, ((lastK rows (ahK K) y (k + 1) : Nat) : Int) = if y ∈ L then (k : Int) else ((lastK rows (ahK K) y k : Nat) : Int)) := Lib.hid (fun y => by
            rw [lastK, HAH.out, HPR.out]
            unfold mem
            by_cases hy : y ∈ L <;> simp [hy])
          rw [hW]
          clear hW e1 e2 e3 HF
          go_upto_region 10 with (fail)
          go_loopw [39] (fun i wr => ∃ j : Nat, j ≤ L.length ∧ i = .int .i64 (j : Int) ∧ Hid (LM wr w1.heap.size (2000 * k + j) fun y => if y ∈ L.take j then (k : Int) else ((lastK rows (ahK K) y k : Nat) : Int)) ∧ Below w1.heap.size w1 wr) (fun i _ => L.length - (intOf i).toNat)
          case atStart => exact ⟨0, Nat.zero_le _, rfl, Lib.hid (by have h := HFW.out; simpa using h), HBWW.out⟩
          case round =>
            obtain ⟨j, hj, rfl, HFJ, hbj⟩ := hrel
            by_cases hjl : j < L.length
            · have g1 : (j : Int) < (L.length : Int) := by omega
              have g0' : (0 : Int) ≤ (j : Int) := by omega
              obtain ⟨bo, oo, rfl, hbo, hco⟩ := HROW.out (by omega)
              have e6 : wr.cell? ⟨bo, oo + j, none⟩ = some (.int .i64 (li L j)) := ((HB1.out.trans (hbj.mono HB1.out.size)).cell (p := ⟨bo, oo + j, none⟩) hbo).trans (hco j hjl)
              have hx := HVL.out _ (li_mem hjl)
              have HTM := Lib.hid (fun v => take_memI (l := L) (j := j) hjl (v := v))
              obtain ⟨x, hxe⟩ : ∃ x, li L j = x := ⟨_, rfl⟩
              rw [hxe] at e6 hx HTM
              obtain ⟨W1, r1, f1, hg1⟩ := HFJ.out.put (x := x) (v := (k : Int)) hx (by unfold In64; omega) (by unfold maxLen; omega)
              have HF1 : Hid (LM W1 w1.heap.size (2000 * k + (j + 1)) fun y => if y ∈ L.take (j + 1) then (k : Int) else ((lastK rows (ahK K) y k : Nat) : Int)) := Lib.hid (by
                have e : setF (fun y => if y ∈ L.take j then (k : Int) else ((lastK rows (ahK K) y k : Nat) : Int)) x (k : Int) = fun y => if y ∈ L.take (j + 1) then (k : Int) else ((lastK rows (ahK K) y k : Nat) : Int) := by
                  funext y
                  unfold setF
                  by_cases h1 : y = x
                  · rw [if_pos h1, if_pos ((HTM.out y).2 (.inr h1))]
                  · rw [if_neg h1]
                    dsimp only
                    by_cases h2 : y ∈ L.take j
                    · rw [if_pos h2, if_pos ((HTM.out y).2 (.inl h2))]
                    · rw [if_neg h2, if_neg (fun q => ((HTM.out y).1 q).elim h2 h1)]
                rw [← e]; exact f1)
              have HBG := Lib.hid (hbj.trans ((Below.refl w1.heap.size wr).grown hg1 hbj.size (fun q e => by injection e with e; omega)))
              clear hco f1 hg1 hbj hxe hx
              go_wp2
              go_roundw
              case rel => exact ⟨j + 1, by omega, by go_num, HF1, HBG.out⟩
              case measure => simp [intOf]; omega
            · obtain rfl : j = L.length := by omega
              have g1 : ¬ (L.length : Int) < (L.length : Int) := by omega
              have HF2 : Hid (LM wr w1.heap.size (2000 * (k + 1)) fun v => ((lastK rows (ahK K) v (k + 1) : Nat) : Int)) := Lib.hid (by
                have e : (fun v => ((lastK rows (ahK K) v (k + 1) : Nat) : Int)) = fun y => if y ∈ L.take L.length then (k : Int) else ((lastK rows (ahK K) y k : Nat) : Int) := by
                  funext y
                  rw [HLK.out y, List.take_length]
                rw [e]; exact HFJ.out.mono (by omega))
              have HB2 := Lib.hid hbj
              clear hbj
              go_wp2
              go_roundw
              case rel => exact ⟨k + 1, by omega, by go_num, HF2, HB2.out⟩
              case measure => simp [intOf]; omega
        · obtain rfl : k = T.length := by omega
          have h1 : ¬ (T.length : Int) < (T.length : Int) := by omega
          have hZ5 := HF.out.lt
          have HBW5 := Lib.hid (HB1.out.trans (hb.mono HB1.out.size))
          have HALL : Hid (∀ m, m ≤ T.length → (allO K m).length ≤ 1000 * m) := Lib.hid (fun m hm => allO_len (fun k hk => by rw [(HST.out k).2]; exact HLO.out k (by rw [← HKL.out]; exact hk)) m (by rw [HKL.out]; exact hm))
          generalize wr = w5 at *
          clear hb HB hbs
          go_upto_region 17 with (fail)
          go_loopw [12, 50] (fun av i wr => ∃ k : Nat, k ≤ T.length ∧ i = .int .i64 (k : Int) ∧ Hid (Own wr w5.heap.size av (allO K k)) ∧ Hid (∀ i, i < k → ∀ v ∈ (kAt K i).2, lastK rows (ahK K) v T.length ≤ i) ∧ Below w5.heap.size w5 wr) (fun _ i _ => T.length - (intOf i).toNat)
          case atStart => exact ⟨0, Nat.zero_le _, rfl, Lib.hid (World.ownsRow_nil _ _ _ _), Lib.hid (fun i hi => absurd hi (by omega)), Below.refl _ _⟩
          case round =>
            obtain ⟨k, hk, rfl, HOA, HLK, hb⟩ := hrel
            have hbs := hb.size
            have HB := Lib.hid hb
            by_cases hkl : k < T.length
            · have f1 : (k : Int) < (T.length : Int) := by omega
              have f0 : (0 : Int) ≤ (k : Int) := by omega
              have HBW := Lib.hid (HBW5.out.trans (hb.mono HBW5.out.size))
              obtain ⟨b, off, rfl, hbl, hc⟩ := (HT.out.1) (by omega)
              obtain ⟨c1, c2⟩ := hc k hkl
              have e1 := (HBW.out.cell (p := ⟨b, off + k * 2, none⟩) hbl).trans c1
              have e2 := (HBW.out.cell (p := ⟨b, off + k * 2 + 1, none⟩) hbl).trans c2
              unfold rcell at e2
              have HRO := Lib.hid (HT.out.2 k hkl)
              have hol2 := HLO.out k hkl
              have HVV := Lib.hid (HVO.out k hkl)
              have HKO := Lib.hid (HST.out k).2
              obtain ⟨⟨p, Ak, ck, O⟩, hst⟩ : ∃ r, stAt T k = r := ⟨_, rfl⟩
              rw [hst] at e1 e2 HRO hol2 HVV HKO
              dsimp only at e1 e2 HRO hol2 HVV HKO
              have HAS : Hid (allO K (k + 1) = allO K k ++ setL O) := Lib.hid (by rw [allO_succ (by rw [HKL.out]; exact hkl), HKO.out])
              have hal := HALL.out k (by omega)
              clear hc c1 c2 hst hb
              go_upto_region 19 with (fail)
              obtain ⟨W, hW⟩ : ∃ W, wr.alloc (.cells #[.int .i64 p, .slice Ak O.length ck] 31) = W := ⟨_, rfl⟩
              have HLW : Hid (Below wr.heap.size wr W) := Lib.hid (by rw [← hW]; exact (Below.refl _ _).alloc (Nat.le_refl _) _)
              have HBWW : Hid (Below w5.heap.size w5 W) := Lib.hid (HB.out.trans (HLW.out.mono hbs))
              have x1 : W.cell? ⟨wr.heap.size, 1, none⟩ = some (.slice Ak O.length ck) := by rw [← hW]; exact (Blk.new wr 31 _).cell 1
              have x2 : wr.heap.size < W.heap.size := by rw [← hW]; exact (Blk.new wr 31 #[.int .i64 p, .slice Ak O.length ck]).lt
              have HOV := Lib.hid (of_row Ak ck O W (HRO.out.step (HBW5.out.trans (HBWW.out.mono HBW5.out.size))) (by omega))
              have hsl := set_le O
              have HVM := Lib.hid (fun v => set_mem O v)
              obtain ⟨V, hV⟩ : ∃ V, setL O = V := ⟨_, rfl⟩
              rw [hV] at HOV hsl HVM HAS
              have HOA8 : Hid (∀ w', Below W.heap.size W w' → Own w' w5.heap.size u12 (allO K k)) := Lib.hid (fun w' hb' => (HOA.out.at (fun g _ hl => HLW.out.block g hl)).at (fun g _ hl => hb'.block g hl))
              have HOL : Hid (∀ g, u12.ownBlock = some g → g < W.heap.size) := Lib.hid (fun g e => Nat.lt_of_lt_of_le (HOA.out.lt g e) HLW.out.size)
              rw [hW]
              clear hW e1 e2 hV HOA
              go_upto_region 20 with (go_at_call 30; refine HOV.out.mono ?_; rintro e w8 ⟨A8, c8, rfl, hr8, _, hf8, hb8⟩; have HR8 := Lib.hid hr8; have HF8 := Lib.hid hf8; have HB8 := Lib.hid hb8; clear hr8 hf8 hb8)
              have HB58 := Lib.hid (HBWW.out.trans (HB8.out.mono HBWW.out.size))
              have HAW : Hid (AwayP w8 A8 V u12) := Lib.hid (fun hp => by
                obtain ⟨bv, ov, hA, hlt, hcc⟩ := HR8.out hp
                have h1 := HF8.out hp _ hA
                have h3 : W.heap.size ≤ bv := h1
                exact ⟨bv, ov, hA, hlt, fun e => by have := HOL.out bv e; omega, hcc⟩)
              have HO8 := Lib.hid (HOA8.out w8 HB8.out)
              go_loopw [12, 59] (fun av i wr => ∃ j : Nat, j ≤ V.length ∧ i = .int .i64 (j : Int) ∧ Hid (Own wr w5.heap.size av (allO K k ++ V.take j)) ∧ Hid (∀ v ∈ V.take j, lastK rows (ahK K) v T.length ≤ k) ∧ Hid (AwayP wr A8 V av) ∧ Below w5.heap.size w5 wr) (fun _ i _ => V.length - (intOf i).toNat)
              case atStart => exact ⟨0, Nat.zero_le _, rfl, Lib.hid (by rw [List.take_zero, List.append_nil]; exact HO8.out), Lib.hid (fun v hv => by simp at hv), HAW, HB58.out⟩
              case round =>
                obtain ⟨j, hj, rfl, HOJ, HLJ, HAJ, hbj⟩ := hrel
                by_cases hjl : j < V.length
                · have g1 : (j : Int) < (V.length : Int) := by omega
                  have g0' : (0 : Int) ≤ (j : Int) := by omega
                  have hbjs := hbj.size
                  obtain ⟨bv, ov, hA8, hlt, _, hcc⟩ := HAJ.out (by omega)
                  subst hA8
                  have e6 := hcc j hjl
                  have hxm := li_mem hjl
                  have hx := HVV.out _ ((HVM.out _).1 hxm)
                  have HTM := Lib.hid (fun v => take_memI (l := V) (j := j) hjl (v := v))
                  have HTS : Hid (V.take (j + 1) = V.take j ++ [li V j]) := Lib.hid (by rw [List.take_succ_eq_append_getElem hjl, li_get hjl])
                  obtain ⟨x, hxe⟩ : ∃ x, li V j = x := ⟨_, rfl⟩
                  rw [hxe] at e6 hx hxm HTM HTS
                  have lk := (HF.out.below hbj hZ5).look hx
                  obtain ⟨q, hq⟩ : ∃ q, lastK rows (ahK K) x T.length = q := ⟨_, rfl⟩
                  rw [hq] at lk
                  have HQE := Lib.hid hq
                  have HBJ := Lib.hid hbj
                  have hJl : (allO K k ++ V.take j).length ≤ 1000000 := by rw [List.length_append, List.length_take]; omega
                  obtain ⟨M, hM⟩ : ∃ M, allO K k ++ V.take j = M := ⟨_, rfl⟩
                  rw [hM] at HOJ hJl
                  have HM := Lib.hid hM
                  clear hcc hxe hq hM hbj hlt
                  by_cases hqk : k < q
                  · have q1 : (k : Int) < (q : Int) := by omega
                    have HN : Hid (¬ PR rows o K) := Lib.hid (fun h => by
                      rcases h.2 with h2 | ⟨h2, _⟩
                      · exact HR0.out (HNR.out.symm.trans h2)
                      · have h3 := h2 k (by rw [HKL.out]; exact hkl) x (by rw [HKO.out]; exact (HVM.out x).1 hxm)
                        rw [HKL.out, HQE.out] at h3
                        omega)
                    clear hqk hxm
                    go_wp2
                    go_ret
                    exact ⟨false, rfl, ⟨(fun e => by cases e), (fun h => absurd h HN.out)⟩, HBW5.out.trans (HBJ.out.mono HBW5.out.size)⟩
                  · have q1 : ¬ (k : Int) < (q : Int) := by omega
                    have HLN : Hid (∀ v ∈ V.take (j + 1), lastK rows (ahK K) v T.length ≤ k) := Lib.hid (fun v hv => by
                      rcases (HTM.out v).1 hv with h | h
                      · exact HLJ.out v h
                      · rw [h, HQE.out]; omega)
                    clear hqk hxm
                    go_wp2_with (at_builtin; refine wpList_append_own_at _ rfl _ _ 23 rfl w5.heap.size 3 i0 _ 1 8 Try.underlying23 hi0 hz0 hz1 hz2 rfl (by decide) _ _ _ rfl (World.ownsRow.alloc HOJ.out _) ⟨wr.heap.size, 0, none⟩ 1 1 [.int .i64 x] rfl rfl (cell_one_new _ _ _) (by simp [Value.oneCell']) (max_ok (by omega)) (by omega) (by simp; omega) ?_; intro v9 w9 hO9 hg9 _ hat9; have HA9 := Lib.hid (HAJ.out.app hg9 hat9); have q5 := Own.grow2 HOJ.out HBJ.out hbjs hg9; have HO9 : Hid (Own w9 w5.heap.size v9 (M ++ [x])) := Lib.hid (Own.push hO9); have HB9 := Lib.hid q5; clear hO9 hg9 hat9 q5)
                    go_roundw
                    case rel => exact ⟨j + 1, by omega, by go_num, Lib.hid (by rw [HTS.out, ← List.append_assoc, HM.out]; exact HO9.out), HLN, HA9, HB9.out⟩
                    case measure => simp [intOf]; omega
                · obtain rfl : j = V.length := by omega
                  have g1 : ¬ (V.length : Int) < (V.length : Int) := by omega
                  have HON : Hid (Own wr w5.heap.size u12 (allO K (k + 1))) := Lib.hid (by have h := HOJ.out; rw [List.take_length] at h; rw [HAS.out]; exact h)
                  have HLN : Hid (∀ i, i < k + 1 → ∀ v ∈ (kAt K i).2, lastK rows (ahK K) v T.length ≤ i) := Lib.hid (fun i hi v hv => by
                    by_cases e : i = k
                    · subst e
                      rw [HKO.out] at hv
                      exact HLJ.out v (by rw [List.take_length]; exact (HVM.out v).2 hv)
                    · exact HLK.out i (by omega) v hv)
                  have HBJ := Lib.hid hbj
                  clear hbj
                  go_wp2
                  go_roundw
                  case rel => exact ⟨k + 1, by omega, by go_num, HON, HLN, HBJ.out⟩
                  case measure => simp [intOf]; omega
            · obtain rfl : k = T.length := by omega
              have f1 : ¬ (T.length : Int) < (T.length : Int) := by omega
              have hal := HALL.out T.length (Nat.le_refl _)
              obtain ⟨A9, c9, hv9, hS⟩ := p_sort HOA.out (by omega)
              subst hv9
              have HS := Lib.hid hS
              have HBW := Lib.hid (HBW5.out.trans (hb.mono HBW5.out.size))
              have HPRE : Hid (PR rows o K ↔ srt (allO K T.length) = setL o) := Lib.hid (by
                unfold PR
                rw [HKL.out, HNR.out]
                constructor
                · rintro ⟨_, h | ⟨_, h⟩⟩
                  · exact absurd h HR0.out
                  · exact h
                · intro h
                  exact ⟨HCP.out, .inr ⟨HLK.out, h⟩⟩)
              have hsl := srt_len (allO K T.length)
              have hso := set_le o
              obtain ⟨SA, hSA⟩ : ∃ L, srt (allO K T.length) = L := ⟨_, rfl⟩
              obtain ⟨SO, hSO⟩ : ∃ L, setL o = L := ⟨_, rfl⟩
              rw [hSA] at HS HPRE hsl
              rw [hSO] at HOF HPRE hso
              obtain ⟨na, hna⟩ : ∃ n, (allO K T.length).length = n := ⟨_, rfl⟩
              rw [hna] at HS hal hsl ⊢
              have HSL := Lib.hid hsl
              have HEQ : Hid (∀ wx AO2 c2, RI wx wx.heap.size A9 SA → RI wx wx.heap.size AO2 SO → Calls Try.prog 32 #[.slice A9 na c9, .slice AO2 SO.length c2] wx fun e w' => e = .returned (.bool (decide (SA = SO))) ∧ Below wx.heap.size wx w') := Lib.hid (fun wx AO2 c2 h1 h2 => by
                rw [← HSL.out]
                exact equal_any A9 AO2 c9 c2 SA SO wx h1 h2 (by rw [HSL.out]; omega) (by omega))
              clear hS hsl hSA hSO hna hb
              go_wp2_with (first
                | (go_at_call 32; have _ := HRB; refine (HEQ.out _ _ _ (HRA.out.step HBB.out) HRB.out).mono ?_; rintro e w11 ⟨rfl, hb11⟩; have HB11 := Lib.hid hb11; clear hb11)
                | (go_at_call 30; have _ := HRA; refine (HOF.out _ HBA.out).mono ?_; rintro e w10 ⟨A10, c10, rfl, hr10, _, _, hb10⟩; have HRB := Lib.hid hr10; have HBB := Lib.hid hb10; clear hr10 hb10)
                | (go_at_call 31; refine HS.out.mono ?_; rintro e w9 ⟨rfl, hr9, hb9⟩; have HRA := Lib.hid hr9; have HBA := Lib.hid (HBW.out.trans (hb9.mono (HBW5.out.size))); clear hr9 hb9))
              go_ret
              exact ⟨decide (SA = SO), rfl, by rw [HPRE.out]; exact decide_eq_true_iff, HBA.out.trans ((HBB.out.trans (HB11.out.mono HBB.out.size)).mono HBA.out.size)⟩
end Go.Proofs.Ytjohdkcgodaeiaa
