/- The walk of SchedEarly; layer 42 (sched). -/
import Derived.Test.YtjohdkcgodaeiaaM3
import Derived.Test.YtjohdkcgodaeiaaWk1
import Derived.StillTailTactics
namespace Go.Proofs.Ytjohdkcgodaeiaa
open Go.RowKit

theorem kAt_mem {K : List (Int × List Int)} {k : Nat} (h : k < K.length) : kAt K k ∈ K := by
  unfold kAt
  simp [List.getD, List.getElem?_eq_getElem h]
theorem inc_step {l : List Int} (h : Inc l) {j : Nat} (hj : j + 1 < l.length) : li l j < li l (j + 1) := by
  rw [li_get (by omega), li_get hj]
  exact List.pairwise_iff_getElem.1 h j (j + 1) (by omega) hj (by omega)
/-- A region that reads and ends in one forced tail: the world behind its draw under a name of its own. -/
theorem still_tail {P : Program} {id : Nat} {Q : Exit → Act → World → Prop} {a : Act} {w : World} {l : List Oper} (n : Nat) (hm : P.follows .mixedOrders = true) (hB : Region.lexTailB .any l.toArray n = true)
    (h : ∀ w2, w2 = w.drew → wpStill P l.toArray w2 (fun a' => wpList P l.toArray Q (l.drop n) a' w2) (l.take n) a) : (Code.region id l.toArray true).wp P Q a w :=
  wp_region_still_tail n hm hB (h _ rfl)
/-- A region that only reads, closed to reduction: a guarded operation ahead would unfold the whole region. -/
structure StillH (P : Program) (ops : Array Oper) (w : World) (Q : Go.Act → Prop) (l : List Oper) (a : Go.Act) : Prop where
  out : wpStill P ops w Q l a
theorem stillH_tail {P : Program} {id : Nat} {Q : Exit → Go.Act → World → Prop} {a : Go.Act} {w : World} {l : List Oper} (n : Nat) (hm : P.follows .mixedOrders = true) (hB : Region.lexTailB .any l.toArray n = true)
    (h : ∀ w2, w2 = w.drew → StillH P l.toArray w2 (fun a' => wpList P l.toArray Q (l.drop n) a' w2) (l.take n) a) : (Code.region id l.toArray true).wp P Q a w :=
  still_tail n hm hB fun w2 hw2 => (h w2 hw2).out
theorem stillH_want {P : Program} {ops : Array Oper} {w : World} {Q : Go.Act → Prop} {a : Go.Act} {o : Oper} {rest : List Oper} (hw : Region.wanted o (yielded ops a.tmps) = true)
    (h : ∀ K : Go.Act → Prop, (∀ a, StillH P ops w Q rest a → K a) → o.still P a w K) : StillH P ops w Q (o :: rest) a :=
  ⟨wpStill_step fun K hK => by rw [if_pos hw]; exact h K fun a ha => hK a ha.out⟩
theorem stillH_skip {P : Program} {ops : Array Oper} {w : World} {Q : Go.Act → Prop} {a : Go.Act} {o : Oper} {rest : List Oper} (hw : Region.wanted o (yielded ops a.tmps) = false)
    (h : StillH P ops w Q rest (a.put o.dst undef)) : StillH P ops w Q (o :: rest) a :=
  ⟨wpStill_step fun K hK => by rw [if_neg (by rw [hw]; decide)]; exact hK _ h.out⟩
theorem stillH_nil {P : Program} {ops : Array Oper} {w : World} {Q : Go.Act → Prop} {a : Go.Act} (h : Q a) : StillH P ops w Q [] a := ⟨wpStill_nil h⟩
set_option maxRecDepth 100000 in
set_option maxHeartbeats 16000000 in
theorem schedEarly_walk (A : Option Addr) (ca : Nat) (rows : List Rw) (AO : Option Addr) (co : Nat) (o : List Int) (w : World) (hP : RR w w.heap.size A rows) (hr : rows.length ≤ maxLen)
    (hv : ∀ i, i < rows.length → (pr rows i).length ≤ maxLen ∧ ∀ v ∈ pr rows i, In64 v) (hO : RI w w.heap.size AO o) (hlo : o.length ≤ maxLen) (hvo : ∀ v ∈ o, In64 v) :
    Calls Try.prog 5 #[.slice A rows.length ca, .slice AO o.length co] w fun e w' => e = .returned (.bool true) ∧ Below w.heap.size w w' := by
  have HF := Lib.hid (law_few A AO none ca co 0 rows o [] w hP (StP.nil w none) hr hlo (Nat.zero_le _) (fun j hj => (hv j hj).1) (fun k hk => absurd hk (by simp)))
  have HLV : Hid (∀ w', Below w.heap.size w w' → Calls Try.prog 7 #[] w' fun e w'' => e = .returned (.bool true) ∧ Below w'.heap.size w' w'') := Lib.hid (fun w' hb => (law_lives w').mono fun e w'' ⟨he, hb2⟩ => ⟨he, hb2⟩)
  have hok := plan_ok rows o
  have hpe := plan_eq rows o
  obtain ⟨K, hK⟩ : ∃ K, planR rows o = K := ⟨_, rfl⟩
  have hll := plan_len rows o
  rw [← hpe, hK] at hll
  rw [hK] at hok
  have HP := Lib.hid hP
  have HO := Lib.hid hO
  have HV := Lib.hid hv
  have HVO := Lib.hid hvo
  have HLL := Lib.hid hll
  have HOK := Lib.hid hok
  have HPL : Hid (FewP rows o [] → ∀ w', Below w.heap.size w w' → Calls Try.prog 8 #[.slice A rows.length ca, .slice AO o.length co] w' (PlanP w' K)) := Lib.hid (fun hf w' hb => by
    obtain ⟨f1, _, f3, f4, _⟩ := hf
    rw [← hK]
    exact p_Plan A AO ca co rows o w' (hP.step hb) (hO.step hb) (by omega) (by omega) (fun j hj => by have := f1 j hj; omega) (fun j hj => (hv j hj).2) hvo)
  clear hP hr hv hO hlo hvo hK hll hok hpe
  go_enter Try.func5, Try.ntmps5
  go_upto_region 2 with (go_at_call 6; refine HF.out.mono ?_; rintro e w1 ⟨q, rfl, hq, hb1⟩; have HQ := Lib.hid hq; have HB1 := Lib.hid hb1; clear hq hb1)
  · go_wp2_with (go_at_call 7; refine (HLV.out _ HB1.out).mono ?_; rintro e w2 ⟨rfl, hb2⟩; have HB2 := Lib.hid (HB1.out.trans (hb2.mono HB1.out.size)); clear hb2)
    go_ret
    exact ⟨rfl, HB2.out⟩
  · have hqt : q = true := by cases q <;> simp_all
    have HFW := Lib.hid (HQ.out hqt)
    have hrl := HFW.out.2.2.1
    have hol := HFW.out.2.2.2.1
    have HPL2 := Lib.hid (HPL.out HFW.out)
    clear hqt HPL HQ HF
    refine (HPL2.out _ HB1.out).mono ?_
    rintro e w2 ⟨A2, c2, T, he, hs2, hm2, hb2⟩
    have hTn : T.length = rows.length := by rw [← HOK.out.len, ← hm2, List.length_map]
    have HTN := Lib.hid hTn
    rw [hTn] at he
    subst he
    have HS2 := Lib.hid hs2
    have HB2 := Lib.hid (HB1.out.trans (hb2.mono HB1.out.size))
    have HM2 := Lib.hid hm2
    have HSTS : Hid (∀ k, k < rows.length → (stAt T k).1 = (kAt K k).1 ∧ (stAt T k).2.2.2 = (kAt K k).2 ∧ (stAt T k).2.2.2.length ≤ 12 ∧ ∀ v ∈ (stAt T k).2.2.2, v ∈ o) := Lib.hid (fun k hk => by
      have h1 := kAt_fst T k
      have h2 := kAt_snd T k
      rw [hm2] at h1 h2
      have hkK : k < K.length := by rw [HOK.out.len]; exact hk
      have h3 := HLL.out _ (kAt_mem hkK)
      refine ⟨h1.symm, h2.symm, by rw [← h2]; omega, fun v hv => ?_⟩
      rw [← h2] at hv
      have h4 : v ∈ outsU K K.length := by
        unfold outsU
        rw [List.take_length, List.mem_flatMap]
        exact ⟨_, kAt_mem hkK, hv⟩
      exact ((HOK.out.outs v).1 h4).1)
    have HCON : Hid ((∀ w', Below w.heap.size w w' → StP w' A2 T → Calls Try.prog 12 #[.slice A rows.length ca, .slice AO o.length co, .slice A2 rows.length c2] w' fun e w'' => e = .returned (.bool true) ∧ Below w'.heap.size w' w'') ∧
      (∀ w', Below w.heap.size w w' → StP w' A2 T → Calls Try.prog 14 #[.slice A rows.length ca, .slice AO o.length co, .slice A2 rows.length c2] w' (OwnR w' (ll rows K rows.length))) ∧
      (∀ w', Below w.heap.size w w' → StP w' A2 T → Calls Try.prog 16 #[.slice A rows.length ca, .slice AO o.length co, .slice A2 rows.length c2] w' fun e w'' => e = .returned (.int .i64 ((mx rows K rows.length : Nat) : Int)) ∧ Below w'.heap.size w' w'')) := Lib.hid (by
      obtain ⟨f1, _, f3, f4, _⟩ := HFW.out
      have g1 : ∀ j, j < rows.length → (pr rows j).length ≤ 1000 := fun j hj => by have := f1 j hj; omega
      have g2 : ∀ k, k < T.length → (stAt T k).2.2.2.length ≤ 1000 := fun k hk => by have := (HSTS.out k (by rw [← HTN.out]; exact hk)).2.2.1; omega
      have g3 : ∀ j, j < rows.length → ∀ v ∈ pr rows j, In64 v := fun j hj => (HV.out j hj).2
      have g4 : ∀ k, k < T.length → ∀ v ∈ (stAt T k).2.2.2, In64 v := fun k hk v hv => HVO.out v ((HSTS.out k (by rw [← HTN.out]; exact hk)).2.2.2 v hv)
      have hTl : T.length ≤ 8 := by rw [HTN.out]; exact f3
      refine ⟨fun w' hb hs => ?_, fun w' hb hs => ?_, fun w' hb hs => ?_⟩
      · have h := p_Right A AO A2 ca co c2 rows o T w' (HP.out.step hb) (HO.out.step hb) hs (by omega) (by omega) (by omega) g1 g2 g3 g4
        rw [HTN.out, HM2.out] at h
        exact h.mono fun e w'' ⟨q, he, hq, hb'⟩ => ⟨by rw [he, hq.2 HOK.out.right], hb'⟩
      · have h := p_Live A AO A2 ca co c2 rows o.length T w' (HP.out.step hb) hs (by omega) (by omega) g1 g2 g3 g4
        rw [HTN.out, HM2.out] at h
        exact h
      · have h := p_Widest A AO A2 ca co c2 rows o.length T w' (HP.out.step hb) hs (by omega) (by omega) g1 g2 g3 g4
        rw [HTN.out, HM2.out] at h
        exact h)
    clear hs2 hm2 hb2 hTn
    have mk41 := make41
    have HC12 := Lib.hid HCON.out.1
    dsimp only
    go_upto_region 8 with (go_at_call 12; (with_reducible refine (HC12.out _ HB2.out HS2.out).mono ?_); rintro e w3 ⟨rfl, hb3⟩; have HB3 := Lib.hid (HB2.out.trans (hb3.mono HB2.out.size)); have HS3 := Lib.hid (HS2.out.step hb3); clear hb3)
    have hnm0 := NM.made w3
    have HNM0 := Lib.hid hnm0
    have HBM0 : Hid (Below w3.heap.size w3 (w3.alloc (.map #[] 0))) := Lib.hid ((Below.refl _ _).alloc (Nat.le_refl _) _)
    clear hnm0
    go_loopw [43] (fun i wr => ∃ (k : Nat) (Ka : List Int), k ≤ rows.length ∧ i = .int .i64 (k : Int) ∧ Hid (NM wr w3.heap.size (1000 * k) Ka ∧ Ka.Nodup ∧ ∀ v, v ∈ Ka ↔ seenK rows K k v) ∧ Below w3.heap.size w3 wr) (fun i _ => rows.length - (intOf i).toNat)
    case atStart => exact ⟨0, [], Nat.zero_le _, rfl, Lib.hid ⟨HNM0.out, List.nodup_nil, fun v => by unfold seenK; simp⟩, HBM0.out⟩
    case round =>
      obtain ⟨k, Ka, hk, rfl, HNA, hb⟩ := hrel
      have hbs := hb.size
      have HB := Lib.hid hb
      by_cases hkl : k < rows.length
      · have h1 : (k : Int) < (rows.length : Int) := by omega
        have h0 : (0 : Int) ≤ (k : Int) := by omega
        have hkT : k < T.length := by rw [HTN.out]; exact hkl
        have hkK : k < K.length := by rw [HOK.out.len]; exact hkl
        have HBW := Lib.hid (HB3.out.trans (hb.mono HB3.out.size))
        obtain ⟨b, off, hA2, hbl, hc⟩ := HS3.out.1 (by omega)
        subst hA2
        obtain ⟨c1, c2'⟩ := hc k hkT
        have e1 := (hb.cell (p := ⟨b, off + k * 2, none⟩) hbl).trans c1
        have e2 := (hb.cell (p := ⟨b, off + k * 2 + 1, none⟩) hbl).trans c2'
        unfold rcell at e2
        have HRO := Lib.hid (HS3.out.2 k hkT)
        obtain ⟨s1, s2, s3, s4⟩ := HSTS.out k hkl
        obtain ⟨hm0, hm1, _⟩ := HOK.out.right.1.2 k hkK
        have hhas := HOK.out.has k hkK
        have hinc := HOK.out.inc k hkK
        rw [← s1] at hm0 hm1
        rw [← s2] at hinc hhas
        obtain ⟨m, hm⟩ : ∃ m : Nat, (stAt T k).1 = (m : Int) := ⟨(stAt T k).1.toNat, by omega⟩
        have HMK : Hid ((kAt K k).1.toNat = m) := Lib.hid (by rw [← s1, hm]; rfl)
        rw [HMK.out] at hhas
        rw [hm] at e1 hm0 hm1
        have hml : m < rows.length := by omega
        generalize (stAt T k).2.1 = Ak at *
        generalize (stAt T k).2.2.1 = ck at *
        generalize (stAt T k).2.2.2 = O at *
        have HS4 := Lib.hid (fun v hv => HVO.out v (s4 v hv))
        have HINC := Lib.hid hinc
        obtain ⟨bp, op, rfl, hbp, hcp⟩ := HP.out.at_ (by omega)
        have e3 := (HBW.out.cell (p := ⟨bp, op + m, none⟩) hbp).trans (hcp m hml)
        have HROW := Lib.hid (HP.out.row m hml).1
        have hlm := HFW.out.1 m hml
        have HVL := Lib.hid (HV.out m hml).2
        unfold rcell at e3
        have HPR : Hid (pr rows m = (rw_ rows m).2.2) := Lib.hid rfl
        rw [HPR.out] at hlm HVL hhas
        obtain ⟨⟨Ap, cp, L⟩, hrk⟩ : ∃ r, rw_ rows m = r := ⟨_, rfl⟩
        rw [hrk] at e3 HROW hlm HVL HPR hhas
        dsimp only at e3 HROW hlm HVL HPR hhas
        have HHAS := Lib.hid hhas
        have HSK : Hid (∀ v, seenK rows K (k + 1) v ↔ seenK rows K k v ∨ v ∈ L) := Lib.hid (fun v => by
          unfold seenK
          constructor
          · rintro ⟨i, hi, h⟩
            by_cases e : i = k
            · subst e; rw [HMK.out, HPR.out] at h; exact .inr h
            · exact .inl ⟨i, by omega, h⟩
          · rintro (⟨i, hi, h⟩ | h)
            · exact ⟨i, by omega, h⟩
            · exact ⟨k, by omega, by rw [HMK.out, HPR.out]; exact h⟩)
        clear hc c1 c2' hcp hrk s1 s2 s4 hhas hinc hm hb hkT hkK
        go_upto_region 10 with (fail)
        obtain ⟨W, hW⟩ : ∃ W, wr.alloc (.cells #[.int .i64 (m : Int), .slice Ak O.length ck] 31) = W := ⟨_, rfl⟩
        have HLW : Hid (Below wr.heap.size wr W) := Lib.hid (by rw [← hW]; exact (Below.refl _ _).alloc (Nat.le_refl _) _)
        have hs1 : W.heap.size = wr.heap.size + 1 := by rw [← hW]; simp
        have HXB : Hid (Blk W wr.heap.size 31 #[.int .i64 (m : Int), .slice Ak O.length ck]) := Lib.hid (by rw [← hW]; exact Blk.new _ _ _)
        have HB3W := Lib.hid (HB.out.trans (HLW.out.mono hbs))
        have e5 : W.cell? ⟨bp, op + m, none⟩ = some (.slice Ap L.length cp) := (HLW.out.cell (p := ⟨bp, op + m, none⟩) (Nat.lt_of_lt_of_le hbp HBW.out.size)).trans e3
        have x0 : W.cell? ⟨wr.heap.size, 0, none⟩ = some (.int .i64 (m : Int)) := HXB.out.cell 0
        have x2 : wr.heap.size < W.heap.size := HXB.out.lt
        rw [hW]
        have HS1 := Lib.hid hs1
        clear hW hs1 e1 e2 e3
        go_upto_region 13 with (fail)
        obtain ⟨W2, hW2⟩ : ∃ W2, W.alloc (.map #[] 0) = W2 := ⟨_, rfl⟩
        have HW2 : Hid (Below W.heap.size W W2) := Lib.hid (by rw [← hW2]; exact (Below.refl _ _).alloc (Nat.le_refl _) _)
        have HSM2 : Hid (SM W2 W.heap.size 0 (fun v => mem (L.take 0) v)) := Lib.hid (by
          have h := SM.made W
          rw [hW2] at h
          have e : (fun v => mem (L.take 0) v) = fun _ => false := by funext v; unfold mem; simp
          rw [e]; exact h)
        have HB32 := Lib.hid (HB3W.out.trans (HW2.out.mono HB3W.out.size))
        have hz3 := HNA.out.1.lt
        have HNW2 : Hid (NM W2 w3.heap.size (1000 * k + 0) Ka ∧ Ka.Nodup ∧ ∀ v, v ∈ Ka ↔ v ∈ Ka ∨ v ∈ L.take 0) := Lib.hid ⟨(HNA.out.1.below HLW.out hz3).below HW2.out (by omega), HNA.out.2.1, fun v => by simp⟩
        have HX2 := Lib.hid (HXB.out.below HW2.out x2)
        have x0' : W2.cell? ⟨wr.heap.size, 0, none⟩ = some (.int .i64 (m : Int)) := HX2.out.cell 0
        have e5' : W2.cell? ⟨bp, op + m, none⟩ = some (.slice Ap L.length cp) := (HW2.out.cell (p := ⟨bp, op + m, none⟩) (Nat.lt_of_lt_of_le hbp (Nat.le_trans HBW.out.size HLW.out.size))).trans e5
        rw [hW2]
        have HX2L := Lib.hid HX2.out.lt
        have HW2S := Lib.hid HW2.out.size
        clear hW2 e5 x0
        generalize wr.heap.size = g8 at *
        go_upto_region 14 with (fail)
        go_loopw [65] (fun i wr => ∃ (j : Nat) (K2 : List Int), j ≤ L.length ∧ i = .int .i64 (j : Int) ∧ Hid (NM wr w3.heap.size (1000 * k + j) K2 ∧ K2.Nodup ∧ ∀ v, v ∈ K2 ↔ v ∈ Ka ∨ v ∈ L.take j) ∧ Hid (SM wr W.heap.size j (fun v => mem (L.take j) v)) ∧ Below w3.heap.size w3 wr ∧ Hid (Kp (fun b => b ≠ w3.heap.size ∧ b ≠ W.heap.size) W2 wr)) (fun i _ => L.length - (intOf i).toNat)
        case atStart => exact ⟨0, Ka, Nat.zero_le _, rfl, HNW2, HSM2, HB32.out, Lib.hid ⟨Nat.le_refl _, fun _ _ _ => rfl⟩⟩
        case round =>
          obtain ⟨j, K2, hj, rfl, HNJ, HSJ, hbj, HKJ⟩ := hrel
          have hZW : w3.heap.size ≠ W.heap.size := by have := hz3; have := HS1.out; omega
          by_cases hjl : j < L.length
          · have g1 : (j : Int) < (L.length : Int) := by omega
            have g0 : (0 : Int) ≤ (j : Int) := by omega
            obtain ⟨bo, oo, rfl, hbo, hco⟩ := HROW.out (by omega)
            have e6 : wr.cell? ⟨bo, oo + j, none⟩ = some (.int .i64 (li L j)) := ((HB3.out.trans (hbj.mono HB3.out.size)).cell (p := ⟨bo, oo + j, none⟩) hbo).trans (hco j hjl)
            have hx := HVL.out _ (li_mem hjl)
            have HTM := Lib.hid (fun v => take_memI (l := L) (j := j) hjl (v := v))
            obtain ⟨x, hxe⟩ : ∃ x, li L j = x := ⟨_, rfl⟩
            rw [hxe] at e6 hx HTM
            obtain ⟨W3, r1, f1, hg1⟩ := HSJ.out.put hx (by unfold maxLen; omega)
            have hn1 := HNJ.out.1.at (hg1.block _ HNJ.out.1.lt (fun e => by injection e with e; omega))
            obtain ⟨W4, r2, f2, hg2⟩ := hn1.put hx (by unfold maxLen; omega)
            have hs2 := f1.at (hg2.block _ f1.lt (fun e => by injection e with e; omega))
            have HNN : Hid (NM W4 w3.heap.size (1000 * k + (j + 1)) (kPut K2 x) ∧ (kPut K2 x).Nodup ∧ ∀ v, v ∈ kPut K2 x ↔ v ∈ Ka ∨ v ∈ L.take (j + 1)) := Lib.hid ⟨f2, kPut_nodup HNJ.out.2.1 x, fun v => by
              rw [kPut_mem, HNJ.out.2.2 v, HTM.out v]
              constructor
              · rintro (h | h | h)
                · exact .inr (.inr h)
                · exact .inl h
                · exact .inr (.inl h)
              · rintro (h | h | h)
                · exact .inr (.inl h)
                · exact .inr (.inr h)
                · exact .inl h⟩
            have HSN : Hid (SM W4 W.heap.size (j + 1) (fun v => mem (L.take (j + 1)) v)) := Lib.hid (by
              have e : (fun y => decide (y = x) || mem (L.take j) y) = fun v => mem (L.take (j + 1)) v := by
                funext v
                unfold mem
                rw [← Bool.decide_or]
                exact decide_eq_decide.2 (by rw [HTM.out v, or_comm])
              rw [← e]; exact hs2)
            have HBN : Hid (Below w3.heap.size w3 W4) := Lib.hid ((hbj.grown hg1 hbj.size (fun q e => by injection e with e; rw [← e]; exact HB3W.out.size)).grown hg2 (Nat.le_trans hbj.size hg1.size) (fun q e => by injection e with e; omega))
            have HKN := Lib.hid ((HKJ.out.trans (Kp.grown (Q := fun b => b ≠ w3.heap.size ∧ b ≠ W.heap.size) hg1 (fun b hb => hb.2))).trans (Kp.grown hg2 (fun b hb => hb.1)))
            clear hco f1 f2 hg1 hg2 hn1 hs2 hbj hxe hx
            go_wp2
            go_roundw
            case rel => exact ⟨j + 1, _, by omega, by go_num, HNN, HSN, HBN.out, HKN⟩
            case measure => simp [intOf]; omega
          · obtain rfl : j = L.length := by omega
            have g1 : ¬ (L.length : Int) < (L.length : Int) := by omega
            have HNK : Hid (NM wr w3.heap.size (1000 * (k + 1)) K2 ∧ K2.Nodup ∧ ∀ v, v ∈ K2 ↔ seenK rows K (k + 1) v) := Lib.hid ⟨HNJ.out.1.mono (by omega), HNJ.out.2.1, fun v => by rw [HNJ.out.2.2 v, List.take_length, HNA.out.2.2 v, HSK.out v]⟩
            have HSL : Hid (SM wr W.heap.size L.length (fun v => mem L v)) := Lib.hid (by have h := HSJ.out; rw [List.take_length] at h; exact h)
            have HBJ := Lib.hid hbj
            have x1 : wr.cell? ⟨g8, 1, none⟩ = some (.slice Ak O.length ck) := (cell_at (HKJ.out.2 g8 ⟨by omega, by omega⟩ HX2L.out)).trans (HX2.out.cell 1)
            have x9 : g8 < wr.heap.size := Nat.lt_of_lt_of_le HX2L.out HKJ.out.1
            have HBWR := Lib.hid (HB3.out.trans (hbj.mono HB3.out.size))
            have HRO2 := Lib.hid (HRO.out.below hbj)
            generalize wr = w9 at *
            clear hbj
            go_upto_region 19 with (fail)
            go_loopw [77] (fun i wr => ∃ j : Nat, j ≤ O.length ∧ i = .int .i64 (j : Int) ∧ wr = w9) (fun i _ => O.length - (intOf i).toNat)
            case atStart => exact ⟨0, Nat.zero_le _, rfl, rfl⟩
            case round =>
              obtain ⟨j, hj2, rfl, hw⟩ := hrel
              have HWE := Lib.hid hw
              subst hw
              by_cases hjl2 : j < O.length
              · have g1' : (j : Int) < (O.length : Int) := by omega
                have g0' : (0 : Int) ≤ (j : Int) := by omega
                obtain ⟨bo, oo, rfl, hbo, hco⟩ := HRO2.out (by omega)
                have c1 := hco j hjl2
                have hx := HS4.out _ (li_mem hjl2)
                have lk := HSL.out.look hx
                have hmem : 0 < k → mem L (li O j) = true := fun h => memT.2 (HHAS.out h _ (li_mem hjl2))
                have hprev : 0 < j → wr.cell? ⟨bo, oo + (j - 1), none⟩ = some (.int .i64 (li O (j - 1))) ∧ li O (j - 1) < li O j := fun h => ⟨hco (j - 1) (by omega), by have := inc_step HINC.out (j := j - 1) (by omega); rwa [show j - 1 + 1 = j by omega] at this⟩
                obtain ⟨x, hxe⟩ : ∃ x, li O j = x := ⟨_, rfl⟩
                rw [hxe] at c1 lk hmem hprev
                clear hco hx hxe
                by_cases k0 : 0 < k
                · have k0' : (0 : Int) < (k : Int) := by omega
                  rw [hmem k0] at lk
                  by_cases j0 : 0 < j
                  · obtain ⟨hp1, hp2⟩ := hprev j0
                    obtain ⟨y, hy⟩ : ∃ y, li O (j - 1) = y := ⟨_, rfl⟩
                    rw [hy] at hp1 hp2
                    obtain ⟨j', rfl⟩ : ∃ j', j = j' + 1 := ⟨j - 1, by omega⟩
                    have hp1' : wr.cell? ⟨bo, oo + j', none⟩ = some (.int .i64 y) := hp1
                    have j1 : (0 : Int) < ((j' + 1 : Nat) : Int) := by omega
                    have j1' : (0 : Int) < (j' : Int) + 1 := by omega
                    have j2 : (j' : Int) < (O.length : Int) := by omega
                    have j3 : (0 : Int) ≤ (j' : Int) := by omega
                    have j4 : ¬ x ≤ y := by omega
                    have hwp : IntKind.i64.wrap (j' : Int) = (j' : Int) := IntWalk.i64_in _ (by omega)
                    clear hp1 hp2 hy hmem hprev j0 k0
                    go_wp2
                    go_roundw
                    case rel => exact ⟨j' + 1 + 1, by omega, by go_num, by first | rfl | trivial⟩
                    case measure => simp [intOf]; omega
                  · have j0' : ¬ (0 : Int) < (j : Int) := by omega
                    clear hmem hprev j0 k0
                    go_wp2
                    go_roundw
                    case rel => exact ⟨j + 1, by omega, by go_num, by first | rfl | trivial⟩
                    case measure => simp [intOf]; omega
                · have k0' : ¬ (0 : Int) < (k : Int) := by omega
                  by_cases j0 : 0 < j
                  · obtain ⟨hp1, hp2⟩ := hprev j0
                    obtain ⟨y, hy⟩ : ∃ y, li O (j - 1) = y := ⟨_, rfl⟩
                    rw [hy] at hp1 hp2
                    obtain ⟨j', rfl⟩ : ∃ j', j = j' + 1 := ⟨j - 1, by omega⟩
                    have hp1' : wr.cell? ⟨bo, oo + j', none⟩ = some (.int .i64 y) := hp1
                    have j1 : (0 : Int) < ((j' + 1 : Nat) : Int) := by omega
                    have j1' : (0 : Int) < (j' : Int) + 1 := by omega
                    have j2 : (j' : Int) < (O.length : Int) := by omega
                    have j3 : (0 : Int) ≤ (j' : Int) := by omega
                    have j4 : ¬ x ≤ y := by omega
                    have hwp : IntKind.i64.wrap (j' : Int) = (j' : Int) := IntWalk.i64_in _ (by omega)
                    clear hp1 hp2 hy hmem hprev j0 k0
                    go_wp2
                    go_roundw
                    case rel => exact ⟨j' + 1 + 1, by omega, by go_num, by first | rfl | trivial⟩
                    case measure => simp [intOf]; omega
                  · have j0' : ¬ (0 : Int) < (j : Int) := by omega
                    clear hmem hprev j0 k0
                    go_wp2
                    go_roundw
                    case rel => exact ⟨j + 1, by omega, by go_num, by first | rfl | trivial⟩
                    case measure => simp [intOf]; omega
              · obtain rfl : j = O.length := by omega
                have g1' : ¬ (O.length : Int) < (O.length : Int) := by omega
                go_wp2
                go_roundw
                case rel => exact ⟨k + 1, K2, by omega, by go_num, HNK, HBJ.out⟩
                case measure => simp [intOf]; omega
      · obtain rfl : k = rows.length := by omega
        have h1 : ¬ (rows.length : Int) < (rows.length : Int) := by omega
        clear hb
        go_wp2
        go_loopw [108] (fun i wr => ∃ (j : Nat) (Kb : List Int), j ≤ o.length ∧ i = .int .i64 (j : Int) ∧ Hid (NM wr w3.heap.size (1000 * rows.length) Kb ∧ Kb.Nodup ∧ ∀ v, v ∈ Kb ↔ v ∈ Ka ∧ v ∉ o.take j) ∧ Below w3.heap.size w3 wr) (fun i _ => o.length - (intOf i).toNat)
        case atStart => exact ⟨0, Ka, Nat.zero_le _, rfl, Lib.hid ⟨HNA.out.1, HNA.out.2.1, fun v => by simp⟩, HB.out⟩
        case round =>
          obtain ⟨j, Kb, hj, rfl, HNB, hb⟩ := hrel
          by_cases hjl : j < o.length
          · have g1 : (j : Int) < (o.length : Int) := by omega
            have g0 : (0 : Int) ≤ (j : Int) := by omega
            obtain ⟨bo, oo, rfl, hbo, hco⟩ := HO.out (by omega)
            have e6 : wr.cell? ⟨bo, oo + j, none⟩ = some (.int .i64 (li o j)) := ((HB3.out.trans (hb.mono HB3.out.size)).cell (p := ⟨bo, oo + j, none⟩) hbo).trans (hco j hjl)
            have hx := HVO.out _ (li_mem hjl)
            have HTM := Lib.hid (fun v => take_memI (l := o) (j := j) hjl (v := v))
            obtain ⟨x, hxe⟩ : ∃ x, li o j = x := ⟨_, rfl⟩
            rw [hxe] at e6 hx HTM
            obtain ⟨W3, r1, f1, hg1⟩ := HNB.out.1.cut HNB.out.2.1 hx 0
            have HNN : Hid (NM W3 w3.heap.size (1000 * rows.length) (kDel Kb x) ∧ (kDel Kb x).Nodup ∧ ∀ v, v ∈ kDel Kb x ↔ v ∈ Ka ∧ v ∉ o.take (j + 1)) := Lib.hid ⟨f1, kDel_nodup HNB.out.2.1 x, fun v => by
              rw [kDel_mem, HNB.out.2.2 v, HTM.out v]
              constructor
              · rintro ⟨h1, h2, h3⟩; exact ⟨h2, fun q => q.elim h3 h1⟩
              · rintro ⟨h2, h3⟩; exact ⟨fun q => h3 (.inr q), h2, fun q => h3 (.inl q)⟩⟩
            have HBN : Hid (Below w3.heap.size w3 W3) := Lib.hid (hb.grown hg1 hb.size (fun q e => by injection e with e; omega))
            clear hco f1 hg1 hb hxe hx
            go_wp2
            go_roundw
            case rel => exact ⟨j + 1, _, by omega, by go_num, HNN, HBN.out⟩
            case measure => simp [intOf]; omega
          · obtain rfl : j = o.length := by omega
            have g1 : ¬ (o.length : Int) < (o.length : Int) := by omega
            have HNF : Hid (∀ v, v ∈ Kb ↔ seenK rows K rows.length v ∧ v ∉ o) := Lib.hid (fun v => by rw [HNB.out.2.2 v, List.take_length, HNA.out.2.2 v])
            have HBW := Lib.hid (HB3.out.trans (hb.mono HB3.out.size))
            have HS9 := Lib.hid (HS3.out.step hb)
            have H14 := Lib.hid HCON.out.2.1
            have H16 := Lib.hid HCON.out.2.2
            have HLN := Lib.hid (ll_len rows K rows.length)
            have HLA : Hid (∀ j, j < rows.length → li (ll rows K rows.length) j = (((liveL rows K (j + 1)).length : Nat) : Int)) := Lib.hid (fun j hj => by
              unfold li ll
              simp [List.getD, hj])
            have HLE : Hid (∀ j, j < rows.length → (liveL rows K (j + 1)).length ≤ mx rows K rows.length) := Lib.hid (fun j hj => Nat.le_trans (live_wid (by rw [HOK.out.len]; exact hj)) (wid_mx hj))
            obtain ⟨LL, hLL⟩ : ∃ L, ll rows K rows.length = L := ⟨_, rfl⟩
            obtain ⟨M, hM⟩ : ∃ M, mx rows K rows.length = M := ⟨_, rfl⟩
            rw [hLL] at H14 HLN HLA
            rw [hM] at H16 HLE
            have HKL : Hid (0 < rows.length → Kb.length = (liveL rows K rows.length).length) := Lib.hid (fun h0 => nodup_len HNB.out.2.1 (inc_nodup live_inc) (fun v => by
              have h := seen_live HOK.out (by rw [HOK.out.len]; exact h0) v
              rw [HOK.out.len] at h
              rw [HNF.out v, h]))
            have hz3 := HNB.out.1.lt
            have HB3R := Lib.hid hb
            clear hLL hM hb
            go_upto_region 35 with (first
              | (go_at_call 16; have _ := HB14; (with_reducible refine (H16.out _ HB14.out HS14.out).mono ?_); rintro e w6 ⟨rfl, hb6⟩; have HR6 := Lib.hid (HR14.out.step hb6); have HB16 := Lib.hid (HB14.out.trans (hb6.mono HB14.out.size)); have HN6 := Lib.hid (HN5.out.below hb6 HN5.out.lt); clear hb6)
              | (go_at_call 14; (with_reducible refine (H14.out _ HBW.out HS9.out).mono ?_); rintro e w5 ⟨v5, rfl, ho5, hb5⟩; obtain ⟨A5, c5, he5, hr5, _⟩ := ho5.form; rw [HLN.out] at he5; subst he5; have HR14 := Lib.hid hr5; have HS14 := Lib.hid (HS9.out.step hb5); have HB14 := Lib.hid (HBW.out.trans (hb5.mono HBW.out.size)); have HN5 := Lib.hid (HNB.out.1.below hb5 hz3); clear ho5 hr5 hb5))
            go_loopw [130] (fun i wr => ∃ j : Nat, j ≤ rows.length ∧ i = .int .i64 (j : Int) ∧ wr = w6) (fun i _ => rows.length - (intOf i).toNat)
            case atStart => exact ⟨0, Nat.zero_le _, rfl, rfl⟩
            case round =>
              obtain ⟨j, hj2, rfl, hw⟩ := hrel
              subst hw
              by_cases hjl2 : j < rows.length
              · have g1' : (j : Int) < (rows.length : Int) := by omega
                have g0' : (0 : Int) ≤ (j : Int) := by omega
                obtain ⟨bo, oo, rfl, hbo, hco⟩ := HR6.out (by rw [HLN.out]; omega)
                have c1 := hco j (by rw [HLN.out]; exact hjl2)
                rw [HLA.out j hjl2] at c1
                have hle := HLE.out j hjl2
                obtain ⟨x, hx⟩ : ∃ x, (liveL rows K (j + 1)).length = x := ⟨_, rfl⟩
                rw [hx] at c1 hle
                have g2 : ¬ (M : Int) < (x : Int) := by omega
                clear hco hx hle
                go_wp2
                go_roundw
                case rel => exact ⟨j + 1, by omega, by go_num, by first | rfl | trivial⟩
                case measure => simp [intOf]; omega
              · obtain rfl : j = rows.length := by omega
                have g1' : ¬ (rows.length : Int) < (rows.length : Int) := by omega
                have HLVR := Lib.hid (fun w' (hb : Below wr.heap.size wr w') => HLV.out w' (HB16.out.trans (hb.mono HB16.out.size)))
                generalize rows.length = N at *
                by_cases hN0 : N = 0
                · have g2 : ((N : Int) == 0) = true := by rw [hN0]; rfl
                  have HD : Hid (Below wr.heap.size wr wr.drew) := Lib.hid (Below.refl _ _).drew
                  clear g2
                  subst hN0
                  go_upto_region 40 with (fail)
                  refine stillH_tail 15 (by kernel_rfl) (by kernel_rfl) fun w2' hw2' => ?_
                  simp only [List.take_succ_cons, List.take_zero, List.drop_succ_cons, List.drop_zero]
                  have HD2 : Hid (Below wr.heap.size wr w2') := Lib.hid (by rw [hw2']; exact HD.out)
                  clear hw2'
                  iterate 4 (refine stillH_want (by kernel_rfl) (fun K hK => ?_); go_simp; refine hK _ ?_; clear hK K)
                  iterate 9 (refine stillH_skip (by kernel_rfl) ?_)
                  iterate 2 (refine stillH_want (by kernel_rfl) (fun K hK => ?_); go_simp; refine hK _ ?_; clear hK K)
                  refine stillH_nil ?_
                  go_wp2_with (go_at_call 7; (with_reducible refine (HLVR.out _ HD2.out).mono ?_); rintro e w11 ⟨rfl, hb11⟩; have HB11 := Lib.hid (HD2.out.trans (hb11.mono HD2.out.size)); clear hb11)
                  go_ret
                  exact ⟨rfl, HB16.out.trans (HB11.out.mono HB16.out.size)⟩
                · have g2 : ((N : Int) == 0) = false := by rw [beq_eq_false_iff_ne]; omega
                  obtain ⟨n1, hn1⟩ : ∃ n1, N = n1 + 1 := ⟨N - 1, by omega⟩
                  obtain ⟨bo, oo, rfl, hbo, hco⟩ := HR6.out (by rw [HLN.out]; omega)
                  have c1 := hco n1 (by rw [HLN.out]; omega)
                  rw [HLA.out n1 (by omega), ← hn1, ← HKL.out (by omega)] at c1
                  have hlen := HN6.out.len 3
                  have hlen2 : (Builtin.len_ #[41] 3 #[.map (some w3.heap.size)]).run Try.prog wr.drew = .ok (.int .i64 Kb.length) wr.drew := (show NM wr.drew w3.heap.size (1000 * N) Kb from HN6.out).len 3
                  obtain ⟨kb, hkb⟩ : ∃ n, Kb.length = n := ⟨_, rfl⟩
                  rw [hkb] at c1 hlen hlen2
                  have j2 : (n1 : Int) < (N : Int) := by omega
                  have j3 : (0 : Int) ≤ (n1 : Int) := by omega
                  have hwp : IntKind.i64.wrap ((N : Int) - 1) = (n1 : Int) := by rw [hn1, IntWalk.i64_in _ (by omega)]; omega
                  have HN1 := Lib.hid hn1
                  have HD : Hid (Below wr.heap.size wr wr.drew) := Lib.hid (Below.refl _ _).drew
                  clear hco hn1 hkb hN0
                  go_upto_region 40 with (fail)
                  refine stillH_tail 15 (by kernel_rfl) (by kernel_rfl) fun w2' hw2' => ?_
                  simp only [List.take_succ_cons, List.take_zero, List.drop_succ_cons, List.drop_zero]
                  have HD2 : Hid (Below wr.heap.size wr w2') := Lib.hid (by rw [hw2']; exact HD.out)
                  have c1d : w2'.cell? ⟨bo, oo + n1, none⟩ = some (.int .i64 (kb : Int)) := by rw [hw2']; exact c1
                  have hlen3 : (Builtin.len_ #[41] 3 #[.map (some w3.heap.size)]).run Try.prog w2' = .ok (.int .i64 kb) w2' := by rw [hw2']; exact hlen2
                  clear hw2' c1 hlen hlen2
                  iterate 15 (refine stillH_want (by kernel_rfl) (fun K hK => ?_); go_simp; refine hK _ ?_; clear hK K)
                  refine stillH_nil ?_
                  clear c1d hlen3
                  go_wp2_with (go_at_call 7; (with_reducible refine (HLVR.out _ HD2.out).mono ?_); rintro e w11 ⟨rfl, hb11⟩; have HB11 := Lib.hid (HD2.out.trans (hb11.mono HD2.out.size)); clear hb11)
                  go_ret
                  exact ⟨rfl, HB16.out.trans (HB11.out.mono HB16.out.size)⟩
end Go.Proofs.Ytjohdkcgodaeiaa
