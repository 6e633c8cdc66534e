/- newChoice: the choice before any part has been taken; layer 42 (sched). -/
import Derived.Test.YtjohdkcgodaeiaaC2
import Derived.Test.YtjohdkcgodaeiaaP3
namespace Go.Proofs.Ytjohdkcgodaeiaa
open Go.RowKit

/-- In how many of the first m parts v lies. -/
def cntP (rows : List Rw) (m : Nat) (v : Int) : Int := ((((List.range m).filter fun i => mem (pr rows i) v).length : Nat) : Int)
theorem cntP_succ (rows : List Rw) (m : Nat) (v : Int) : cntP rows (m + 1) v = cntP rows m v + if mem (pr rows m) v then 1 else 0 := by
  unfold cntP
  rw [List.range_succ, List.filter_append, List.length_append]
  cases h : mem (pr rows m) v <;> simp [h]
theorem cntP_le (rows : List Rw) (m : Nat) (v : Int) : 0 ≤ cntP rows m v ∧ cntP rows m v ≤ m := by
  unfold cntP
  have := List.length_filter_le (fun i => mem (pr rows i) v) (List.range m)
  rw [List.length_range] at this
  omega
/-- The count while the elements of one set more are counted. -/
def cntJ (rows : List Rw) (m : Nat) (l : List Int) (v : Int) : Int := cntP rows m v + if v ∈ l then 1 else 0
theorem cntJ_step {rows : List Rw} {m : Nat} {l : List Int} {j : Nat} (hj : j < l.length) (h : Inc l) : setF (cntJ rows m (l.take j)) (li l j) (cntJ rows m (l.take j) (li l j) + 1) = cntJ rows m (l.take (j + 1)) := by
  funext y
  have hn := not_mem_take h hj
  unfold setF cntJ
  rw [take_li hj]
  by_cases e : y = li l j
  · subst e; simp [hn]
  · rw [if_neg e]
    simp [e]
/-- The sets of the parts, as they lie. -/
def SetsOf (rows S : List Rw) (i : Nat) : Prop := S.length = i ∧ ∀ j, j < i → (rw_ S j).2.2 = setL (pr rows j)
theorem gives_row {w w' : World} {base : Nat} {l : List Int} {e : Ending} (h : GivesB base w l e w') : ∃ A, e = .returned (.slice A l.length l.length) ∧ Below base w w' ∧ (A = none → l = []) ∧ (0 < l.length → ∃ g, A = some ⟨g, 0, none⟩ ∧ base ≤ g ∧ g < w'.heap.size ∧ ∀ j, j < l.length → w'.cell? ⟨g, 0 + j, none⟩ = some (.int .i64 (li l j))) := by
  obtain ⟨A, he, hA, hb⟩ := h
  refine ⟨A, he, hb, fun e => ?_, fun hl => ?_⟩
  · rcases hA with ⟨_, h0⟩ | ⟨g, e2, _⟩
    · exact h0
    · rw [e] at e2; cases e2
  · rcases hA with ⟨_, h0⟩ | ⟨g, e2, hg, hp⟩
    · rw [h0] at hl; simp at hl
    · exact ⟨g, e2, hg, hp.lt, fun j hj => by rw [Nat.zero_add]; exact hp.cell hj⟩
theorem info23 : (Try.prog.info? 23).map (fun i => (i.zero, i.size, i.bytes)) = some (some (.slice none 0 0), 1, 24) := by kernel_rfl
def NewP (w : World) (rows : List Rw) (o : List Int) (e : Ending) (w' : World) : Prop := ∃ (K : Kc) (S : List Rw) (n : Nat), e = .returned (.pointer (some ⟨K.c, 0, none⟩)) ∧ Ch w' w.heap.size K S o (List.range rows.length) n (cntP rows rows.length) (fun _ => false) ∧ SetsOf rows S rows.length ∧ n ≤ 110000 ∧ Below w.heap.size w w'
theorem owns_slice {w : World} {base size n : Nat} {e : TypeId} {v : Value} {xs : List Value} (h : w.ownsRow base e size v n xs) : ∃ A c, v = .slice A n c := by
  rcases h.2 with ⟨rfl, rfl⟩ | ⟨g, cap, cur, rfl, _⟩
  · exact ⟨none, 0, rfl⟩
  · exact ⟨_, _, rfl⟩
theorem make41 (w : World) : (Instr.makeMap 41 none).run Try.prog w = .ok (.map (some w.heap.size)) (w.alloc (.map #[] 0)) := by kernel_rfl
theorem make46 (w : World) : (Instr.makeMap 46 none).run Try.prog w = .ok (.map (some w.heap.size)) (w.alloc (.map #[] 0)) := by kernel_rfl
theorem Cn.slt {w : World} {Z c mo ml ms : Nat} {sv rv : Value} {S : List Rw} {o : List Int} {R : List Nat} {n : Nat} {F : Int → Int} (h : Cn w Z c mo ml ms sv rv S o R n F) (g : Nat) (e : sv.ownBlock = some g) : g < w.heap.size := by
  rcases h.sets.2 with ⟨he, _⟩ | ⟨g2, _, _, he, hz, hh, _⟩
  · rw [he] at e; simp [Value.ownBlock] at e
  · rw [he] at e; simp [Value.ownBlock] at e
    subst e
    rcases Nat.lt_or_ge g2 w.heap.size with q | q
    · exact q
    · rw [Array.getElem?_eq_none q] at hh; cases hh
set_option maxRecDepth 100000 in
set_option maxHeartbeats 8000000 in
theorem p_newChoice (A AO : Option Addr) (ca co : Nat) (rows : List Rw) (o : List Int) (w : World) (hP : RR w w.heap.size A rows) (hO : RI w w.heap.size AO o)
    (hr : rows.length ≤ 1000) (hlo : o.length ≤ 1000) (hlp : ∀ j, j < rows.length → (pr rows j).length ≤ 100) (hv : ∀ j, j < rows.length → ∀ v ∈ pr rows j, In64 v) (hvo : ∀ v ∈ o, In64 v) :
    Calls Try.prog 18 #[.slice A rows.length ca, .slice AO o.length co] w (NewP w rows o) := by
  obtain ⟨i0, hi0, hz0, hz1, hz2⟩ := info_parts info3
  obtain ⟨i1, hi1, hy0, hy1, hy2⟩ := info_parts info23
  have HP := Lib.hid hP
  have HO := Lib.hid hO
  have HLP := Lib.hid hlp
  have HV := Lib.hid hv
  have HVO := Lib.hid hvo
  have hcn0 : Cn ((((w.alloc (.map #[] 0)).alloc (.map #[] 0)).alloc (.map #[] 0)).alloc (.cells #[.slice none 0 0, .map (some w.heap.size), .slice none 0 0, .map (some (w.heap.size + 1)), .map (some (w.heap.size + 1 + 1))] 48)) w.heap.size (w.heap.size + 1 + 1 + 1) w.heap.size (w.heap.size + 1) (w.heap.size + 1 + 1) (.slice none 0 0) (.slice none 0 0) [] [] [] 0 (cntP rows 0) ∧
      Below w.heap.size w ((((w.alloc (.map #[] 0)).alloc (.map #[] 0)).alloc (.map #[] 0)).alloc (.cells #[.slice none 0 0, .map (some w.heap.size), .slice none 0 0, .map (some (w.heap.size + 1)), .map (some (w.heap.size + 1 + 1))] 48)) := by
    have s1 : (w.alloc (.map #[] 0)).heap.size = w.heap.size + 1 := by simp
    have s2 : ((w.alloc (.map #[] 0)).alloc (.map #[] 0)).heap.size = w.heap.size + 1 + 1 := by simp
    have s3 : (((w.alloc (.map #[] 0)).alloc (.map #[] 0)).alloc (.map #[] 0)).heap.size = w.heap.size + 1 + 1 + 1 := by simp
    have m1 := SM.made w
    have m2 := LM.made (w.alloc (.map #[] 0))
    have m3 := SM.made ((w.alloc (.map #[] 0)).alloc (.map #[] 0))
    rw [s1] at m2
    rw [s2] at m3
    have al : ∀ (W : World) (x : Obj) (b : Nat), b < W.heap.size → (W.alloc x).heap[b]? = W.heap[b]? := fun W x b hb => ((Below.refl W.heap.size W).alloc (Nat.le_refl _) x).block b hb
    have hb4 := Blk.new (((w.alloc (.map #[] 0)).alloc (.map #[] 0)).alloc (.map #[] 0)) 48 #[.slice none 0 0, .map (some w.heap.size), .slice none 0 0, .map (some (w.heap.size + 1)), .map (some (w.heap.size + 1 + 1))]
    rw [s3] at hb4
    refine ⟨⟨hb4, ?_, ?_, ?_, World.ownsRow_nil _ _ _ _, World.ownsRow_nil _ _ _ _, fun i hi => absurd hi (by simp), fun g e => by simp [Value.ownBlock] at e, by simp [Value.ownBlock], by simp [Value.ownBlock], by omega, by omega⟩, ?_⟩
    · exact ((m1.at (al _ _ _ (by rw [s1]; omega))).at (al _ _ _ (by rw [s2]; omega))).at (al _ _ _ (by rw [s3]; omega))
    · have e : cntP rows 0 = fun _ => 0 := by funext y; unfold cntP; simp
      rw [e]
      exact (m2.at (al _ _ _ (by rw [s2]; omega))).at (al _ _ _ (by rw [s3]; omega))
    · exact m3.at (al _ _ _ (by rw [s3]; omega))
    · exact ((((Below.refl _ _).alloc (Nat.le_refl _) _).alloc (by rw [s1]; omega) _).alloc (by rw [s2]; omega) _).alloc (by rw [s3]; omega) _
  have HC0 := Lib.hid hcn0
  clear hcn0 hP hO hlp hv hvo
  have mk41 := make41
  have mk46 := make46
  go_enter Try.func18, Try.ntmps18
  go_wp2
  clear mk41 mk46
  go_loopw [20] (fun i wr => ∃ t : Nat, t ≤ o.length ∧ i = .int .i64 (t : Int) ∧ Hid (Cn wr w.heap.size (w.heap.size + 1 + 1 + 1) w.heap.size (w.heap.size + 1) (w.heap.size + 1 + 1) (.slice none 0 0) (.slice none 0 0) [] (o.take t) [] t (cntP rows 0)) ∧ Below w.heap.size w wr) (fun i _ => o.length - (intOf i).toNat)
  case atStart => exact ⟨0, Nat.zero_le _, rfl, Lib.hid (by rw [List.take_zero]; exact HC0.out.1), HC0.out.2⟩
  case round =>
    obtain ⟨t, ht, rfl, HCN, hb⟩ := hrel
    by_cases hlt : t < o.length
    · have h1 : (t : Int) < (o.length : Int) := by omega
      have h0 : (0 : Int) ≤ (t : Int) := by omega
      obtain ⟨bo, oo, rfl, hbo, hco⟩ := HO.out (by omega)
      have e1 := (hb.cell (p := ⟨bo, oo + t, none⟩) hbo).trans (hco t hlt)
      have c1 : wr.cell? ⟨w.heap.size + 1 + 1 + 1, 1, none⟩ = some (.map (some w.heap.size)) := HCN.out.blk.cell 1
      obtain ⟨W1, r1, cn1, b1⟩ := HCN.out.outPut (HVO.out _ (li_mem hlt)) (by unfold maxLen; omega)
      rw [← take_li hlt] at cn1
      have HCN1 := Lib.hid cn1
      have HB1 := Lib.hid (hb.trans b1)
      clear hco cn1 b1 hb HCN
      go_wp2
      go_roundw
      case rel => exact ⟨t + 1, by omega, by go_num, HCN1, HB1.out⟩
      case measure => simp [intOf]; omega
    · obtain rfl : t = o.length := by omega
      have h1 : ¬ (o.length : Int) < (o.length : Int) := by omega
      have HCN1 : Hid (Cn wr w.heap.size (w.heap.size + 1 + 1 + 1) w.heap.size (w.heap.size + 1) (w.heap.size + 1 + 1) (.slice none 0 0) (.slice none 0 0) [] o [] (1000 + 100 * 0) (cntP rows 0)) := Lib.hid (by have := HCN.out; rw [List.take_length] at this; exact this.more (by omega))
      have HBB := Lib.hid hb
      clear HCN hb
      go_wp2
      go_loopw [32] (fun i wr => ∃ t : Nat, t ≤ rows.length ∧ i = .int .i64 (t : Int) ∧ (∃ sv rv S, Hid (Cn wr w.heap.size (w.heap.size + 1 + 1 + 1) w.heap.size (w.heap.size + 1) (w.heap.size + 1 + 1) sv rv S o (List.range t) (1000 + 100 * t) (cntP rows t) ∧ SetsOf rows S t)) ∧ Below w.heap.size w wr) (fun i _ => rows.length - (intOf i).toNat)
      case atStart => exact ⟨0, Nat.zero_le _, rfl, ⟨_, _, _, Lib.hid ⟨HCN1.out, rfl, fun j hj => absurd hj (by omega)⟩⟩, HBB.out⟩
      case round =>
        obtain ⟨t, ht, rfl, ⟨sv, rv, S, HX⟩, hb⟩ := hrel
        obtain ⟨hcn, hset⟩ := HX.out
        by_cases hlt : t < rows.length
        · have h1 : (t : Int) < (rows.length : Int) := by omega
          have h0 : (0 : Int) ≤ (t : Int) := by omega
          have hpw := HP.out.below hb
          obtain ⟨bp, op, rfl, hbp, hcp⟩ := HP.out.at_ (by omega)
          have e1 := (hb.cell (p := ⟨bp, op + t, none⟩) hbp).trans (hcp t hlt)
          have hrow := ((HP.out.row t hlt).1.below hb).more hb.size
          have hll := HLP.out t hlt
          have hvl := HV.out t hlt
          have hcs := cntP_succ rows t
          have hcl := cntP_le rows t
          unfold rcell at e1
          unfold pr at hll hvl
          obtain ⟨⟨Ak, cak, l⟩, hrk⟩ : ∃ r, rw_ rows t = r := ⟨_, rfl⟩
          have HPR : Hid (pr rows t = l) := Lib.hid (by unfold pr; rw [hrk])
          rw [HPR.out] at hcs
          rw [hrk] at e1 hrow hll hvl
          dsimp only at e1 hrow hll hvl
          have HOF := Lib.hid (vset_Of Ak cak l wr hrow (by omega))
          have hsl := set_le l
          have HSM := Lib.hid (set_mem l)
          have HSI := Lib.hid (set_inc l)
          obtain ⟨L, hL⟩ : ∃ L, setL l = L := ⟨_, rfl⟩
          rw [hL] at HOF hsl HSM HSI
          have HLL : Hid (setL (pr rows t) = L) := Lib.hid (by rw [HPR.out, hL])
          have HVL : Hid (∀ v ∈ L, In64 v) := Lib.hid (fun v hv => hvl v ((HSM.out v).1 hv))
          have HCS : Hid (cntJ rows t L = cntP rows (t + 1)) := Lib.hid (by
            funext y
            rw [hcs]
            unfold cntJ mem
            by_cases e : y ∈ l
            · rw [if_pos ((HSM.out y).2 e)]; simp [e]
            · rw [if_neg (fun h => e ((HSM.out y).1 h))]; simp [e])
          have HCL := Lib.hid hcl
          have HCN := Lib.hid hcn
          have HSET := Lib.hid hset
          have HB := Lib.hid hb
          clear hcn hset HX hpw hcp hrk hL hrow hvl hcs hcl hb
          generalize wr = wo at *
          go_upto_region 12 with (go_at_call 30; refine HOF.out.mono ?_; intro e w2 hG; obtain ⟨As, rfl, hb2, hAn, hAs⟩ := gives_row hG; have HAS := Lib.hid hAs; have HAN := Lib.hid hAn; have HB2 := Lib.hid hb2; clear hG hb2 hAs hAn)
          have HCN2 := Lib.hid (HCN.out.below HB2.out)
          have HBW2 := Lib.hid (HB.out.trans (HB2.out.mono HB.out.size))
          go_loopw [41] (fun i wr => ∃ j : Nat, j ≤ L.length ∧ i = .int .i64 (j : Int) ∧ Hid (Cn wr w.heap.size (w.heap.size + 1 + 1 + 1) w.heap.size (w.heap.size + 1) (w.heap.size + 1 + 1) sv rv S o (List.range t) (1000 + 100 * t + j) (cntJ rows t (L.take j))) ∧ Below w.heap.size w wr ∧ Hid (Kp (fun b => b ≠ w.heap.size + 1) w2 wr)) (fun i _ => L.length - (intOf i).toNat)
          case atStart => exact ⟨0, Nat.zero_le _, rfl, Lib.hid (by have e : cntJ rows t (L.take 0) = cntP rows t := by (funext y; unfold cntJ; simp)
                                                                    rw [e]; exact HCN2.out), HBW2.out, Lib.hid ⟨Nat.le_refl _, fun _ _ _ => rfl⟩⟩
          case round =>
            obtain ⟨j, hj, rfl, HJ, hbj, HKP⟩ := hrel
            by_cases hjl : j < L.length
            · have g1 : (j : Int) < (L.length : Int) := by omega
              have g0 : (0 : Int) ≤ (j : Int) := by omega
              obtain ⟨bs, hAs, hbs1, hbs2, hcs⟩ := HAS.out (by omega)
              subst hAs
              have hbsne : bs ≠ w.heap.size + 1 := by have := HCN.out.left.lt; omega
              have e2 : wr.cell? ⟨bs, j, none⟩ = some (.int .i64 (li L j)) := by
                have h := (cell_at (HKP.out.2 bs hbsne hbs2)).trans (hcs j hjl)
                rwa [Nat.zero_add] at h
              have c3 : wr.cell? ⟨w.heap.size + 1 + 1 + 1, 3, none⟩ = some (.map (some (w.heap.size + 1))) := HJ.out.blk.cell 3
              have hv64 := HVL.out _ (li_mem hjl)
              have hst := cntJ_step (rows := rows) (m := t) hjl HSI.out
              have hnm := not_mem_take HSI.out hjl
              have hval : cntJ rows t (L.take j) (li L j) = cntP rows t (li L j) := by unfold cntJ; rw [if_neg hnm]; omega
              have hcb := HCL.out (li L j)
              have lk := HJ.out.left.look hv64
              rw [hval] at lk hst
              obtain ⟨x, hx⟩ : ∃ x, cntP rows t (li L j) = x := ⟨_, rfl⟩
              rw [hx] at lk hst hcb
              obtain ⟨W1, r1, cn1, b1, k1⟩ := HJ.out.leftPut hv64 (x := x + 1) (by unfold In64; omega) (by unfold maxLen; omega)
              rw [hst] at cn1
              have HCN3 := Lib.hid cn1
              have HB3 := Lib.hid (hbj.trans b1)
              have HK3 := Lib.hid (HKP.out.trans k1)
              have wx : IntKind.i64.wrap (x + 1) = x + 1 := IntWalk.i64_in _ (by omega)
              obtain ⟨v, hv⟩ : ∃ v, li L j = v := ⟨_, rfl⟩
              rw [hv] at e2 lk r1
              clear hcs hst hnm hval hx hcb cn1 b1 k1 hbj hv hv64 HJ
              go_wp2
              go_roundw
              case rel => exact ⟨j + 1, by omega, by go_num, HCN3, HB3.out, HK3⟩
              case measure => simp [intOf]; omega
            · obtain rfl : j = L.length := by omega
              have g1 : ¬ (L.length : Int) < (L.length : Int) := by omega
              have HJ2 : Hid (Cn wr w.heap.size (w.heap.size + 1 + 1 + 1) w.heap.size (w.heap.size + 1) (w.heap.size + 1 + 1) sv rv S o (List.range t) (1000 + 100 * (t + 1)) (cntP rows (t + 1))) := Lib.hid (by
                have h := HJ.out
                rw [List.take_length, HCS.out] at h
                exact h.more (by omega))
              have HBJ := Lib.hid hbj
              have hszw := hbj.size
              have c0 : wr.cell? ⟨w.heap.size + 1 + 1 + 1, 0, none⟩ = some sv := HJ2.out.blk.cell 0
              have hSl : S.length = t := HSET.out.1
              have HROW : Hid (0 < L.length → ∃ b off, As = some ⟨b, off, none⟩ ∧ b ≠ w.heap.size + 1 + 1 + 1 ∧ b ≠ w.heap.size ∧ b ≠ w.heap.size + 1 ∧ b ≠ w.heap.size + 1 + 1 ∧ rv.ownBlock ≠ some b ∧ sv.ownBlock ≠ some b ∧ b < wr.heap.size ∧ ∀ j, j < L.length → wr.cell? ⟨b, off + j, none⟩ = some (.int .i64 (li L j))) := Lib.hid (fun hp => by
                obtain ⟨bs, hAs, hbs1, hbs2, hcs⟩ := HAS.out hp
                have q1 := HCN.out.left.lt
                have q2 := HCN.out.seen.lt
                have q3 := HCN.out.blk.lt
                refine ⟨bs, 0, hAs, by omega, by omega, by omega, by omega, fun e => ?_, fun e => ?_, Nat.lt_of_lt_of_le hbs2 HKP.out.1, fun j hj => (cell_at (HKP.out.2 bs (by omega) hbs2)).trans (hcs j hj)⟩
                · have := HCN.out.rest.lt bs e; omega
                · have := HCN.out.slt bs e; omega)
              clear HJ hbj HKP
              obtain ⟨W, hW⟩ : ∃ W, wr = W := ⟨_, rfl⟩
              subst hW
              go_upto_region 17 with (at_builtin; refine wpList_append_own_at _ rfl _ _ 22 rfl w.heap.size 23 i1 _ 1 24 Try.underlying22 hi1 hy0 hy1 hy2 rfl (by decide) sv S.length (rcs S) rfl (World.ownsRow.alloc HJ2.out.sets _) ⟨wr.heap.size, 0, none⟩ 1 1 [.slice As L.length L.length] rfl rfl (cell_one_new _ _ _) (by simp [Value.oneCell']) (max_ok (by omega)) (by omega) (by simp; omega) ?_; intro v5 w5 hO5 hg5 _ hat5; obtain ⟨A5, c5, rfl⟩ := owns_slice hO5; obtain ⟨q1, q2, q3⟩ := HJ2.out.setApp (r := (As, L.length, L)) hO5 hg5 hat5 HROW.out; have HQ1 := Lib.hid q1; have HQ2 := Lib.hid (HBJ.out.trans q2); have cz0 : w5.cell? ⟨w.heap.size + 1 + 1 + 1, 0, none⟩ = some sv := q3.cell 0; have fz0 := q3.frozen 0; clear hO5 hg5 hat5 q1 q2 q3)
              rw [hSl] at HQ1 HQ2
              obtain ⟨W6, hW6⟩ : ∃ W, w5.setCell ⟨w.heap.size + 1 + 1 + 1, 0, none⟩ (.slice A5 (t + 1) c5) = W := ⟨_, rfl⟩
              rw [hW6] at HQ1 HQ2 ⊢
              have c2 : W6.cell? ⟨w.heap.size + 1 + 1 + 1, 2, none⟩ = some rv := HQ1.out.blk.cell 2
              have hsz6 := HQ2.out.size
              have hrl : (nl (List.range t)).length = t := by rw [nl_len, List.length_range]
              clear hW6 cz0 fz0 c0
              go_wp2_with (at_builtin; refine wpList_append_own_at _ rfl _ _ 23 rfl w.heap.size 3 i0 _ 1 8 Try.underlying23 hi0 hz0 hz1 hz2 rfl (by decide) rv (nl (List.range t)).length ((nl (List.range t)).map (Value.int .i64)) rfl (World.ownsRow.alloc HQ1.out.rest _) ⟨W6.heap.size, 0, none⟩ 1 1 [.int .i64 (t : Int)] rfl rfl (cell_one_new _ _ _) (by simp [Value.oneCell']) (max_ok (by omega)) (by omega) (by simp; omega) ?_; intro v7 w7 hO7 hg7 _ hat7; obtain ⟨A7, c7, rfl⟩ := owns_slice hO7; obtain ⟨q1, q2, q3⟩ := HQ1.out.restApp hO7 hg7 hat7; have HR1 := Lib.hid q1; have HR2 := Lib.hid (HQ2.out.trans q2); have cz2 : w7.cell? ⟨w.heap.size + 1 + 1 + 1, 2, none⟩ = some rv := q3.cell 2; have fz2 := q3.frozen 2; clear hO7 hg7 hat7 q1 q2 q3)
              rw [hrl, ← List.range_succ] at HR1
              rw [hrl] at HR2
              have HSN : SetsOf rows (S ++ [(As, L.length, L)]) (t + 1) := by
                refine ⟨by rw [List.length_append, hSl]; rfl, fun j hj => ?_⟩
                by_cases hjt : j < t
                · rw [rw_app_lt (by omega)]; exact HSET.out.2 j hjt
                · obtain rfl : j = t := by omega
                  have e := rw_app_eq S (As, L.length, L)
                  rw [hSl] at e
                  rw [e]; exact HLL.out.symm
              have HR3 := Lib.hid (And.intro HR1.out HSN)
              clear HSN
              go_roundw
              case rel => exact ⟨t + 1, by omega, by go_num, ⟨_, _, _, HR3⟩, HR2.out⟩
              case measure => simp [intOf]; omega
        · obtain rfl : t = rows.length := by omega
          have h1 : ¬ (rows.length : Int) < (rows.length : Int) := by omega
          obtain ⟨K, hKc, hch⟩ := hcn.ch
          have HCH := Lib.hid hch
          have HKC := Lib.hid hKc
          have HBW := Lib.hid hb
          have HSET := Lib.hid hset
          clear hcn hch hKc hb hset HX
          go_wp2
          go_ret
          exact ⟨K, S, _, by rw [HKC.out]; rfl, HCH.out, HSET.out, by omega, HBW.out⟩
end Go.Proofs.Ytjohdkcgodaeiaa
