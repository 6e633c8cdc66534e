/- take: a part is taken from those left; layer 42 (sched). -/
import Derived.Test.YtjohdkcgodaeiaaC1
import Derived.Test.YtjohdkcgodaeiaaP2
namespace Go.Proofs.Ytjohdkcgodaeiaa
open Go.RowKit
open Go.Shelf

def tkF (l : List Int) (F : Int → Int) (v : Int) : Int := if v ∈ l then F v - 1 else F v
def tkG (l : List Int) (G : Int → Bool) (v : Int) : Bool := decide (v ∈ l) || G v
def tkP (o : List Int) (F : Int → Int) (v : Int) : Bool := mem o v && (F v - 1 == 0)
theorem not_mem_take {l : List Int} (h : Inc l) {j : Nat} (hj : j < l.length) : li l j ∉ l.take j := by
  intro hm
  obtain ⟨i, hi, e⟩ := List.getElem_of_mem hm
  rw [List.length_take] at hi
  rw [List.getElem_take] at e
  have hlt := List.pairwise_iff_getElem.1 h i j (by omega) hj (by omega)
  rw [li_get hj] at e
  omega
theorem take_li {l : List Int} {j : Nat} (hj : j < l.length) : l.take (j + 1) = l.take j ++ [li l j] := by rw [List.take_succ_eq_append_getElem hj, li_get hj]
theorem tkF_step {l : List Int} {F : Int → Int} {j : Nat} (hj : j < l.length) (_h : Inc l) : setF (tkF (l.take j) F) (li l j) (F (li l j) - 1) = tkF (l.take (j + 1)) F := by
  funext y
  unfold setF tkF
  rw [take_li hj]
  by_cases e : y = li l j
  · subst e; simp
  · rw [if_neg e]
    simp [e]
theorem tkG_step {l : List Int} {G : Int → Bool} {j : Nat} (hj : j < l.length) : (fun y => decide (y = li l j) || tkG (l.take j) G y) = tkG (l.take (j + 1)) G := by
  funext y
  unfold tkG
  rw [take_li hj]
  by_cases e : y = li l j
  · subst e; simp
  · simp [e]
theorem filter_step {l : List Int} {p : Int → Bool} {j : Nat} (hj : j < l.length) : (l.take (j + 1)).filter p = (l.take j).filter p ++ if p (li l j) then [li l j] else [] := by
  rw [take_li hj, List.filter_append]
  cases e : p (li l j) <;> simp [e]
set_option maxRecDepth 100000 in
set_option maxHeartbeats 8000000 in
theorem p_take (w : World) (Z : Nat) (K : Kc) (S : List Rw) (o : List Int) (R : List Nat) (n : Nat) (F : Int → Int) (G : Int → Bool) (h : Ch w Z K S o R n F G) (at' : Nat) (hat : at' < R.length) (hnd : R.Nodup)
    (hr : R.length ≤ 1000000) (hk : R.getD at' 0 < S.length) (hS : S.length ≤ 1000000) (hs : (rw_ S (R.getD at' 0)).2.2.length ≤ 1000) (hv : ∀ v ∈ (rw_ S (R.getD at' 0)).2.2, In64 v) (hi : Inc (rw_ S (R.getD at' 0)).2.2)
    (hF : ∀ v, -1000000 ≤ F v ∧ F v ≤ 1000000) (hn : n ≤ 1000000) :
    Calls Try.prog 24 #[.pointer (some ⟨K.c, 0, none⟩), .int .i64 ((R.getD at' 0 : Nat) : Int)] w fun e w' => ∃ v rv, e = .returned v ∧ Own w' w.heap.size v ((rw_ S (R.getD at' 0)).2.2.filter (tkP o F)) ∧
      Ch w' Z { K with rv := rv } S o (R.eraseIdx at') (n + 2 * (rw_ S (R.getD at' 0)).2.2.length) (tkF (rw_ S (R.getD at' 0)).2.2 F) (tkG (rw_ S (R.getD at' 0)).2.2 G) ∧ Below Z w w' ∧ Kp (fun b => K.Q b ∧ b < w.heap.size) w w' := by
  obtain ⟨i0, hi0, hz0, hz1, hz2⟩ := info_parts info3
  obtain ⟨cap, hrv, hcap, hcm, hpre⟩ : ∃ cap, K.rv = .slice (some ⟨K.rb, 0, none⟩) R.length cap ∧ R.length ≤ cap ∧ cap ≤ maxLen ∧ PreB w K.rb (nl R) := by
    rcases h.rest with ⟨_, hR⟩ | hx
    · rw [hR] at hat; simp at hat
    · exact hx
  have hlts : K.c < w.heap.size ∧ K.mo < w.heap.size ∧ K.ml < w.heap.size ∧ K.ms < w.heap.size ∧ K.rb < w.heap.size := ⟨h.lts.1, h.lts.2.1, h.lts.2.2.1, h.lts.2.2.2, hpre.lt⟩
  have hzle := h.zle
  have hIDX : ∀ w', Ch w' Z K S o R (n + 2 * (rw_ S (R.getD at' 0)).2.2.length) (tkF (rw_ S (R.getD at' 0)).2.2 F) (tkG (rw_ S (R.getD at' 0)).2.2 G) → Calls Try.prog 40 #[.slice (some ⟨K.rb, 0, none⟩) R.length cap, .int .i64 ((R.getD at' 0 : Nat) : Int)] w' fun e w'' => e = .returned (.int .i64 (at' : Int)) ∧ w'' = w' := fun w' hc => by
    have hp2 : PreB w' K.rb (nl R) := by
      rcases hc.rest with ⟨he, hR⟩ | ⟨c2, he, _, _, hp⟩
      · rw [hR] at hat; simp at hat
      · exact hp
    have hln := nl_len R
    have h1 := Any.slices_Index_int Try.laysIndex K.rb 0 R.length cap (nl R) ((R.getD at' 0 : Nat) : Int) w' (by omega) (by omega) (fun j hj => by rw [Nat.zero_add]; exact hp2.cell hj)
    have h2 : Lib.idxOf ((nl R).take R.length) ((R.getD at' 0 : Nat) : Int) = (at' : Int) := by
      refine Lib.idxOf_hit (nl R) R.length at' _ hat (by omega) (nl_at hat) (fun j hj e => ?_)
      have e2 : li (nl R) j = ((R.getD at' 0 : Nat) : Int) := e
      rw [nl_at (by omega)] at e2
      have e3 : R.getD j 0 = R.getD at' 0 := by omega
      have hjl : j < R.length := by omega
      rw [List.getD_eq_getElem?_getD, List.getD_eq_getElem?_getD, List.getElem?_eq_getElem hjl, List.getElem?_eq_getElem hat] at e3
      exact List.pairwise_iff_getElem.1 hnd j at' hjl hat hj (by simpa using e3)
    rw [h2] at h1
    exact h1
  have hDEL : ∀ w', Ch w' Z K S o R (n + 2 * (rw_ S (R.getD at' 0)).2.2.length) (tkF (rw_ S (R.getD at' 0)).2.2 F) (tkG (rw_ S (R.getD at' 0)).2.2 G) → Calls Try.prog 41 #[.slice (some ⟨K.rb, 0, none⟩) R.length cap, .int .i64 (at' : Int), .int .i64 ((at' : Int) + 1)] w' fun e w'' => e = .returned (.slice (some ⟨K.rb, 0, none⟩) (R.length - 1) cap) ∧ ∃ q, w'' = Sort.putRow (Value.int .i64) (Sort.ahead w' q) K.rb 0 ((nl R).take at' ++ (nl R).drop (at' + 1) ++ List.replicate 1 0).toArray := fun w' hc => by
    have hp2 : PreB w' K.rb (nl R) := by
      rcases hc.rest with ⟨he, hR⟩ | ⟨c2, he, _, _, hp⟩
      · rw [hR] at hat; simp at hat
      · exact hp
    have hln := nl_len R
    have h1 := Any.slices_Delete_int Try.laysDelete K.rb 0 cap at' (at' + 1) (nl R) w' hp2.holds (by omega) (by unfold maxLen at hcm; omega) (by omega) (by omega)
    rw [hln, show at' + 1 - at' = 1 by omega] at h1
    exact h1
  have HIDX := Lib.hid hIDX
  have HDEL := Lib.hid hDEL
  have HQB : Hid (RQ (fun b => K.Q b ∧ b < w.heap.size) w K.SA S) := Lib.hid h.sets.below_self
  have HRV := Lib.hid hrv
  have HRI := Lib.hid (h.sets.ri hk)
  have hRQ := Lib.hid (h.sets.below_self.row _ hk)
  have HCAP := Lib.hid hcap
  have H := Lib.hid h
  obtain ⟨c0, c1, c2, c3, c4⟩ := h.cells
  obtain ⟨sb, so, hSA, _, hsb, hsc⟩ := h.sets.at_ (by omega)
  rw [hSA] at c0
  have hx := hsc _ hk
  clear hsc hIDX hDEL
  obtain ⟨k, hkk⟩ : ∃ k, R.getD at' 0 = k := ⟨_, rfl⟩
  rw [hkk] at hx hk hs hv hi HIDX HDEL HRI hRQ ⊢
  unfold rcell at hx
  obtain ⟨⟨Ak, cak, l⟩, hrk⟩ : ∃ r, rw_ S k = r := ⟨_, rfl⟩
  rw [hrk] at hx hs hv hi HIDX HDEL HRI hRQ ⊢
  dsimp only at hx hs hv hi HIDX HDEL HRI hRQ ⊢
  have HV := Lib.hid hv
  have HI := Lib.hid hi
  have HF := Lib.hid hF
  have hk0 : (0 : Int) ≤ (k : Int) := by omega
  have hk1 : (k : Int) < (S.length : Int) := by omega
  have HLT := Lib.hid hlts
  clear hv hi hF hrk hkk hpre hlts hcap
  go_enter Try.func24, Try.ntmps24
  go_wp2
  clear c0 c1 c2 c3 c4 hx
  go_loopw [5, 17] (fun v i wr => ∃ j : Nat, j ≤ l.length ∧ i = .int .i64 (j : Int) ∧ Hid (Own wr w.heap.size v ((l.take j).filter (tkP o F))) ∧ Hid (Ch wr Z K S o R (n + 2 * j) (tkF (l.take j) F) (tkG (l.take j) G) ∧ RQ (fun b => K.Q b ∧ b < w.heap.size) wr K.SA S) ∧ Below Z w wr ∧ w.heap.size ≤ wr.heap.size ∧ Hid (Kp (fun b => K.Q b ∧ b < w.heap.size) w wr)) (fun _ i _ => l.length - (intOf i).toNat)
  case atStart =>
    refine ⟨0, Nat.zero_le _, rfl, Lib.hid (World.ownsRow_nil _ _ _ _), Lib.hid ⟨?_, HQB.out⟩, Below.refl _ _, Nat.le_refl _, Lib.hid ⟨Nat.le_refl _, fun _ _ _ => rfl⟩⟩
    have e1 : tkF (l.take 0) F = F := by funext y; unfold tkF; simp
    have e2 : tkG (l.take 0) G = G := by funext y; unfold tkG; simp
    rw [e1, e2]; exact H.out
  case round =>
    obtain ⟨j, hj, rfl, HO, HCH, hb, hsz, HKP⟩ := hrel
    by_cases hjl : j < l.length
    · have g1 : (j : Int) < (l.length : Int) := by omega
      have g0 : (0 : Int) ≤ (j : Int) := by omega
      obtain ⟨hch, hqb⟩ := HCH.out
      obtain ⟨bl, ol, hAk, hbl, hcl⟩ := HRI.out (by omega)
      subst hAk
      have hblq : K.Q bl ∧ bl < w.heap.size := by
        obtain ⟨b2, o2, e2, hq2, _⟩ := hRQ.out (by omega)
        injection e2 with e2; injection e2 with e2
        exact ⟨e2 ▸ hq2.1, hbl⟩
      have e1 : wr.cell? ⟨bl, ol + j, none⟩ = some (.int .i64 (li l j)) := (cell_at (HKP.out.2 bl hblq hbl)).trans (hcl j hjl)
      have hv64 := HV.out _ (li_mem hjl)
      have hFs := tkF_step (F := F) hjl HI.out
      have hGs := tkG_step (l := l) (G := G) hjl
      have hDs := filter_step (p := tkP o F) hjl
      have hnm := not_mem_take HI.out hjl
      have hle := filt_le (l := l) (p := tkP o F) j
      have hFv : tkF (l.take j) F (li l j) = F (li l j) := by unfold tkF; rw [if_neg hnm]
      have hFb := HF.out (li l j)
      obtain ⟨v, hvv⟩ : ∃ v, li l j = v := ⟨_, rfl⟩
      rw [hvv] at e1 hv64 hFs hGs hDs hFv hFb
      obtain ⟨y, hy⟩ : ∃ y, F v = y := ⟨_, rfl⟩
      rw [hy] at hFs hFv hFb
      have hy64 : In64 (y - 1) := by unfold In64; omega
      obtain ⟨W1, r1, ch1, gr1, b1⟩ := hch.seenPut hv64 (by unfold maxLen; omega)
      rw [hGs] at ch1
      have l1 := ch1.left.look hv64
      rw [hFv] at l1
      obtain ⟨W2, r2, ch2, gr2, b2⟩ := ch1.leftPut hv64 hy64 (by unfold maxLen; omega)
      rw [hFs] at ch2
      have l2 := ch2.out.look hv64
      have l3 := ch2.left.look hv64
      have hF2 : tkF (l.take (j + 1)) F v = y - 1 := by rw [← hFs]; unfold setF; rw [if_pos rfl]
      rw [hF2] at l3
      obtain ⟨_, _, _, _, c4⟩ := hch.cells
      obtain ⟨_, _, _, c3, _⟩ := ch1.cells
      obtain ⟨_, d1, _, d3, _⟩ := ch2.cells
      have kp1 : Kp (fun b => K.Q b ∧ b < w.heap.size) wr W1 := Kp.grown gr1 (fun b hb => hb.1.2.2.2.1)
      have kp2 : Kp (fun b => K.Q b ∧ b < w.heap.size) W1 W2 := Kp.grown gr2 (fun b hb => hb.1.2.2.1)
      have HKP2 := Lib.hid ((HKP.out.trans kp1).trans kp2)
      have HQ2 := Lib.hid ((hqb.kp kp1).kp kp2)
      have ho1 := HO.out.kp (Kp.grown gr1 (fun b hb e => by have := HLT.out.2.2.2.1; omega))
      have ho2 := ho1.kp (Kp.grown gr2 (fun b hb e => by have := HLT.out.2.2.1; omega))
      have HO2 := Lib.hid ho2
      have HCH2 := Lib.hid ch2
      have hb2 := (hb.trans b1).trans b2
      have HB2 := Lib.hid hb2
      have hsz2 : w.heap.size ≤ W2.heap.size := Nat.le_trans hsz (Nat.le_trans kp1.1 kp2.1)
      have wy : IntKind.i64.wrap (y - 1) = y - 1 := IntWalk.i64_in _ (by omega)
      obtain ⟨q1, hq1⟩ : ∃ q, mem o v = q := ⟨_, rfl⟩
      obtain ⟨q2, hq2⟩ : ∃ q, (y - 1 == 0) = q := ⟨_, rfl⟩
      have htp : tkP o F v = (q1 && q2) := by unfold tkP; rw [hq1, hy, hq2]
      rw [htp] at hDs
      rw [hq1] at l2
      have HDS := Lib.hid hDs
      obtain ⟨D, hD⟩ : ∃ D, (l.take j).filter (tkP o F) = D := ⟨_, rfl⟩
      obtain ⟨D2, hD2⟩ : ∃ D2, (l.take (j + 1)).filter (tkP o F) = D2 := ⟨_, rfl⟩
      rw [hD] at HO2 HDS hle
      rw [hD2] at HDS
      have HD2 := Lib.hid hD2
      have HN : Hid (n + 2 * j + 1 + 1 = n + 2 * (j + 1)) := Lib.hid (by omega)
      rw [HN.out] at HCH2
      clear hch hqb hcl hnm hFv hFb hFs hGs hDs hvv hy hy64 ch1 ch2 hF2 gr1 gr2 b1 b2 kp1 kp2 ho1 ho2 hb2 hq1 htp hD hD2 HO HCH hblq hb
      by_cases hqq : (q1 && q2) = true
      · obtain ⟨hqa, hqb2⟩ : q1 = true ∧ q2 = true := by simpa using hqq
        subst hqa hqb2
        have HDE : Hid (D2 = D ++ [v]) := Lib.hid (by rw [HDS.out]; rfl)
        clear hqq
        go_wp2_with (at_builtin; refine wpList_append_own _ rfl _ _ 23 rfl w.heap.size 3 i0 _ 1 8 Try.underlying23 hi0 hz0 hz1 hz2 rfl (by decide) _ _ _ rfl (World.ownsRow.alloc HO2.out _) ⟨W2.heap.size, 0, none⟩ 1 1 [.int .i64 v] rfl rfl (cell_one_new _ _ _) (by simp [Value.oneCell']) (max_ok (by omega)) (by omega) (by simp; omega) ?_; intro v5 w5 hO5 hg5 _; have q5 : Below w.heap.size W2 w5 := ((Below.refl _ W2).alloc hsz2 _).grown hg5 (by simp; omega) (fun k e => HO2.out.block k e); have HO5 : Hid (Own w5 w.heap.size v5 (D ++ [v])) := Lib.hid (Own.push hO5); have HC5 := Lib.hid (HCH2.out.kpB HLT.out HQ2.out ⟨q5.size, fun b hb hl => q5.block b hb⟩); have HK5 := Lib.hid (HKP2.out.trans ⟨q5.size, fun b hb hl => q5.block b hb.2⟩); have HB5 := Lib.hid (HB2.out.trans (q5.mono hzle)); have hsz5 : w.heap.size ≤ w5.heap.size := Nat.le_trans hsz2 q5.size; clear hO5 hg5 q5)
        go_roundw
        case rel => exact ⟨j + 1, by omega, by go_num, Lib.hid (by rw [HD2.out, HDE.out]; exact HO5.out), HC5, HB5.out, hsz5, HK5⟩
        case measure => simp [intOf]; omega
      · have hqf : (q1 && q2) = false := by simpa using hqq
        have HDE : Hid (D2 = D) := Lib.hid (by rw [HDS.out, hqf]; simp)
        clear hqq
        cases q1
        · clear hqf
          go_wp2
          go_roundw
          case rel => exact ⟨j + 1, by omega, by go_num, Lib.hid (by rw [HD2.out, HDE.out]; exact HO2.out), Lib.hid ⟨HCH2.out, HQ2.out⟩, HB2.out, hsz2, HKP2⟩
          case measure => simp [intOf]; omega
        · obtain rfl : q2 = false := by simpa using hqf
          clear hqf
          go_wp2
          go_roundw
          case rel => exact ⟨j + 1, by omega, by go_num, Lib.hid (by rw [HD2.out, HDE.out]; exact HO2.out), Lib.hid ⟨HCH2.out, HQ2.out⟩, HB2.out, hsz2, HKP2⟩
          case measure => simp [intOf]; omega
    · obtain rfl : j = l.length := by omega
      have g1 : ¬ (l.length : Int) < (l.length : Int) := by omega
      obtain ⟨hch, hqb⟩ := HCH.out
      have ho := HO.out
      rw [List.take_length] at hch ho
      obtain ⟨_, _, c2, _, _⟩ := hch.cells
      rw [HRV.out] at c2
      have HCHF := Lib.hid hch
      have HOF := Lib.hid ho
      have HX := Lib.hid (HIDX.out wr hch)
      have HY := Lib.hid (HDEL.out wr hch)
      have hfin := fun q => hch.restDel (q := q) HRV.out (by
        rcases hch.rest with ⟨he, hR⟩ | ⟨c2, he, _, _, hp⟩
        · rw [hR] at hat; simp at hat
        · exact hp) HCAP.out hcm hat
      have HFIN := Lib.hid hfin
      have HBW := Lib.hid hb
      have wa : IntKind.i64.wrap ((at' : Int) + 1) = (at' : Int) + 1 := IntWalk.i64_in _ (by omega)
      have hfz := hch.blk.frozen 2
      have HPC : Hid (∀ q, (Sort.putRow (Value.int .i64) (Sort.ahead wr q) K.rb 0 ((nl R).take at' ++ (nl R).drop (at' + 1) ++ List.replicate 1 0).toArray).heap[K.c]? = wr.heap[K.c]?) := Lib.hid (fun q => (Kp.put (Q := fun b => b ≠ K.rb) (fun _ hb => hb)).2 K.c hch.ok.a4 hch.blk.lt)
      have HPB : Hid (∀ q, Blk (Sort.putRow (Value.int .i64) (Sort.ahead wr q) K.rb 0 ((nl R).take at' ++ (nl R).drop (at' + 1) ++ List.replicate 1 0).toArray) K.c 48 #[.slice K.SA S.length K.sc, .map (some K.mo), K.rv, .map (some K.ml), .map (some K.ms)]) := Lib.hid (fun q => (HPC.out q).trans hch.blk)
      clear hch hqb ho hfin HCH HO hb
      go_wp2_with (first
        | (go_at_call 41; refine HY.out.mono ?_; rintro e w3 ⟨rfl, q, hw3⟩; have HW3 := Lib.hid hw3; have hB3 := HPB.out q; rw [← hw3] at hB3; have c2' : w3.cell? ⟨K.c, 2, none⟩ = some (.slice (some ⟨K.rb, 0, none⟩) R.length cap) := (hB3.cell 2).trans (by rw [HRV.out]; rfl); have hfz' := hB3.frozen 2; clear hB3; clear hw3)
        | (go_at_call 40; refine HX.out.mono ?_; rintro e w2 ⟨rfl, rfl⟩))
      go_ret
      refine ⟨_, .slice (some ⟨K.rb, 0, none⟩) (R.length - 1) cap, rfl, ?_, ?_, ?_, ?_⟩
      · rw [HW3.out]; exact HOF.out.kp ⟨(HFIN.out q).2.2.1, fun b hb hl => (HFIN.out q).2.2.2 b ⟨by have := HLT.out.1; omega, by have := HLT.out.2.2.2.2; omega⟩ hl⟩
      · rw [HW3.out]; exact (HFIN.out q).1
      · rw [HW3.out]; exact HBW.out.trans (HFIN.out q).2.1
      · rw [HW3.out]; exact HKP.out.trans ⟨(HFIN.out q).2.2.1, fun b hb hl => (HFIN.out q).2.2.2 b ⟨hb.1.1, hb.1.2.2.2.2⟩ hl⟩
end Go.Proofs.Ytjohdkcgodaeiaa
