/- The specification's Plan; layer 42 (sched). -/
import Derived.Test.YtjohdkcgodaeiaaD0
namespace Go.Proofs.Ytjohdkcgodaeiaa
open Go.RowKit

theorem info32 : (Try.prog.info? 32).map (fun i => (i.zero, i.size, i.bytes)) = some (some (.agg #[.int .i64 0, .slice none 0 0]), 2, 32) := by kernel_rfl
/-- append of a slice to a row of the call's own, as a step of a region that draws its order. -/
theorem step_app_src {ops : Array Oper} {o : Oper} {a : Act} {w : World} {K : Act → World → Prop} {Q : Exit → Act → World → Prop} {E : Prop} (hgd : o.guard = none) (s x : Operand)
    (ho : o.op = .call { callee := .builtin .append, args := #[s, x], argTypes := #[23, 23] })
    (B : Nat) (v : Value) (xs : List Int) (hs : a.eval s = v) (hown : Own w B v xs) (ad : Addr) (n c : Nat) (ys : List Int) (hx : a.eval x = .slice (some ad) n c) (hn : ys.length = n) (hc : ∀ j u, (ys.map (Value.int .i64))[j]? = some u → w.cell? (ad.add j) = some u)
    (hB : B ≤ w.heap.size) (hlen : xs.length + n ≤ 1000000) (hK : ∀ v' w', Own w' B v' (xs ++ ys) → w.grownBy w' v.ownBlock → (v'.ownBlock = v.ownBlock ∨ v'.ownBlock = some w.heap.size) → K (a.put o.dst v') w') :
    if Region.wanted o (yielded ops a.tmps) = true then Oper.wp Try.prog o a w K Q else E := by
  obtain ⟨i0, hi0, hz0, hz1, hz2⟩ := info_parts info3
  have hw : Region.wanted o (yielded ops a.tmps) = true := by simp [Region.wanted, hgd]
  rw [if_pos hw]
  subst hn
  obtain ⟨v', w', hr, h2, h3, h4, h5⟩ := run_append_own_at (P := Try.prog) w B 23 o.type 3 i0 _ 1 8 Try.underlying23 hi0 hz0 hz1 hz2 rfl (by decide) v xs.length (xs.map (Value.int .i64)) hown ad ys.length c (ys.map (Value.int .i64)) (by simp) hc (by intro u hu; rw [List.mem_map] at hu; obtain ⟨_, _, rfl⟩ := hu; rfl) (by unfold maxLen; omega) (by omega) hB
  unfold Oper.wp
  simp [execOp, ho, resolve, invoke, builtin, hs, hx, hr, Result.andThen]
  refine hK v' w' ?_ h3 h5
  unfold Own
  rw [List.length_append, List.map_append]
  exact h2
theorem own_base {w : World} {B B' : Nat} {v : Value} {l : List Int} (h : Own w B v l) (hb : B' ≤ B) : Own w B' v l := by
  obtain ⟨h1, h2⟩ := h
  refine ⟨h1, ?_⟩
  rcases h2 with h2 | ⟨g2, cap, cur, e, hg2, r⟩
  · exact .inl h2
  · exact .inr ⟨g2, cap, cur, e, Nat.le_trans hb hg2, r⟩
theorem own_cap {w : World} {B : Nat} {A : Option Addr} {n c : Nat} {l : List Int} (h : Own w B (.slice A n c) l) : l.length ≤ c := by
  rcases h.2 with ⟨e, h0⟩ | ⟨g, cap, cur, e, hg, hh, hn, hc, r⟩
  · omega
  · injection e with _ _ e3
    omega
/-- The row of the call's own that was made of two parts, past a world's rows. -/
theorem own_past {w w' : World} {B : Nat} {v u : Value} {l m : List Int} (hv : Own w B v l) (hu : Own w' w.heap.size u m) (hb : Below w.heap.size w w') (hB : B ≤ w.heap.size) : Own w' B u m ∧ Own w' B v l ∧ Apart u v ∧ Below B w w' := by
  refine ⟨own_base hu hB, hv.at (fun g _ hl => hb.block g hl), fun k hk e => ?_, hb.mono hB⟩
  have h1 := hu.block k hk
  have h2 := hv.lt k e
  omega
theorem cut_facts {w : World} {B bl ol n c b : Nat} {l : List Int} (h : Own w B (.slice (some ⟨bl, ol, none⟩) n c) l) (hn : l.length = n) (hb : b < n) :
    ∃ off c2 m, Value.slice (if c = b + 1 then some ⟨bl, ol, none⟩ else some ⟨bl, ol + (b + 1), none⟩) (n - (b + 1)) (c - (b + 1)) = .slice (some ⟨bl, off, none⟩) m c2 ∧ n ≤ c ∧ b ≤ c ∧ b + m ≤ n ∧
      (l.take b).length = b ∧ (l.drop (b + 1)).length = m ∧
      (∀ wx, Below w.heap.size w wx → ∀ j u, ((l.take b).map (Value.int .i64))[j]? = some u → wx.cell? ⟨bl, ol + j, none⟩ = some u) ∧
      (∀ wx, Below w.heap.size w wx → ∀ j u, ((l.drop (b + 1)).map (Value.int .i64))[j]? = some u → wx.cell? ⟨bl, off + j, none⟩ = some u) := by
  have hc := own_cap h
  have hbl := h.lt bl rfl
  have hce : ∀ j u, (l.map (Value.int .i64))[j]? = some u → w.cell? ⟨bl, ol + j, none⟩ = some u := fun j u hj => by
    obtain ⟨A', c', e', hri, _⟩ := h.form
    have hj' : j < l.length := by
      rcases Nat.lt_or_ge j l.length with q | q
      · exact q
      · rw [List.getElem?_eq_none (by rw [List.length_map]; exact q)] at hj; cases hj
    obtain ⟨b1, o1, hA1, _, hc1⟩ := hri (by omega)
    injection e' with e1 _ _
    rw [hA1] at e1
    injection e1 with e1
    injection e1 with e2 e3
    subst e2; subst e3
    rw [hc1 j hj', li_get hj']
    rw [List.getElem?_map, List.getElem?_eq_getElem hj'] at hj
    exact hj
  have h1 : (l.take b).length = b := by rw [List.length_take]; omega
  have h2 : (l.drop (b + 1)).length = n - (b + 1) := by rw [List.length_drop]; omega
  have r1 : ∀ wx, Below w.heap.size w wx → ∀ j u, ((l.take b).map (Value.int .i64))[j]? = some u → wx.cell? ⟨bl, ol + j, none⟩ = some u := fun wx hw j u hj => (hw.cell (p := ⟨bl, _, none⟩) hbl).trans (hce j u (by
    rw [List.map_take, List.getElem?_take] at hj
    split at hj
    · exact hj
    · cases hj))
  by_cases hcb : c = b + 1
  · refine ⟨ol, c - (b + 1), n - (b + 1), by rw [if_pos hcb], by omega, by omega, by omega, h1, h2, r1, fun wx hw j u hj => ?_⟩
    have h3 : ((l.drop (b + 1)).map (Value.int .i64)).length = 0 := by rw [List.length_map]; omega
    rw [List.eq_nil_of_length_eq_zero h3] at hj
    cases hj
  · refine ⟨ol + (b + 1), c - (b + 1), n - (b + 1), by rw [if_neg hcb], by omega, by omega, by omega, h1, h2, r1, fun wx hw j u hj => ?_⟩
    rw [Nat.add_assoc]
    exact (hw.cell (p := ⟨bl, _, none⟩) hbl).trans (hce _ u (by rw [List.map_drop, List.getElem?_drop] at hj; exact hj))
theorem add_cells {W : World} {bl off : Nat} {ys : List Int} (h : ∀ j u, (ys.map (Value.int .i64))[j]? = some u → W.cell? ⟨bl, off + j, none⟩ = some u) (j : Nat) (u : Value) (hj : (ys.map (Value.int .i64))[j]? = some u) : W.cell? ((⟨bl, off, none⟩ : Addr).add j) = some u := by
  have e : (⟨bl, off, none⟩ : Addr).add j = ⟨bl, off + j, none⟩ := by unfold Addr.add; split <;> simp_all
  rw [e]; exact h j u hj
theorem el_lt {a n : Nat} (h : a = n - 1) (h2 : 0 < n) : a < n := by omega
theorem el_sum {a n r x : Nat} {l : List Nat} (h : a = n - 1) (h1 : l.length + n = r) (h2 : 0 < n) : (l ++ [x]).length + a = r := by rw [List.length_append, List.length_singleton]; omega
theorem hn_one {b n : Nat} (h : b ≤ n) (h2 : n ≤ 1000) : ([] : List Int).length + b ≤ 1000000 := by simp; omega
theorem hn_two {b m n : Nat} {l : List Int} (h : l.length = b) (h1 : b + m ≤ n) (h2 : n ≤ 1000) : l.length + m ≤ 1000000 := by omega
theorem wrapI (k1 : Int) (h1 : 0 ≤ k1) (h2 : k1 ≤ 2000) : IntKind.i64.wrap k1 = k1 := IntWalk.i64_in _ (by omega)
theorem wrapW (k1 : Int) (h1 : 0 ≤ k1) (h2 : k1 ≤ 2000) : wrap64 k1 = k1 := by unfold wrap64; omega
theorem own_cut (w : World) : Own (w.alloc (.cells #[] 3)).drew w.heap.size (.slice (some ⟨w.heap.size, 0, none⟩) 0 0) [] := (Own.empty w).at (fun _ _ _ => rfl)
theorem below_cut2 (w : World) : Below w.heap.size w (w.alloc (.cells #[] 3)).drew := ((Below.refl _ _).alloc (Nat.le_refl _) _).drew
theorem below_cut (w : World) : Below w.heap.size w (w.drew.alloc (.cells #[] 3)) := (Below.refl _ _).drew.alloc (Nat.le_refl _) _
/-- The step's own block is kept while its row grows. -/
theorem out_keep {wb wr w8 : World} {v : Value} {l : List Int} {cs : Array Value} {t : TypeId} (hK : Blk wr wb.heap.size t cs) (hO : Own wr (wb.heap.size + 1) v l) (hb : Below wb.heap.size wb wr) (ob : Obj) (hg : (wr.drew.alloc ob).grownBy w8 v.ownBlock) :
    Blk w8 wb.heap.size t cs ∧ Below wb.heap.size wb w8 := by
  have hl := hK.lt
  have ha : Below wr.heap.size wr (wr.drew.alloc ob) := (Below.refl wr.heap.size wr).drew.alloc (Nat.le_refl _) ob
  have h1 := hg.block wb.heap.size (Nat.lt_of_lt_of_le hl ha.size) (fun e => by have := hO.block _ e.symm; omega)
  refine ⟨h1.trans ((ha.block _ hl).trans hK), ?_⟩
  exact (hb.trans (ha.mono hb.size)).grown hg (Nat.le_trans hb.size ha.size) (fun k e => by have := hO.block k e; omega)
theorem out_set {wb w8 : World} {v a b u : Value} {l : List Int} (hK : Blk w8 wb.heap.size 32 #[a, b]) (hO : Own w8 (wb.heap.size + 1) v l) (hb : Below wb.heap.size wb w8) :
    Blk (w8.setCell ⟨wb.heap.size, 1, none⟩ u) wb.heap.size 32 #[a, u] ∧ Own (w8.setCell ⟨wb.heap.size, 1, none⟩ u) (wb.heap.size + 1) v l ∧ Below wb.heap.size wb (w8.setCell ⟨wb.heap.size, 1, none⟩ u) := by
  refine ⟨hK.set_ 1 u, hO.at (fun g e hl => ?_), hb.setCell (p := ⟨wb.heap.size, 1, none⟩) (Nat.le_refl _) _⟩
  have hg := hO.block g e
  exact (Kp.set (g := wb.heap.size) (i := 1) (Q := fun b => b ≠ wb.heap.size) (fun b hb => hb)).2 g (by omega) hl
theorem step_row {wb wr : World} {Z : Nat} {v : Value} {T : List St} {A5 : Option Addr} {c5 : Nat} {L : List Int} (hT : OwnT 32 wb Z v T) (hZ : Z ≤ wb.heap.size) (hO : Own wr (wb.heap.size + 1) (.slice A5 L.length c5) L) (hb : Below wb.heap.size wb wr) :
    OwnT 32 wr Z v T ∧ (0 < L.length → ∃ b off, A5 = some ⟨b, off, none⟩ ∧ Z ≤ b ∧ b < wr.heap.size ∧ v.ownBlock ≠ some b ∧ ∀ j, j < L.length → wr.cell? ⟨b, off + j, none⟩ = some (.int .i64 (li L j))) ∧ Z ≤ wr.heap.size := by
  refine ⟨hT.kp (Kp.below hb _), fun hl => ?_, Nat.le_trans hZ hb.size⟩
  obtain ⟨A, c, e, hri, _⟩ := hO.form
  injection e with e1 _ _
  obtain ⟨b, off, e2, hlt, hc⟩ := hri hl
  rw [← e1] at e2
  subst e2
  have h1 := hO.block b rfl
  exact ⟨b, off, rfl, by omega, hlt, fun e3 => by have := (hT.lt b e3).2; omega, hc⟩
set_option maxRecDepth 100000 in
set_option maxHeartbeats 16000000 in
theorem ref_Plan (A AO : Option Addr) (ca co : Nat) (rows : List Rw) (o : List Int) (w : World) (hP : RR w w.heap.size A rows) (hO : RI w w.heap.size AO o)
    (hr : rows.length ≤ 1000) (hlo : o.length ≤ 1000) (hlp : ∀ j, j < rows.length → (pr rows j).length ≤ 100) :
    Calls Try.prog 9 #[.slice A rows.length ca, .slice AO o.length co] w (PlanP w (refPlan rows o)) := by
  obtain ⟨i0, hi0, hz0, hz1, hz2⟩ := info_parts info3
  have HP := Lib.hid hP
  have HLP := Lib.hid hlp
  have HS := Lib.hid (ref_set AO co o w hO (by omega))
  have hgl := set_le o
  obtain ⟨PL, hPL⟩ : ∃ L, refPlan rows o = L := ⟨_, rfl⟩
  rw [hPL]
  unfold refPlan at hPL
  obtain ⟨gone, hgn⟩ : ∃ g, setL o = g := ⟨_, rfl⟩
  rw [hgn] at hPL HS hgl
  obtain ⟨AH, hAH⟩ : ∃ L, ordR rows gone rows.length (List.range rows.length) [] = L := ⟨_, rfl⟩
  rw [hAH] at hPL
  have HPL := Lib.hid hPL
  have HAH := Lib.hid hAH
  clear hP hO hlp hPL hAH hgn
  go_enter Try.func9, Try.ntmps9
  go_wp2_with (go_at_call 25; refine HS.out.mono ?_; rintro e w1 ⟨v1, rfl, hO1, hb1⟩; obtain ⟨AG, cg, rfl, hRG, hNG⟩ := hO1.form; have HRG := Lib.hid hRG; have HB1 := Lib.hid hb1; clear hO1 hRG hNG hb1)
  go_loopw [6, 8] (fun v i wr => ∃ t : Nat, t ≤ rows.length ∧ i = .int .i64 (t : Int) ∧ Hid (Own wr w1.heap.size v (nl (List.range t))) ∧ Below w1.heap.size w1 wr) (fun _ i _ => rows.length - (intOf i).toNat)
  case atStart => exact ⟨0, Nat.zero_le _, rfl, Lib.hid (World.ownsRow_nil _ _ _ _), Below.refl _ _⟩
  case round =>
    obtain ⟨t, ht, rfl, HO, hb⟩ := hrel
    have HB := Lib.hid hb
    have hszw := hb.size
    by_cases hlt : t < rows.length
    · have h1 : (t : Int) < (rows.length : Int) := by omega
      have HLN : Hid ((nl (List.range t)).length = t) := Lib.hid (by rw [nl_len, List.length_range])
      obtain ⟨L, hL⟩ : ∃ L, nl (List.range t) = L := ⟨_, rfl⟩
      have HLS : Hid (nl (List.range (t + 1)) = L ++ [(t : Int)]) := Lib.hid (by rw [List.range_succ, ← hL]; unfold nl; simp)
      rw [hL] at HO HLN
      have hLl : L.length ≤ 1000000 := by rw [HLN.out]; omega
      clear hL hb
      go_wp2_with (at_builtin; refine wpList_append_own _ rfl _ _ 23 rfl w1.heap.size 3 i0 _ 1 8 Try.underlying23 hi0 hz0 hz1 hz2 rfl (by decide) _ _ _ rfl (World.ownsRow.alloc HO.out _) ⟨wr.heap.size, 0, none⟩ 1 1 [.int .i64 (t : Int)] rfl rfl (cell_one_new _ _ _) (by simp [Value.oneCell']) (max_ok (by omega)) (by omega) (by simp; omega) ?_; intro v5 w5 hO5 hg5 _; have q5 := Own.grow2 HO.out HB.out hszw hg5; have HO5 : Hid (Own w5 w1.heap.size v5 (L ++ [(t : Int)])) := Lib.hid (Own.push hO5); have HB5 := Lib.hid q5; clear hO5 hg5 q5)
      go_roundw
      case rel => exact ⟨t + 1, by omega, by go_num, Lib.hid (by rw [HLS.out]; exact HO5.out), HB5.out⟩
      case measure => simp [intOf]; omega
    · obtain rfl : t = rows.length := by omega
      have h1 : ¬ (rows.length : Int) < (rows.length : Int) := by omega
      go_wp2
      go_loopg [6, 7] (rows.length + 1) (fun g lv av wr => ∃ (R A : List Nat), R.length < g ∧ A.length + R.length = rows.length ∧ Hid (Own wr w1.heap.size lv (nl R) ∧ Own wr w1.heap.size av (nl A) ∧ Apart lv av) ∧ Hid ((∀ k ∈ R, k < rows.length) ∧ (∀ k ∈ A, k < rows.length) ∧ ordR rows gone R.length R A = AH) ∧ Below w1.heap.size w1 wr)
      case atStart => exact ⟨List.range rows.length, [], by rw [List.length_range]; omega, by simp, Lib.hid ⟨HO.out, World.ownsRow_nil _ _ _ _, fun k hk e => by simp [Value.ownBlock] at e⟩, Lib.hid ⟨fun k hk => List.mem_range.1 hk, fun k hk => by simp at hk, by rw [List.length_range]; exact HAH.out⟩, HB.out⟩
      case round =>
        obtain ⟨R, A2, hRg, hAR, HOW, HIN, hb2⟩ := hrel
        obtain ⟨hol, hoa, hap⟩ := HOW.out
        obtain ⟨AL, cl, rfl, hRL, hNL⟩ := hol.form
        obtain ⟨AA, ca2, rfl, hRA, hNA⟩ := hoa.form
        rw [nl_len] at *
        rw [nl_len A2]
        try rw [nl_len A2] at hoa
        try rw [nl_len A2] at hap
        try rw [nl_len R] at hol
        try rw [nl_len R] at hap
        by_cases hR0 : R.length = 0
        · have g0 : ¬ (0 : Int) < (R.length : Int) := by omega
          have g0n : ¬ 0 < R.length := by omega
          have HA : A2 = AH := by
            have h := HIN.out.2.2
            rw [hR0] at h
            exact h
          have hAL : A2.length = rows.length := by omega
          have HB2 := Lib.hid hb2
          have hbo : Below w.heap.size w wr := HB1.out.trans (hb2.mono HB1.out.size)
          have HRW := Lib.hid (HP.out.step hbo)
          have HBW := Lib.hid hbo
          have HRG2 := Lib.hid (HRG.out.step hb2)
          have HRA := Lib.hid hRA
          have HOA := Lib.hid hoa
          have HIA := Lib.hid HIN.out.2.1
          subst HA
          have hAL2 : A2.length ≤ 1000 := by omega
          have HALE := Lib.hid hAL
          clear hRL hRA hol hoa hap hb2 hbo hR0 hRg HIN HOW hAL hAR
          go_wp2
          generalize wr = wo at *
          obtain ⟨i1, hi1, hy0, hy1, hy2⟩ := info_parts info32
          go_loopw [13, 14] (fun lv i wr => ∃ (t : Nat) (T : List St), t ≤ A2.length ∧ i = .int .i64 (t : Int) ∧ T.length = t ∧ Hid (OwnT 32 wr wo.heap.size lv T) ∧ Hid (T.map stK = (List.range t).map (refStep rows gone A2)) ∧ Below wo.heap.size wo wr) (fun _ i _ => A2.length - (intOf i).toNat)
          case atStart => exact ⟨0, [], Nat.zero_le _, rfl, rfl, Lib.hid (OwnT.nil _ _ _), Lib.hid rfl, Below.refl _ _⟩
          case round =>
            obtain ⟨t, T, ht, rfl, hTl, HT, HTM, hb⟩ := hrel
            have HB4 := Lib.hid hb
            have hbs := hb.size
            by_cases hlt : t < A2.length
            · have h1 : (t : Int) < (A2.length : Int) := by omega
              have h0 : (0 : Int) ≤ (t : Int) := by omega
              obtain ⟨ba, oa, hAA, hba, hca⟩ := HRA.out (by rw [nl_len]; omega)
              subst hAA
              have HCA : Hid (∀ k, k < A2.length → wo.cell? ⟨ba, oa + k, none⟩ = some (.int .i64 ((A2.getD k 0 : Nat) : Int))) := Lib.hid (fun k hk => by rw [hca k (by rw [nl_len]; exact hk), nl_at hk])
              have e1 := (hb.cell (p := ⟨ba, oa + t, none⟩) hba).trans (HCA.out t hlt)
              obtain ⟨P, hP⟩ : ∃ P, (fun v => lastK rows A2 v A2.length == t) = P := ⟨_, rfl⟩
              have HPV : Hid (∀ v, P v = (lastK rows A2 v A2.length == t)) := Lib.hid (fun v => by rw [← hP])
              have HSTEP : Hid (refStep rows gone A2 t = (((A2.getD t 0 : Nat) : Int), gone.filter P)) := Lib.hid (by unfold refStep; rw [hP])
              obtain ⟨x, hx⟩ : ∃ x, A2.getD t 0 = x := ⟨_, rfl⟩
              rw [hx] at e1 HSTEP
              have hbal : wr.heap.size < wr.heap.size + 1 := Nat.lt_succ_self _
              generalize wr = wb at *
              clear hP hx hca hb
              go_upto_region 22 with (fail)
              obtain ⟨W1, hW1⟩ : ∃ W1, wb.alloc (.cells #[.int .i64 (x : Int), .slice none 0 0] 32) = W1 := ⟨_, rfl⟩
              have hs1 : W1.heap.size = wb.heap.size + 1 := by rw [← hW1]; simp
              have HK1 : Hid (Blk W1 wb.heap.size 32 #[.int .i64 (x : Int), .slice none 0 0]) := Lib.hid (by rw [← hW1]; exact Blk.new _ _ _)
              have HL1 : Hid (Below wb.heap.size wb W1) := Lib.hid (by rw [← hW1]; exact (Below.refl _ _).alloc (Nat.le_refl _) _)
              rw [hW1]
              have HS1 := Lib.hid hs1
              clear hW1 e1 hs1
              go_upto_region 23 with (fail)
              go_loopw [16] (fun i wr => ∃ (j : Nat) (A5 : Option Addr) (c5 : Nat), j ≤ gone.length ∧ i = .int .i64 (j : Int) ∧ Hid (Blk wr wb.heap.size 32 #[.int .i64 (x : Int), .slice A5 ((gone.take j).filter P).length c5]) ∧ Hid (Own wr (wb.heap.size + 1) (.slice A5 ((gone.take j).filter P).length c5) ((gone.take j).filter P)) ∧ Below wb.heap.size wb wr) (fun i _ => gone.length - (intOf i).toNat)
              case atStart => exact ⟨0, none, 0, Nat.zero_le _, rfl, HK1, Lib.hid (World.ownsRow_nil _ _ _ _), HL1.out⟩
              case round =>
                obtain ⟨j, A5, c5, hj, rfl, HK5, HO5, hb5⟩ := hrel
                have HB5 := Lib.hid hb5
                have hb5s := hb5.size
                by_cases hjl : j < gone.length
                · have g1 : (j : Int) < (gone.length : Int) := by omega
                  have g0' : (0 : Int) ≤ (j : Int) := by omega
                  have HBO := Lib.hid (HB4.out.trans (hb5.mono hbs))
                  obtain ⟨bo, oo, hAG, hbo, hco⟩ := HRG2.out (by omega)
                  subst hAG
                  have HCY : Hid (∀ w', Below wo.heap.size wo w' → w'.cell? ⟨bo, oo + j, none⟩ = some (.int .i64 (li gone j))) := Lib.hid (fun w' hb' => (hb'.cell (p := ⟨bo, oo + j, none⟩) hbo).trans (hco j hjl))
                  have hft := filter_take (p := P) hjl
                  have hfl := List.length_filter_le P (gone.take j)
                  rw [List.length_take] at hfl
                  obtain ⟨y, hy⟩ : ∃ y, li gone j = y := ⟨_, rfl⟩
                  rw [hy] at HCY hft
                  obtain ⟨F, hF⟩ : ∃ F, (gone.take j).filter P = F := ⟨_, rfl⟩
                  obtain ⟨F2, hF2⟩ : ∃ F2, (gone.take (j + 1)).filter P = F2 := ⟨_, rfl⟩
                  rw [hF, hF2] at hft
                  rw [hF] at HK5 HO5 hfl
                  have HFT := Lib.hid hft
                  have HF2 := Lib.hid hF2
                  generalize wr = w5 at *
                  clear hco hy hft hF hF2 hb5
                  go_upto_region 27 with (fail)
                  go_loopw [17, 18] (fun l i wr => ∃ k m : Nat, k ≤ A2.length ∧ i = .int .i64 (k : Int) ∧ l = .int .i64 ((lastK rows A2 y k : Nat) : Int) ∧ wr = w5.drewN m) (fun _ i _ => A2.length - (intOf i).toNat)
                  case atStart => exact ⟨0, 0, Nat.zero_le _, rfl, rfl, rfl⟩
                  case round =>
                    obtain ⟨k, m, hk, rfl, rfl, hwr⟩ := hrel
                    have HBR : Hid (Below wo.heap.size wo wr) := Lib.hid (by rw [hwr]; exact below_drewN HBO.out m)
                    by_cases hkl : k < A2.length
                    · have k1 : (k : Int) < (A2.length : Int) := by omega
                      have k0 : (0 : Int) ≤ (k : Int) := by omega
                      have e2 := (HBR.out.cell (p := ⟨ba, oa + k, none⟩) hba).trans (HCA.out k hkl)
                      have e3 := HCY.out wr HBR.out
                      have hz2 := HIA.out _ (getD_mem hkl)
                      obtain ⟨z, hz⟩ : ∃ z, A2.getD k 0 = z := ⟨_, rfl⟩
                      have hls : lastK rows A2 y (k + 1) = if mem (pr rows z) y then k else lastK rows A2 y k := by rw [lastK, hz]
                      rw [hz] at e2 hz2
                      have hRRw := HRW.out.step HBR.out
                      obtain ⟨bp, op, hAP, hbp, hcp⟩ := hRRw.at_ (by omega)
                      have e4 := hcp z hz2
                      have hrz := (hRRw.row z hz2).1
                      have hlz := HLP.out z hz2
                      subst hAP
                      unfold rcell at e4
                      unfold pr at hlz
                      obtain ⟨⟨Ax, cax, lx⟩, hrx⟩ : ∃ r, rw_ rows z = r := ⟨_, rfl⟩
                      have hprx : pr rows z = lx := by unfold pr; rw [hrx]
                      rw [hrx] at e4 hrz hlz
                      dsimp only at e4 hrz hlz
                      rw [hprx] at hls
                      have z0 : (0 : Int) ≤ (z : Int) := by omega
                      have z1 : (z : Int) < (rows.length : Int) := by omega
                      have HQ2 : Hid (∀ n, Calls Try.prog 28 #[.slice Ax lx.length cax, .int .i64 y] (wr.drewN n) fun e w' => e = .returned (.bool (mem lx y)) ∧ wr.drewN n = w') := Lib.hid (fun n => ref_In _ _ _ _ _ (hrz.drewN n) (by omega))
                      have HREL : Hid (∀ n, wr.drewN n = w5.drewN (m + n)) := Lib.hid (fun n => by rw [hwr, World.drewN_drewN])
                      obtain ⟨lk, hlk⟩ : ∃ q, lastK rows A2 y k = q := ⟨_, rfl⟩
                      obtain ⟨lk2, hlk2⟩ : ∃ q, lastK rows A2 y (k + 1) = q := ⟨_, rfl⟩
                      rw [hlk, hlk2] at hls
                      rw [hlk]
                      have HLK2 := Lib.hid hlk2
                      obtain ⟨q2, hq2⟩ : ∃ q, mem lx y = q := ⟨_, rfl⟩
                      rw [hq2] at HQ2 hls
                      have HLS := Lib.hid hls
                      clear hz hRRw hcp hrz hrx hprx hls hlk hlk2 hq2 hwr
                      cases q2
                      · have HE : Hid (lk2 = lk) := Lib.hid (by rw [HLS.out]; simp)
                        go_wp2_with fail
                        go_quiet ((go_at_call 28; exact quiet_left (HQ2.out _)))
                        go_wp2
                        go_roundw
                        case rel => exact ⟨k + 1, _, by omega, by go_num, by rw [HLK2.out, HE.out], HREL.out _⟩
                        case measure => simp [intOf]; omega
                      · have HE : Hid (lk2 = k) := Lib.hid (by rw [HLS.out]; simp)
                        go_wp2_with fail
                        go_quiet ((go_at_call 28; exact quiet_left (HQ2.out _)))
                        go_wp2
                        go_roundw
                        case rel => exact ⟨k + 1, _, by omega, by go_num, by rw [HLK2.out, HE.out], HREL.out _⟩
                        case measure => simp [intOf]; omega
                    · obtain rfl : k = A2.length := by omega
                      have k1 : ¬ (A2.length : Int) < (A2.length : Int) := by omega
                      have hpy := HPV.out y
                      obtain ⟨lk, hlk⟩ : ∃ q, lastK rows A2 y A2.length = q := ⟨_, rfl⟩
                      rw [hlk] at hpy
                      rw [hlk]
                      have HKW : Hid (Blk wr wb.heap.size 32 #[.int .i64 (x : Int), .slice A5 F.length c5]) := Lib.hid (by rw [hwr]; exact HK5.out.drewN m)
                      have HOW : Hid (Own wr (wb.heap.size + 1) (.slice A5 F.length c5) F) := Lib.hid (by rw [hwr]; exact HO5.out.drewN m)
                      have HBW5 : Hid (Below wb.heap.size wb wr) := Lib.hid (by rw [hwr]; exact below_drewN HB5.out m)
                      clear hlk hwr
                      by_cases hq : lk = t
                      · have q1 : ((lk : Int) == (t : Int)) = true := by simp [hq]
                        have HFE : Hid (F2 = F ++ [y]) := Lib.hid (by rw [HFT.out, hpy]; simp [hq])
                        have e3 := HCY.out wr HBR.out
                        have v0 : wr.cell? ⟨wb.heap.size, 1, none⟩ = some (.slice A5 F.length c5) := HKW.out.cell 1
                        have v1 := HKW.out.lt
                        have v2 := HKW.out.frozen 1
                        clear hq hpy
                        have hbz : wb.heap.size + 1 ≤ wr.heap.size := v1
                        have HOWA : Hid (∀ ob, Own (wr.drew.alloc ob) (wb.heap.size + 1) (.slice A5 F.length c5) F) := Lib.hid (fun ob => World.ownsRow.alloc (w := wr.drew) HOW.out ob)
                        have HKEEP : Hid (∀ ob w8, (wr.drew.alloc ob).grownBy w8 (Value.slice A5 F.length c5).ownBlock → Blk w8 wb.heap.size 32 #[.int .i64 (x : Int), .slice A5 F.length c5] ∧ Below wb.heap.size wb w8) := Lib.hid (fun ob w8 hg => out_keep HKW.out HOW.out HBW5.out ob hg)
                        have hfl2 : F.length ≤ 1000 := by omega
                        go_upto_region 32 with (fail)
                        go_region_law (first
                          | (refine step_app_src (by rfl) (.tmp 139) (.tmp 144) (by rfl) (wb.heap.size + 1) (.slice A5 F.length c5) F (by rfl) (HOWA.out _) ⟨_, 0, none⟩ 1 1 [y] (by rfl) rfl (fun j u h => cell_one_new _ _ _ j u h) (by simp; omega) (by omega) ?_; intro v8 w8 hO8 hg8 hat8; obtain ⟨k8, b8⟩ := HKEEP.out _ _ hg8; obtain ⟨A8, c8, hv8⟩ := owns_slice hO8; obtain ⟨n8, hn8⟩ : ∃ n, (F ++ [y]).length = n := ⟨_, rfl⟩; rw [hn8] at hv8; subst hv8; have v3 : w8.cell? ⟨wb.heap.size, 1, none⟩ = some (.slice A5 F.length c5) := k8.cell 1; have v4 := k8.lt; have v5 := k8.frozen 1; have K8 := Lib.hid k8; have B8 := Lib.hid b8; have O8 := Lib.hid hO8; have N8 := Lib.hid hn8; clear hO8 hg8 hat8 hn8 k8 b8))
                        all_goals
                          have HFI := Lib.hid (out_set (u := .slice A8 n8 c8) K8.out O8.out B8.out)
                          clear v3 v4 v5
                          go_wp2
                          go_roundw
                          case rel => exact ⟨j + 1, A8, c8, by omega, by go_num, Lib.hid (by rw [HF2.out, HFE.out, N8.out]; exact HFI.out.1), Lib.hid (by rw [HF2.out, HFE.out, N8.out]; exact HFI.out.2.1), HFI.out.2.2⟩
                          case measure => simp [intOf]; omega
                      · have q1 : ((lk : Int) == (t : Int)) = false := by simp; omega
                        have HFE : Hid (F2 = F) := Lib.hid (by rw [HFT.out, hpy]; simp [hq])
                        clear hq hpy
                        go_wp2
                        go_roundw
                        case rel => exact ⟨j + 1, A5, c5, by omega, by go_num, by rw [HF2.out, HFE.out]; exact HKW, by rw [HF2.out, HFE.out]; exact HOW, HBW5.out⟩
                        case measure => simp [intOf]; omega
                · obtain rfl : j = gone.length := by omega
                  have g1 : ¬ (gone.length : Int) < (gone.length : Int) := by omega
                  rw [List.take_length] at HK5 HO5
                  obtain ⟨L, hL⟩ : ∃ L, gone.filter P = L := ⟨_, rfl⟩
                  rw [hL] at HK5 HO5 HSTEP
                  obtain ⟨s1, s2, s3⟩ := step_row HT.out hbs HO5.out hb5
                  obtain ⟨n5, hn5⟩ : ∃ n, L.length = n := ⟨_, rfl⟩
                  rw [hn5] at HK5
                  have HT5 := Lib.hid s1
                  have HN5 := Lib.hid s2
                  have HNL := Lib.hid hn5
                  have v0 : wr.cell? ⟨wb.heap.size, 0, none⟩ = some (.int .i64 (x : Int)) := HK5.out.cell 0
                  have v1 : wr.cell? ⟨wb.heap.size, 1, none⟩ = some (.slice A5 n5 c5) := HK5.out.cell 1
                  have v2 := HK5.out.lt
                  have hTb : T.length ≤ 1000 := by omega
                  have HTLE := Lib.hid hTl
                  clear hL s1 s2 hn5 hTl hb5
                  go_wp2_with (at_builtin; refine wpList_append_own_at _ rfl _ _ 28 rfl wo.heap.size 32 i1 _ 2 32 Try.underlying28 hi1 hy0 hy1 hy2 rfl (by decide) _ T.length (stC T) rfl (World.ownsRow.alloc HT5.out.row _) ⟨wr.heap.size, 0, none⟩ 1 1 [.int .i64 (x : Int), .slice A5 n5 c5] rfl rfl (cells_list wr 32 [.int .i64 (x : Int), .slice A5 n5 c5]) (by simp [Value.oneCell']) (max_ok (by omega)) (by omega) (by simp; omega) ?_; intro v8 w8 hO8 hg8 _ hat8; obtain ⟨q1, q2⟩ := HT5.out.app (s := ((x : Int), A5, c5, L)) s3 (by unfold rcell; rw [HNL.out]; exact hO8) hg8 hat8 HN5.out; have HQ1 := Lib.hid q1; have HQ2 := Lib.hid q2; clear hO8 hg8 hat8 q1 q2)
                  go_roundw
                  case rel => exact ⟨t + 1, T ++ [((x : Int), A5, c5, L)], by omega, by go_num, by rw [List.length_append, HTLE.out]; rfl, HQ1, Lib.hid (by rw [List.map_append, List.range_succ, List.map_append, HTM.out, List.map_singleton, List.map_singleton, HSTEP.out]; rfl), HB4.out.trans ((HB5.out.mono hbs).trans HQ2.out)⟩
                  case measure => simp [intOf]; omega
            · obtain rfl : t = A2.length := by omega
              have h1 : ¬ (A2.length : Int) < (A2.length : Int) := by omega
              have HM : Hid (T.map stK = PL) := Lib.hid (HTM.out.trans HPL.out)
              obtain ⟨AT, cT, hlv, hst⟩ := HT.out.st
              subst hlv
              have HST := Lib.hid hst
              have HBF := Lib.hid (HBW.out.trans (hb.mono HBW.out.size))
              have HTLE := Lib.hid hTl
              clear hst hTl hb
              go_wp2
              go_ret
              exact ⟨AT, cT, T, rfl, HST.out, HM.out, HBF.out⟩
        · have g0 : (0 : Int) < (R.length : Int) := by omega
          have g0n : 0 < R.length := by omega
          have hz2' := hb2.size
          have HB2 := Lib.hid hb2
          have hbw1 := HB1.out.size
          have hbo : Below w.heap.size w wr := HB1.out.trans (hb2.mono hbw1)
          have HRW := Lib.hid (HP.out.step hbo)
          have HRG2 := Lib.hid (HRG.out.step hb2)
          have HRL := Lib.hid hRL
          have HRA := Lib.hid hRA
          have HOL := Lib.hid hol
          have HOA := Lib.hid hoa
          have HAP := Lib.hid hap
          obtain ⟨bl, ol, hAL, hbl, hcl⟩ := hRL (by rw [nl_len]; omega)
          subst hAL
          have HCL : Hid (∀ i, i < R.length → wr.cell? ⟨bl, ol + i, none⟩ = some (.int .i64 ((R.getD i 0 : Nat) : Int))) := Lib.hid (fun i hi => by rw [hcl i (by rw [nl_len]; exact hi), nl_at hi])
          clear hRL hRA hol hoa hap hcl hb2 hbo
          generalize wr = wo at *
          go_upto_region 10 with (fail)
          go_loopw [9, 10] (fun bv i wr => ∃ j : Nat, j + 1 ≤ R.length ∧ i = .int .i64 ((j + 1 : Nat) : Int) ∧ bv = .int .i64 ((bI rows gone R A2 j : Nat) : Int) ∧ Below wo.heap.size wo wr) (fun _ i _ => R.length - (intOf i).toNat)
          case atStart => exact ⟨0, by omega, rfl, rfl, Below.refl _ _⟩
          case round =>
            obtain ⟨j, hj, rfl, rfl, hb3⟩ := hrel
            have HB3 := Lib.hid hb3
            have hbj := bI_le rows gone R A2 j
            by_cases hlt2 : j + 1 < R.length
            · have f1 : ((j + 1 : Nat) : Int) < (R.length : Int) := by omega
              have f0 : (0 : Int) ≤ ((j + 1 : Nat) : Int) := by omega
              have hbs : bI rows gone R A2 (j + 1) = if btR rows gone R A2 (R.getD (j + 1) 0) (R.getD (bI rows gone R A2 j) 0) then j + 1 else bI rows gone R A2 j := rfl
              have hm1 := HIN.out.1 _ (getD_mem hlt2)
              have e1 := (hb3.cell (p := ⟨bl, ol + (j + 1), none⟩) hbl).trans (HCL.out (j + 1) hlt2)
              obtain ⟨b, hbb⟩ : ∃ b, bI rows gone R A2 j = b := ⟨_, rfl⟩
              obtain ⟨b2, hbb2⟩ : ∃ b, bI rows gone R A2 (j + 1) = b := ⟨_, rfl⟩
              rw [hbb] at hbs hbj ⊢
              rw [hbb2] at hbs
              have HBB2 := Lib.hid hbb2
              have hbR : b < R.length := by omega
              have hm2 := HIN.out.1 _ (getD_mem hbR)
              have e2 := (hb3.cell (p := ⟨bl, ol + b, none⟩) hbl).trans (HCL.out b hbR)
              have HCY := Lib.hid (HCL.out b hbR)
              have HCZ := Lib.hid (HCL.out (j + 1) hlt2)
              have d0 : (0 : Int) ≤ (b : Int) := by omega
              have d1 : (b : Int) < (R.length : Int) := by omega
              generalize R.getD (j + 1) 0 = x at *
              generalize R.getD b 0 = y at *
              have hRRw := HRW.out.step hb3
              have hRGw := HRG2.out.step hb3
              have hRLw := HRL.out.step hb3
              have HA1 : Hid (∀ n, Calls Try.prog 26 #[.slice A rows.length ca, .slice (some ⟨bl, ol, none⟩) R.length cl, .int .i64 (x : Int), .slice AG gone.length cg] (wr.drewN n) fun e w'' => e = .returned (.int .i64 (alR rows R x gone : Nat)) ∧ ∃ m, w'' = wr.drewN m) := Lib.hid (fun n => (ref_alone A _ AG ca cl cg rows R x gone (wr.drewN n) (hRRw.below (below_drewN (Below.refl _ _) n)) (hRLw.drewN n) (hRGw.drewN n) HIN.out.1 hm1 (by omega) (by omega) (by omega) (fun j hj => by have := HLP.out j hj; omega)).mono fun e w'' ⟨he, m, hw⟩ => ⟨he, n + m, by rw [hw, World.drewN_drewN]⟩)
              have HA2 : Hid (∀ n, Calls Try.prog 26 #[.slice A rows.length ca, .slice (some ⟨bl, ol, none⟩) R.length cl, .int .i64 (y : Int), .slice AG gone.length cg] (wr.drewN n) fun e w'' => e = .returned (.int .i64 (alR rows R y gone : Nat)) ∧ ∃ m, w'' = wr.drewN m) := Lib.hid (fun n => (ref_alone A _ AG ca cl cg rows R y gone (wr.drewN n) (hRRw.below (below_drewN (Below.refl _ _) n)) (hRLw.drewN n) (hRGw.drewN n) HIN.out.1 hm2 (by omega) (by omega) (by omega) (fun j hj => by have := HLP.out j hj; omega)).mono fun e w'' ⟨he, m, hw⟩ => ⟨he, n + m, by rw [hw, World.drewN_drewN]⟩)
              have HF : Hid (∀ z w', z < rows.length → Below wo.heap.size wo w' → Calls Try.prog 27 #[.slice A rows.length ca, .slice AA A2.length ca2, .int .i64 (z : Int)] w' fun e w'' => e = .returned (.int .i64 (frR rows A2 z : Nat)) ∧ Below w'.heap.size w' w'') := Lib.hid (fun z w' hz hb' => ref_fresh A AA ca ca2 rows A2 z w' (HRW.out.step hb') (HRA.out.step hb') HIN.out.2.1 hz (by omega) (by omega) (fun j hj => by have := HLP.out j hj; omega))
              unfold btR at hbs
              obtain ⟨a1, ha1⟩ : ∃ n, alR rows R x gone = n := ⟨_, rfl⟩
              obtain ⟨a2, ha2⟩ : ∃ n, alR rows R y gone = n := ⟨_, rfl⟩
              rw [ha1] at HA1 hbs
              rw [ha2] at HA2 hbs
              have HM1 := Lib.hid hm1
              have HM2 := Lib.hid hm2
              have e1' : wr.cell? ⟨bl, ol + j + 1, none⟩ = some (.int .i64 (x : Int)) := e1
              clear hRRw hRGw hRLw ha1 ha2 hbb hbb2 hm1 hm2
              go_upto_region 12 with (fail)
              go_quiet ((go_at_call 26; first | (with_reducible exact HA1.out _) | (with_reducible exact HA2.out _)))
              obtain ⟨W, hW⟩ : ∃ W, wr.drewN nq = W := ⟨_, rfl⟩
              have HBW : Hid (Below wo.heap.size wo W) := Lib.hid (by rw [← hW]; exact below_drewN HB3.out nq)
              have c1 : W.cell? ⟨bl, ol + (j + 1), none⟩ = some (.int .i64 (x : Int)) := by rw [← hW]; exact e1
              have c2 : W.cell? ⟨bl, ol + b, none⟩ = some (.int .i64 (y : Int)) := by rw [← hW]; exact e2
              rw [hW]
              have HCX1 : Hid (wo.cell? ⟨bl, ol + (j + 1), none⟩ = some (.int .i64 (x : Int))) := HCZ
              have HCX2 : Hid (wo.cell? ⟨bl, ol + b, none⟩ = some (.int .i64 (y : Int))) := HCY
              clear hW e1 e2 e1' HA1 HA2
              have hblw : bl < W.heap.size := Nat.lt_of_lt_of_le hbl HBW.out.size
              by_cases q1 : a2 < a1
              · have q1' : (a2 : Int) < (a1 : Int) := by omega
                have HE : Hid (b2 = j + 1) := Lib.hid (by rw [hbs]; simp [q1])
                clear hbs q1 c1 c2
                go_wp2_with fail
                go_quiet (fail)
                go_wp2
                go_roundw
                case rel => exact ⟨j + 1, by omega, by go_num, by rw [HBB2.out, HE.out], below_drewN HBW.out _⟩
                case measure => simp [intOf]; omega
              · have q1' : ¬ (a2 : Int) < (a1 : Int) := by omega
                have q1d : decide (a2 < a1) = false := by simp [q1]
                rw [q1d] at hbs
                by_cases q2 : a1 = a2
                · have q2' : ((a1 : Int) == (a2 : Int)) = true := by simp [q2]
                  have q2d : (a1 == a2) = true := by simp [q2]
                  rw [q2d] at hbs
                  obtain ⟨ff1, hf1⟩ : ∃ n, frR rows A2 x = n := ⟨_, rfl⟩
                  obtain ⟨ff2, hf2⟩ : ∃ n, frR rows A2 y = n := ⟨_, rfl⟩
                  rw [hf1, hf2] at hbs
                  have HX1 := Lib.hid (fun w' hb' => HF.out x w' HM1.out hb')
                  have HX2 := Lib.hid (fun w' hb' => HF.out y w' HM2.out hb')
                  rw [hf1] at HX1
                  rw [hf2] at HX2
                  have HBWD := Lib.hid (below_drewN HBW.out 1)
                  have HBS := Lib.hid hbs
                  clear hbs q1d hf1 hf2 HF
                  subst q2
                  have f0' : (0 : Int) ≤ (j : Int) + 1 := by omega
                  have f1' : (j : Int) + 1 < (R.length : Int) := by omega
                  have HZ : Hid (∀ n, Below wo.heap.size wo (W.drewN n)) := Lib.hid (fun n => below_drewN HBW.out n)
                  go_wp2_with fail
                  have c1d : (W.drew).cell? ⟨bl, ol + (j + 1), none⟩ = some (.int .i64 (x : Int)) := c1
                  have c2d : (W.drew).cell? ⟨bl, ol + b, none⟩ = some (.int .i64 (y : Int)) := c2
                  go_region_held3 (fun wx => wx.cell? ⟨bl, ol + (j + 1), none⟩ = some (.int .i64 (x : Int)) ∧ wx.cell? ⟨bl, ol + b, none⟩ = some (.int .i64 (y : Int))) (first
                      | exact ⟨r1, r2⟩
                      | exact ⟨p1, p2⟩
                      | exact ⟨c1d, c2d⟩
                      | exact ⟨c1, c2⟩
                      | go_keep) (first
                    | (go_at_call 27; have _ := HBP; refine (HX2.out _ (by first | exact HBP.out | exact HBP.out.drew)).mono ?_; rintro e w6 ⟨rfl, hb6⟩; have HBR := Lib.hid (HBP.out.trans (hb6.mono HBP.out.size)); have r1 := (HBR.out.cell (p := ⟨bl, ol + (j + 1), none⟩) hbl).trans HCX1.out; have r2 := (HBR.out.cell (p := ⟨bl, ol + b, none⟩) hbl).trans HCX2.out; clear hb6)
                    | (go_at_call 27; refine (HX1.out _ (by first | exact HZ.out 1 | exact HZ.out 0 | exact HBW.out)).mono ?_; rintro e w5 ⟨rfl, hb5⟩; have HBP := Lib.hid ((HZ.out 1).trans (hb5.mono (HZ.out 1).size)); have p1 := (HBP.out.cell (p := ⟨bl, ol + (j + 1), none⟩) hbl).trans HCX1.out; have p2 := (HBP.out.cell (p := ⟨bl, ol + b, none⟩) hbl).trans HCX2.out; clear hb5))
                  by_cases q3 : ff1 < ff2
                  · have q3' : (ff1 : Int) < (ff2 : Int) := by omega
                    have HE : Hid (b2 = j + 1) := Lib.hid (by rw [HBS.out]; simp [q3])
                    clear q3 q1 c1 c2 c1d c2d p1 p2 r1 r2
                    go_wp2
                    go_roundw
                    case rel => exact ⟨j + 1, by omega, by go_num, by rw [HBB2.out, HE.out]; go_num, by first | exact HBR.out | exact HBR.out.drew⟩
                    case measure => simp [intOf]; omega
                  · have q3' : ¬ (ff1 : Int) < (ff2 : Int) := by omega
                    have HE : Hid (b2 = b) := Lib.hid (by rw [HBS.out]; simp [q3])
                    clear q3 q1 c1 c2 c1d c2d p1 p2 r1 r2
                    go_wp2
                    go_roundw
                    case rel => exact ⟨j + 1, by omega, by go_num, by rw [HBB2.out, HE.out], by first | exact HBR.out | exact HBR.out.drew⟩
                    case measure => simp [intOf]; omega
                · have q2' : ((a1 : Int) == (a2 : Int)) = false := by simp; omega
                  have q2d : (a1 == a2) = false := by simp [q2]
                  have HE : Hid (b2 = b) := Lib.hid (by rw [hbs, q2d]; simp)
                  clear hbs c1 c2
                  go_wp2_with fail
                  go_quiet (fail)
                  go_wp2
                  go_roundw
                  case rel => exact ⟨j + 1, by omega, by go_num, by rw [HBB2.out, HE.out], below_drewN HBW.out _⟩
                  case measure => simp [intOf]; omega
            · have hjR : j + 1 = R.length := by omega
              have f1 : ¬ ((j + 1 : Nat) : Int) < (R.length : Int) := by omega
              have f1' : ¬ (j : Int) + 1 < (R.length : Int) := by omega
              obtain ⟨b, hbb⟩ : ∃ b, bI rows gone R A2 j = b := ⟨_, rfl⟩
              have hbR : b < R.length := by omega
              have e2 := (hb3.cell (p := ⟨bl, ol + b, none⟩) hbl).trans (HCL.out b hbR)
              have d0 : (0 : Int) ≤ (b : Int) := by omega
              have d1 : (b : Int) < (R.length : Int) := by omega
              have HORD : Hid (ordR rows gone (R.eraseIdx b).length (R.eraseIdx b) (A2 ++ [R.getD b 0]) = AH) := Lib.hid (by
                have h := HIN.out.2.2
                rw [← hjR, ordR, ← hjR, Nat.add_sub_cancel, hbb] at h
                rw [List.length_eraseIdx, if_pos hbR, ← hjR, Nat.add_sub_cancel]
                exact h)
              have HEL : Hid ((R.eraseIdx b).length = R.length - 1) := Lib.hid (by rw [List.length_eraseIdx, if_pos hbR])
              have HNE : Hid (nl (R.eraseIdx b) = (nl R).take b ++ (nl R).drop (b + 1)) := Lib.hid (by unfold nl; rw [List.eraseIdx_eq_take_drop_succ, List.map_append, List.map_take, List.map_drop])
              have HNA : Hid (nl (A2 ++ [R.getD b 0]) = nl A2 ++ [((R.getD b 0 : Nat) : Int)]) := Lib.hid (by unfold nl; simp)
              have HI2 : Hid ((∀ k ∈ R.eraseIdx b, k < rows.length) ∧ (∀ k ∈ A2 ++ [R.getD b 0], k < rows.length)) := Lib.hid ⟨fun k hk => HIN.out.1 k (List.mem_of_mem_eraseIdx hk), fun k hk => by
                rcases List.mem_append.1 hk with h | h
                · exact HIN.out.2.1 k h
                · rw [List.mem_singleton] at h; rw [h]; exact HIN.out.1 _ (getD_mem hbR)⟩
              have hal : A2.length ≤ 1000 := by omega
              have hal2 : (nl A2).length ≤ 1000 := by rw [nl_len]; omega
              have hrl : (nl R).length = R.length := nl_len R
              rw [hbb]
              have HOLW := Lib.hid (HOL.out.at (fun g _ hl => hb3.block g hl))
              have HOAW := Lib.hid (HOA.out.at (fun g _ hl => hb3.block g hl))
              have HAP2 : Hid (Apart (.slice AA A2.length ca2) (.slice (some ⟨bl, ol, none⟩) R.length cl)) := Lib.hid (fun k hk e => HAP.out k e hk)
              have hz3' : w1.heap.size ≤ wr.heap.size := Nat.le_trans hz2' HB3.out.size
              generalize R.getD b 0 = x at *
              have HBB := Lib.hid hbb
              clear hb3 hbb
              go_upto_region 16 with (at_builtin; refine wpList_append_own_at _ rfl _ _ 23 rfl w1.heap.size 3 i0 _ 1 8 Try.underlying23 hi0 hz0 hz1 hz2 rfl (by decide) _ _ _ rfl (World.ownsRow.alloc HOAW.out _) ⟨wr.heap.size, 0, none⟩ 1 1 [.int .i64 (x : Int)] rfl rfl (cell_one_new _ _ _) (by simp [Value.oneCell']) (max_ok (by omega)) (by omega) (by simp; omega) ?_; intro v5 w5 hO5 hg5 _ hat5; obtain ⟨q1, q2, q3, _, q5⟩ := app_two HOAW.out HOLW.out HAP2.out hz3' hO5 hg5 hat5; have HQ1 := Lib.hid q1; have HQ2 := Lib.hid q2; have HQ3 := Lib.hid q3; have HQ5 := Lib.hid q5; clear hO5 hg5 hat5 q1 q2 q3 q5)
              have HCF := Lib.hid (cut_facts HQ2.out hrl hbR)
              have HE1 := Lib.hid (own_cut w5)
              have HBA := Lib.hid (below_cut2 w5)
              have k1 : ((b : Int) + 1) ≤ (R.length : Int) := by omega
              have k2 : (b : Int) ≤ (R.length : Int) := by omega
              have k5 : b ≤ R.length := by omega
              have k6 : b + 1 ≤ R.length := by omega
              have k9 : (0 : Int) ≤ (b : Int) + 1 := by omega
              have k10 : R.length ≤ 1000 := by omega
              have k11 : (b : Int) + 1 ≤ 2000 := by omega
              have k3 := wrapW _ k9 k11
              have k4 := wrapI _ k9 k11
              obtain ⟨off, c2, m, hX, k7, k8, hbm, hl1, hl2, hr1, hr2⟩ := HCF.out
              have HX := Lib.hid hX
              have HL1 := Lib.hid hl1
              have HL2 := Lib.hid hl2
              have HR1 := Lib.hid hr1
              have HR2 := Lib.hid hr2
              have HN1 : Hid (([] : List Int).length + b ≤ 1000000) := Lib.hid (hn_one k5 k10)
              have HN2 : Hid (((nl R).take b).length + m ≤ 1000000) := Lib.hid (hn_two HL1.out hbm k10)
              generalize (nl R).take b = L1 at *
              generalize (nl R).drop (b + 1) = L2 at *
              clear hX hl1 hl2 hr1 hr2 HCF
              go_region_law (first
                | (refine step_app_src (by rfl) (.tmp 93) (.tmp 97) (by rfl) w5.heap.size v8 L1 (by rfl) HO8.out ⟨bl, off, none⟩ m c2 L2 HX.out HL2.out (add_cells (HR2.out _ HB8.out)) HS8.out HN2.out ?_; intro v9 w9 hO9 hg9 _; have HB9 := Lib.hid (HB8.out.grown hg9 HS8.out (fun k e => HO8.out.block k e)); have HO9 := Lib.hid hO9; clear hO9 hg9)
                | (refine step_app_src (by rfl) (.tmp 89) (.tmp 92) (by rfl) w5.heap.size (.slice (some ⟨w5.heap.size, 0, none⟩) 0 0) [] (by rfl) HE1.out ⟨bl, ol, none⟩ b cl L1 (by rfl) HL1.out (add_cells (HR1.out _ HBA.out)) HBA.out.size HN1.out ?_; intro v8 w8 hO8 hg8 _; have HB8 := Lib.hid (HBA.out.grown hg8 HBA.out.size (fun k e => HE1.out.block k e)); rw [List.nil_append] at hO8; have HO8 := Lib.hid hO8; have HS8 := Lib.hid HB8.out.size; clear hO8 hg8))
              obtain ⟨p1, p2, p3, p4⟩ := own_past HQ1.out HO9.out HB9.out (Nat.le_trans hz3' HQ5.out.size)
              have P1 := Lib.hid p1
              have P2 := Lib.hid p2
              have P3 := Lib.hid p3
              have P4 := Lib.hid p4
              have z1 : (R.eraseIdx b).length < R.length := by have h := HEL.out; exact el_lt h g0n
              have z2 : (A2 ++ [x]).length + (R.eraseIdx b).length = rows.length := by have h := HEL.out; exact el_sum h hAR g0n
              clear p1 p2 p3 p4
              go_wp2
              · go_roundg R.length
                case measure => exact hRg
                case rel => exact ⟨R.eraseIdx b, A2 ++ [x], z1, z2, Lib.hid ⟨by rw [HNE.out]; exact P1.out, by rw [HNA.out]; exact P2.out, P3.out⟩, Lib.hid ⟨HI2.out.1, HI2.out.2, HORD.out⟩, HB2.out.trans ((HB3.out.mono hz2').trans (HQ5.out.trans P4.out))⟩
              · go_roundg R.length
                case measure => exact hRg
                case rel => exact ⟨R.eraseIdx b, A2 ++ [x], z1, z2, Lib.hid ⟨by rw [HNE.out]; exact P1.out, by rw [HNA.out]; exact P2.out, P3.out⟩, Lib.hid ⟨HI2.out.1, HI2.out.2, HORD.out⟩, HB2.out.trans ((HB3.out.mono hz2').trans (HQ5.out.trans P4.out))⟩
end Go.Proofs.Ytjohdkcgodaeiaa
