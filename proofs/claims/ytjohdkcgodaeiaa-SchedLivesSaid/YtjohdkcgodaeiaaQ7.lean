/- The specification's Live and Widest; layer 42 (sched). -/
import Derived.Test.YtjohdkcgodaeiaaQ6
import Derived.Test.YtjohdkcgodaeiaaR5
namespace Go.Proofs.Ytjohdkcgodaeiaa
open Go.RowKit

/-- append of integers that may be nil, as a step of a region that draws its order. -/
theorem step_app_ri {ops : Array Oper} {o : Oper} {a : Act} {w : World} {K : Act → World → Prop} {Q : Exit → Act → World → Prop} {E : Prop} (hgd : o.guard = none) (s x : Operand)
    (ho : o.op = .call { callee := .builtin .append, args := #[s, x], argTypes := #[23, 23] }) (B : Nat) (v : Value) (l : List Int) (hs : a.eval s = v) (hown : Own w B v l) (A : Option Addr) (c : Nat) (m : List Int)
    (hx : a.eval x = .slice A m.length c) (hr : RI w w.heap.size A m) (hn : A = none → c = 0) (hB : B ≤ w.heap.size) (hl : l.length + m.length ≤ 1000000)
    (h : ∀ v' w', Own w' B v' (l ++ m) → Below B w w' → K (a.put o.dst v') w') : if Region.wanted o (yielded ops a.tmps) = true then Oper.wp Try.prog o a w K Q else E := by
  cases A with
  | none =>
    obtain ⟨i0, hi0, hz0, hz1, hz2⟩ := info_parts info3
    have hm : m = [] := hr.none_nil
    have hc : c = 0 := hn rfl
    subst hm; subst hc
    have hw : Region.wanted o (yielded ops a.tmps) = true := by simp [Region.wanted, hgd]
    rw [if_pos hw]
    have hrun : (Builtin.append_ #[23, 23] o.type #[v, .slice none 0 0]).run Try.prog w = .ok v w := run_append_owned_none (P := Try.prog) (w := w) B 23 o.type 3 i0 1 Try.underlying23 hi0 v l.length (l.map (Value.int .i64)) hown
    unfold Oper.wp
    simp [execOp, ho, resolve, invoke, builtin, hs, hx, hrun, Result.andThen]
    exact h v w (by rw [List.append_nil]; exact hown) (Below.refl _ _)
  | some ad =>
    refine step_app_src hgd s x ho B v l hs hown ad m.length c m hx rfl (fun j u hj => (hr.src j u hj).1) hB hl ?_
    intro v' w' h2 h3 _
    exact h v' w' h2 ((Below.refl B w).grown h3 hB (fun k e => hown.block k e))
section
variable (A AL : Option Addr) (ca cl : Nat) (rows : List Rw) (T : List St) (w : World) (hP : RR w w.heap.size A rows) (hT : StP w AL T)
    (hr : rows.length ≤ 1000) (hl : T.length ≤ 100) (hlp : ∀ j, j < rows.length → (pr rows j).length ≤ 1000) (hlo : ∀ k, k < T.length → (stAt T k).2.2.2.length ≤ 1000)
include hP hT hr hl hlp hlo
set_option maxRecDepth 100000 in
set_option maxHeartbeats 8000000 in
theorem r_Live : Calls Try.prog 15 #[.slice A rows.length ca, .slice AL T.length cl] w (OwnR w (ll rows (T.map stK) T.length)) := by
  obtain ⟨i0, hi0, hz0, hz1, hz2⟩ := info_parts info3
  have HLV : Hid (∀ k wx, k < T.length → Below w.heap.size w wx → Calls Try.prog 34 #[.slice A rows.length ca, .slice AL T.length cl, .int .i64 ((k : Int) + 1)] wx (OwnR wx (liveL rows (T.map stK) (k + 1)))) := Lib.hid (fun k wx hk hb => r_live A AL ca cl rows T (k + 1) wx (hP.step hb) (hT.step hb) hk hr (by omega) hlp hlo)
  have hvr : ∀ p, (vrs rows p).length ≤ 1000 := fun p => by
    unfold vrs
    split
    · exact Nat.le_trans (set_le _) (hlp _ (by omega))
    · simp
  have HLL : Hid (∀ k, k ≤ T.length → (liveL rows (T.map stK) k).length ≤ 1000000) := Lib.hid (fun k hk => by have := live_len hvr k (K := T.map stK) (by rw [List.length_map]; omega); omega)
  obtain ⟨K, hK⟩ : ∃ K, T.map stK = K := ⟨_, rfl⟩
  rw [hK] at HLV HLL ⊢
  clear hP hT hr hlp hlo hK hvr
  go_enter Try.func15, Try.ntmps15
  go_wp2
  go_loopw [5, 6] (fun v i wr => ∃ k : Nat, k ≤ T.length ∧ i = .int .i64 (k : Int) ∧ Hid (Own wr w.heap.size v (ll rows K k)) ∧ Below w.heap.size w wr) (fun _ i _ => T.length - (intOf i).toNat)
  case atStart => exact ⟨0, Nat.zero_le _, rfl, Lib.hid (World.ownsRow_nil _ _ _ _), Below.refl _ _⟩
  case round =>
    obtain ⟨k, hk, rfl, HO, hb⟩ := hrel
    have hbs := hb.size
    by_cases hkl : k < T.length
    · have h1 : (k : Int) < (T.length : Int) := by omega
      have h0 : (0 : Int) ≤ (k : Int) := by omega
      have hw : IntKind.i64.wrap ((k : Int) + 1) = (k : Int) + 1 := IntWalk.i64_in _ (by omega)
      have hw2 : wrap64 ((k : Int) + 1) = (k : Int) + 1 := by unfold wrap64; omega
      have HC := Lib.hid (HLV.out k wr hkl hb)
      have hnl := HLL.out (k + 1) (by omega)
      have HLS := Lib.hid (ll_succ rows K k)
      have hl1 := ll_len rows K k
      obtain ⟨LV, hLV⟩ : ∃ L, liveL rows K (k + 1) = L := ⟨_, rfl⟩
      obtain ⟨LL, hLL⟩ : ∃ L, ll rows K k = L := ⟨_, rfl⟩
      rw [hLV] at HC hnl HLS
      rw [hLL] at HO HLS hl1
      have hl1b : LL.length ≤ 1000 := by omega
      obtain ⟨n, hn⟩ : ∃ n, LV.length = n := ⟨_, rfl⟩
      rw [hn] at hnl HLS
      have HN := Lib.hid hn
      have HB := Lib.hid hb
      clear hLV hLL hl1 hn hb
      go_wp2_with (first
        | (at_builtin; have _ := HO1; refine wpList_append_own _ rfl _ _ 23 rfl w.heap.size 3 i0 _ 1 8 Try.underlying23 hi0 hz0 hz1 hz2 rfl (by decide) _ _ _ rfl (World.ownsRow.alloc HO1.out _) ⟨w1.heap.size, 0, none⟩ 1 1 [.int .i64 (n : Int)] rfl rfl (cell_one_new _ _ _) (by simp [Value.oneCell']) (max_ok (by omega)) (by omega) (by simp; have := HB1.out.size; omega) ?_; intro v5 w5 hO5 hg5 _; have q5 := Own.grow2 HO1.out HB1.out HB1.out.size hg5; have HO5 : Hid (Own w5 w.heap.size v5 (LL ++ [(n : Int)])) := Lib.hid (Own.push hO5); have HB5 := Lib.hid q5; clear hO5 hg5 q5)
        | (go_at_call 34; refine HC.out.mono ?_; rintro e w1 ⟨v1, rfl, ho1, hb1⟩; obtain ⟨A1, c1, he, _, _⟩ := ho1.form; rw [HN.out] at he; subst he; have HO1 := Lib.hid (HO.out.at (fun g _ hl => hb1.block g hl)); have HB1 := Lib.hid (HB.out.trans (hb1.mono hbs)); clear ho1 hb1))
      go_roundw
      case rel => exact ⟨k + 1, by omega, by go_num, by rw [HLS.out]; exact HO5, HB5.out⟩
      case measure => simp [intOf]; omega
    · obtain rfl : k = T.length := by omega
      have h1 : ¬ (T.length : Int) < (T.length : Int) := by omega
      have HB := Lib.hid hb
      clear hb
      go_wp2
      go_ret
      exact ⟨_, rfl, HO.out, HB.out⟩
set_option maxRecDepth 100000 in
set_option maxHeartbeats 8000000 in
theorem r_Widest : Calls Try.prog 17 #[.slice A rows.length ca, .slice AL T.length cl] w fun e w' => e = .returned (.int .i64 ((mx rows (T.map stK) T.length : Nat) : Int)) ∧ Below w.heap.size w w' := by
  have HT := Lib.hid hT
  have HLV : Hid (∀ k wx, k ≤ T.length → Below w.heap.size w wx → Calls Try.prog 34 #[.slice A rows.length ca, .slice AL T.length cl, .int .i64 (k : Int)] wx (OwnR wx (liveL rows (T.map stK) k))) := Lib.hid (fun k wx hk hb => r_live A AL ca cl rows T k wx (hP.step hb) (hT.step hb) hk hr (by omega) hlp hlo)
  have HPT : Hid (∀ p wx, Below w.heap.size w wx → Calls Try.prog 36 #[.slice A rows.length ca, .int .i64 p] wx (OwnR wx (vrs rows p))) := Lib.hid (fun p wx hb => r_part A ca rows p wx (hP.step hb) (by omega) (fun j hj => by have := hlp j hj; omega))
  have hvr : ∀ p, (vrs rows p).length ≤ 1000 := fun p => by
    unfold vrs
    split
    · exact Nat.le_trans (set_le _) (hlp _ (by omega))
    · simp
  have HVR := Lib.hid hvr
  have HLL : Hid (∀ k, k ≤ T.length → (liveL rows (T.map stK) k).length ≤ 200000) := Lib.hid (fun k hk => by have := live_len hvr k (K := T.map stK) (by rw [List.length_map]; omega); omega)
  have HKK : Hid (∀ k, (kAt (T.map stK) k).1 = (stAt T k).1) := Lib.hid (fun k => kAt_fst T k)
  obtain ⟨K, hK⟩ : ∃ K, T.map stK = K := ⟨_, rfl⟩
  rw [hK] at HLV HLL HKK ⊢
  have HMX : Hid (∀ k, mx rows K (k + 1) = if mx rows K k < widL rows K k then widL rows K k else mx rows K k) := Lib.hid (fun k => by rw [mx])
  have HMB : Hid (∀ k, k ≤ T.length → mx rows K k ≤ 1000000) := Lib.hid (by
    intro k
    induction k with
    | zero => intro _; rw [mx]; omega
    | succ k ih =>
      intro hk
      have h1 := ih (by omega)
      have h2 : widL rows K k ≤ 1000000 := by
        unfold widL
        have h3 := set_le (liveL rows K k ++ vrs rows (kAt K k).1)
        rw [List.length_append] at h3
        have h4 := HLL.out k (by omega)
        have h5 := hvr (kAt K k).1
        omega
      rw [mx]
      split <;> omega)
  clear hP hT hr hlp hlo hK hvr
  go_enter Try.func17, Try.ntmps17
  go_wp2
  go_loopw [5, 6] (fun v i wr => ∃ k : Nat, k ≤ T.length ∧ i = .int .i64 (k : Int) ∧ v = .int .i64 ((mx rows K k : Nat) : Int) ∧ Below w.heap.size w wr) (fun _ i _ => T.length - (intOf i).toNat)
  case atStart => exact ⟨0, Nat.zero_le _, rfl, rfl, Below.refl _ _⟩
  case round =>
    obtain ⟨k, hk, rfl, rfl, hb⟩ := hrel
    have hbs := hb.size
    by_cases hkl : k < T.length
    · have h1 : (k : Int) < (T.length : Int) := by omega
      have h0 : (0 : Int) ≤ (k : Int) := by omega
      obtain ⟨b, off, rfl, hbl, hc⟩ := (HT.out.1) (by omega)
      obtain ⟨c1, _⟩ := hc k hkl
      have e1 := (hb.cell (p := ⟨b, off + k * 2, none⟩) hbl).trans c1
      have HCC : Hid (∀ wx, Below w.heap.size w wx → wx.cell? ⟨b, off + k * 2, none⟩ = some (.int .i64 (stAt T k).1)) := Lib.hid (fun wx hx => (hx.cell (p := ⟨b, off + k * 2, none⟩) hbl).trans c1)
      have hm1 := HMX.out k
      have hb1 := HMB.out k (by omega)
      have hlv := HLL.out k (by omega)
      have hpv := HVR.out (stAt T k).1
      have HW : Hid (widL rows K k = (setL (liveL rows K k ++ vrs rows (stAt T k).1)).length) := Lib.hid (by unfold widL; rw [HKK.out])
      rw [HW.out] at hm1
      have HL1 := Lib.hid (fun wx hx => HLV.out k wx hk hx)
      have HP1 := Lib.hid (fun wx hx => HPT.out (stAt T k).1 wx hx)
      have HNX := Lib.hid hm1
      obtain ⟨M2, hM2⟩ : ∃ M, mx rows K (k + 1) = M := ⟨_, rfl⟩
      obtain ⟨M, hM⟩ : ∃ M, mx rows K k = M := ⟨_, rfl⟩
      rw [hM2, hM] at HNX
      rw [hM] at hb1 ⊢
      have HM2 := Lib.hid hM2
      obtain ⟨p, hp⟩ : ∃ p, (stAt T k).1 = p := ⟨_, rfl⟩
      rw [hp] at e1 HCC hpv HP1 HNX
      obtain ⟨LV, hLV⟩ : ∃ L, liveL rows K k = L := ⟨_, rfl⟩
      obtain ⟨PV, hPV⟩ : ∃ L, vrs rows p = L := ⟨_, rfl⟩
      rw [hLV] at HL1 hlv HNX
      rw [hPV] at HP1 hpv HNX
      have hsl := set_le (LV ++ PV)
      rw [List.length_append] at hsl
      have HSETC : Hid (∀ A9 c9 wx, RI wx wx.heap.size A9 (LV ++ PV) → Calls Try.prog 25 #[.slice A9 (LV ++ PV).length c9] wx (OwnR wx (setL (LV ++ PV)))) := Lib.hid (fun A9 c9 wx hx => (ref_set A9 c9 _ wx hx (by rw [List.length_append]; omega)).mono fun e w' ⟨v, h1, h2, h3⟩ => ⟨v, h1, h2, h3⟩)
      obtain ⟨SV, hSV⟩ : ∃ L, setL (LV ++ PV) = L := ⟨_, rfl⟩
      rw [hSV] at HSETC hsl HNX
      obtain ⟨n, hn⟩ : ∃ n, SV.length = n := ⟨_, rfl⟩
      rw [hn] at hsl HNX
      have HN := Lib.hid hn
      have HB := Lib.hid hb
      have HBD := Lib.hid hb.drew
      have hw1 : LV.length + PV.length ≤ 1000000 := by omega
      obtain ⟨lp, hlp2⟩ : ∃ n, (LV ++ PV).length = n := ⟨_, rfl⟩
      rw [hlp2] at HSETC
      have HLPN := Lib.hid hlp2
      clear hc c1 hm1 hM2 hM hp hLV hPV hSV hn hb hlp2
      go_upto_region 5 with (fail)
      have e1d : (wr.drew).cell? ⟨b, off + k * 2, none⟩ = some (.int .i64 p) := e1
      go_region_held3 (fun wx => wx.cell? ⟨b, off + k * 2, none⟩ = some (.int .i64 p)) (first
          | exact r4
          | exact r3
          | exact r2
          | exact r1
          | exact e1d
          | exact e1
          | go_keep) (first
        | (go_at_call 25; have _ := HR3; (with_reducible refine (HSETC.out _ _ _ HR3.out).mono ?_); rintro e w4 ⟨v4, rfl, ho4, hb4⟩; obtain ⟨A4, c4, he4, _, _⟩ := ho4.form; rw [HN.out] at he4; subst he4; have HB4 := Lib.hid (HB3.out.trans (hb4.mono HB3.out.size)); have r4 := HCC.out _ HB4.out; clear ho4 hb4)
        | (have _ := HR2; refine step_app_ri rfl (.tmp 17) (.tmp 24) rfl w.heap.size v1 LV rfl HO2.out A2 c2 PV rfl HR2.out HN2.out HB2.out.size hw1 ?_; intro v3 w3 ho3 hb3; obtain ⟨A3, c3, he3, hr3, _⟩ := ho3.form; rw [HLPN.out] at he3; subst he3; have HR3 := Lib.hid hr3; have HB3 := Lib.hid (HB2.out.trans hb3); have r3 := HCC.out _ HB3.out; clear ho3 hb3 hr3)
        | (go_at_call 36; have _ := HO1; (with_reducible refine (HP1.out _ (by first | exact HB1.out | exact HB1.out.drew)).mono ?_); rintro e w2 ⟨v2, rfl, ho2, hb2⟩; obtain ⟨A2, c2, rfl, hr2, hn2⟩ := ho2.form; have HR2 := Lib.hid hr2; have HN2 := Lib.hid hn2; have HO2 : Hid (Own w2 w.heap.size v1 LV) := Lib.hid (HO1.out.at (fun g _ hl => hb2.block g hl)); have HB2 := Lib.hid (HB1.out.trans (Below.mono hb2 HB1.out.size)); have r2 := HCC.out _ HB2.out; clear ho2 hb2 hr2 hn2)
        | (go_at_call 34; (with_reducible refine (HL1.out _ (by first | exact HB.out | exact HBD.out)).mono ?_); rintro e w1 ⟨v1, rfl, ho1, hb1⟩; have HO1 : Hid (Own w1 w.heap.size v1 LV) := Lib.hid (ho1.less hbs); have HB1 : Hid (Below w.heap.size w w1) := Lib.hid (HBD.out.trans (hb1.mono HBD.out.size)); have r1 := HCC.out _ HB1.out; clear ho1 hb1))
      clear e1 e1d r1 r2 r3 r4
      by_cases q : M < n
      · have q1 : (M : Int) < (n : Int) := by omega
        have HE : Hid (M2 = n) := Lib.hid (by rw [HNX.out, if_pos q])
        clear q
        go_wp2
        go_roundw
        case rel => exact ⟨k + 1, by omega, by go_num, by rw [HM2.out, HE.out], HB4.out⟩
        case measure => simp [intOf]; omega
      · have q1 : ¬ (M : Int) < (n : Int) := by omega
        have HE : Hid (M2 = M) := Lib.hid (by rw [HNX.out, if_neg q])
        clear q
        go_wp2
        go_roundw
        case rel => exact ⟨k + 1, by omega, by go_num, by rw [HM2.out, HE.out], HB4.out⟩
        case measure => simp [intOf]; omega
    · obtain rfl : k = T.length := by omega
      have h1 : ¬ (T.length : Int) < (T.length : Int) := by omega
      have HB := Lib.hid hb
      clear hb
      go_wp2
      go_ret
      exact ⟨rfl, HB.out⟩
end
end Go.Proofs.Ytjohdkcgodaeiaa
