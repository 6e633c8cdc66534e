/- The contract of the specification's Type; TermsTypes's walk; layer 30 (terms). -/
import Derived.Test.YtcdpjodnbegepaaJv
import Derived.Test.YtcdpjodnbegepaaFnW
namespace Go.Proofs.Ytcdpjodnbegepaa
open Go.RowKit

set_option maxRecDepth 100000 in
set_option maxHeartbeats 4000000 in
theorem rf_Type (vs : List Vr) (V : Option Addr) (cv : Nat) (t : Ex) (A : Option Addr) (c : Nat) (nx : Bool) (w : World) (hV : Vars w.heap.size w V vs) (hvl : vs.length ≤ 1000000000) (hR : Rep w.heap.size w A t) (hs : t.sz ≤ 100000000) :
    Calls Try.prog 21 #[.slice V vs.length cv, exV t A c, .bool nx] w (TyE (typS vs nx t) w) := by
  obtain ⟨W, hW⟩ : ∃ W, (w.alloc (.cells #[.int .i64 t.op, .int .i64 t.vr, .string t.nm, .slice A t.ks.length c] 24)).alloc (.cells #[.bool false, .int .i64 0, .int .i64 0] 39) = W := ⟨_, rfl⟩
  have hJ := typW t A c w
  rw [hW] at hJ
  have HJ := Lib.hid hJ
  have p0 : W.cell? ⟨w.heap.size, 0, none⟩ = some (.int .i64 t.op) := hJ.b0.cell 0
  have p1 : W.cell? ⟨w.heap.size, 1, none⟩ = some (.int .i64 t.vr) := hJ.b0.cell 1
  have p2 : W.cell? ⟨w.heap.size, 2, none⟩ = some (.string t.nm) := hJ.b0.cell 2
  have p3 : W.cell? ⟨w.heap.size, 3, none⟩ = some (.slice A t.ks.length c) := hJ.b0.cell 3
  have pl := hJ.b0.lt
  have r0 : W.cell? ⟨w.heap.size + 1, 0, none⟩ = some (.bool false) := hJ.b1.cell 0
  have r1 : W.cell? ⟨w.heap.size + 1, 1, none⟩ = some (.int .i64 0) := hJ.b1.cell 1
  have r2 : W.cell? ⟨w.heap.size + 1, 2, none⟩ = some (.int .i64 0) := hJ.b1.cell 2
  have r3 := hJ.b1.frozen 0
  have r4 := hJ.b1.frozen 1
  have r5 := hJ.b1.frozen 2
  have rl := hJ.b1.lt
  have G1 := Lib.hid hJ.b1
  have HBW := Lib.hid hJ.hb
  have HWW := Lib.hid hW
  have HCK : Hid (Calls Try.prog 15 #[exV t A c] W fun e w' => e = .returned (.int .i64 (chkE t)) ∧ Below W.heap.size W w') := Lib.hid (rf_Check t A c W hs (hR.step hJ.hb))
  have HTP : Hid (chkE t = 0 → ∀ w1, Below W.heap.size W w1 → Calls Try.prog 47 #[.slice V vs.length cv, exV t A c, .bool nx] w1 (TyE (fd ty0 (nodeT vs nx) t) w1)) := Lib.hid (fun h0 w1 hb => rf_typed vs V cv nx hvl t.sz t (Nat.le_refl _) hs (chkE_good h0) A c w1 (hV.step (bt hJ.hb hb)) (hR.step (bt hJ.hb hb)))
  have X : Hid (typS vs nx t = if chkE t = 0 then fd ty0 (nodeT vs nx) t else (ty0, chkE t)) := Lib.hid rfl
  rw [X.out]
  obtain ⟨E, hE⟩ : ∃ E, chkE t = E := ⟨_, rfl⟩
  rw [hE] at HCK HTP ⊢
  have HQ : Hid (∀ w1, Below W.heap.size W w1 → (w1.cell? ⟨w.heap.size, 0, none⟩ = some (.int .i64 t.op) ∧ w1.cell? ⟨w.heap.size, 1, none⟩ = some (.int .i64 t.vr) ∧ w1.cell? ⟨w.heap.size, 2, none⟩ = some (.string t.nm) ∧ w1.cell? ⟨w.heap.size, 3, none⟩ = some (.slice A t.ks.length c)) ∧ w.heap.size < w1.heap.size) := Lib.hid (fun w1 hb => by
    have h := (HJ.out.step (hb.mono HJ.out.hz)).b0
    exact ⟨⟨h.cell 0, h.cell 1, h.cell 2, h.cell 3⟩, h.lt⟩)
  show Calls Try.prog 21 #[.slice V vs.length cv, .agg #[.int .i64 t.op, .int .i64 t.vr, .string t.nm, .slice A t.ks.length c], .bool nx] w _
  clear hV hR hJ hW hE X r0 r1 r2 r3 r4 r5 rl
  by_cases h0 : E = 0
  · subst h0
    rw [if_pos rfl]
    have HTQ := Lib.hid (HTP.out rfl)
    obtain ⟨R, hRr⟩ : ∃ R, fd ty0 (nodeT vs nx) t = R := ⟨_, rfl⟩
    rw [hRr] at HTQ ⊢
    clear hRr HTP
    obtain ⟨⟨Rb, Rl, Rh⟩, Re⟩ := R
    go_enter Try.func21, Try.ntmps21
    go_upto_region 1 with (go_at_call 999)
    rw [HWW.out]
    go_wp2_with (first
      | (go_at_call 15; (with_reducible refine HCK.out.mono ?_); rintro e w1 ⟨rfl, hb1⟩; obtain ⟨⟨s0, s1, s2, s3⟩, s4⟩ := HQ.out _ hb1; have HB1 := Lib.hid hb1; clear hb1)
      | (go_at_call 47; (with_reducible refine (HTQ.out _ HB1.out).mono ?_); rintro e w2 ⟨rfl, hb2a⟩; have hb2 := bt HB1.out hb2a; have g2 := (HJ.out.step (hb2.mono HJ.out.hz)).b1; have r0 : w2.cell? ⟨w.heap.size + 1, 0, none⟩ = _ := g2.cell 0; have r1 : w2.cell? ⟨w.heap.size + 1, 1, none⟩ = _ := g2.cell 1; have r2 : w2.cell? ⟨w.heap.size + 1, 2, none⟩ = _ := g2.cell 2; have r3 := g2.frozen 0; have r4 := g2.frozen 1; have r5 := g2.frozen 2; have rl := g2.lt; have G2 := Lib.hid g2; have HB2 := Lib.hid (bt HBW.out hb2); have HX2 := Lib.hid hb2; clear hb2 g2; clear hb2a))
    refine bodyPost_ret (res_ty rfl _ _ (w.heap.size + 1) _ _ _ rfl (((G2.out.set_ 0 _).set_ 1 _).set_ 2 _)) rfl ⟨rfl, ?_⟩
    exact below_set (below_set (below_set HB2.out (by omega) _ _) (by omega) _ _) (by omega) _ _
  · rw [if_neg h0]
    have h1 : (E == 0) = false := by simp [h0]
    have h2 : (E != 0) = true := by simp [h0]
    clear h0 HTP
    go_enter Try.func21, Try.ntmps21
    go_upto_region 1 with (go_at_call 999)
    rw [HWW.out]
    go_wp2_with (go_at_call 15; (with_reducible refine HCK.out.mono ?_); rintro e w2 ⟨rfl, hb2⟩; have g2 := (HJ.out.step (hb2.mono HJ.out.hz)).b1; have r0 : w2.cell? ⟨w.heap.size + 1, 0, none⟩ = _ := g2.cell 0; have r1 : w2.cell? ⟨w.heap.size + 1, 1, none⟩ = _ := g2.cell 1; have r2 : w2.cell? ⟨w.heap.size + 1, 2, none⟩ = _ := g2.cell 2; have r3 := g2.frozen 0; have r4 := g2.frozen 1; have r5 := g2.frozen 2; have rl := g2.lt; have G2 := Lib.hid g2; have HB2 := Lib.hid (bt HBW.out hb2); have HX2 := Lib.hid hb2; clear hb2 g2)
    refine bodyPost_ret (res_ty rfl _ _ (w.heap.size + 1) _ _ _ rfl (((G2.out.set_ 0 _).set_ 1 _).set_ 2 _)) rfl ⟨rfl, ?_⟩
    exact below_set (below_set (below_set HB2.out (by omega) _ _) (by omega) _ _) (by omega) _ _
/-- What the laws over a term have when they begin: the box of the term. -/
theorem lawBox (t : Ex) (A : Option Addr) (c : Nat) (w : World) (hR : Rep w.heap.size w A t) : ∀ w1, Below (w.heap.size + 1) (w.alloc (.cells #[.int .i64 t.op, .int .i64 t.vr, .string t.nm, .slice A t.ks.length c] 24)) w1 → (w1.cell? ⟨w.heap.size, 0, none⟩ = some (.int .i64 t.op) ∧ w1.cell? ⟨w.heap.size, 1, none⟩ = some (.int .i64 t.vr) ∧ w1.cell? ⟨w.heap.size, 2, none⟩ = some (.string t.nm) ∧ w1.cell? ⟨w.heap.size, 3, none⟩ = some (.slice A t.ks.length c)) ∧ Rep w1.heap.size w1 A t ∧ Below w.heap.size w w1 ∧ w.heap.size < w1.heap.size := fun w1 hb => by
  have hk := (Blk.new w 24 #[.int .i64 t.op, .int .i64 t.vr, .string t.nm, .slice A t.ks.length c]).below hb (by omega)
  have h0 : Below w.heap.size w (w.alloc (.cells #[.int .i64 t.op, .int .i64 t.vr, .string t.nm, .slice A t.ks.length c] 24)) := al (Below.refl _ _) _
  have hb2 : Below w.heap.size w w1 := h0.trans (hb.mono (by omega))
  have := hb.size
  exact ⟨⟨hk.cell 0, hk.cell 1, hk.cell 2, hk.cell 3⟩, hR.step hb2, hb2, by simp at this; omega⟩
set_option maxRecDepth 100000 in
set_option maxHeartbeats 4000000 in
theorem termsTypes_walk (vs : List Vr) (V : Option Addr) (cv : Nat) (t : Ex) (A : Option Addr) (c : Nat) (nx : Bool) (w : World) (hV : Vars w.heap.size w V vs) (hvl : vs.length ≤ 1000000000) (hvn : ∀ i, i < vs.length → (va vs i).nm.size ≤ maxLen) (hR : Rep w.heap.size w A t) (hs : t.sz ≤ 100000000) :
    Calls Try.prog 4 #[.slice V vs.length cv, exV t A c, .bool nx] w (RetT w) := by
  obtain ⟨W, hW⟩ : ∃ W, w.alloc (.cells #[.int .i64 t.op, .int .i64 t.vr, .string t.nm, .slice A t.ks.length c] 24) = W := ⟨_, rfl⟩
  have hX := lawBox t A c w hR
  rw [hW] at hX
  have HX := Lib.hid hX
  obtain ⟨⟨q0, q1, q2, q3⟩, _, _, ql⟩ := hX W (Below.refl _ _)
  have hWs : W.heap.size = w.heap.size + 1 := by rw [← hW]; simp
  have HWS := Lib.hid hWs
  have HLT : Hid (Calls Try.prog 9 #[exV t A c] W fun e w' => e = .returned (.bool (lightS t)) ∧ Below W.heap.size W w') := Lib.hid (lw_Light t A c W hs (hX W (Below.refl _ _)).2.1)
  have HFW := Lib.hid (fun w => lw_few vs.length V cv w)
  have HLV := Lib.hid law_lives
  have HP : Hid (∀ w1, Below W.heap.size W w1 → Calls Try.prog 20 #[.slice V vs.length cv, exV t A c, .bool nx] w1 (TyE (typS vs nx t) w1)) := Lib.hid (fun w1 hb => by
    obtain ⟨_, h1, h2, _⟩ := hX w1 (hb.mono (by omega))
    exact pr_Type vs V cv t A c nx w1 (hV.step h2) hvl hvn h1 hs)
  have HQ : Hid (∀ w1, Below W.heap.size W w1 → Calls Try.prog 21 #[.slice V vs.length cv, exV t A c, .bool nx] w1 (TyE (typS vs nx t) w1)) := Lib.hid (fun w1 hb => by
    obtain ⟨_, h1, h2, _⟩ := hX w1 (hb.mono (by omega))
    exact rf_Type vs V cv t A c nx w1 (hV.step h2) hvl h1 hs)
  obtain ⟨R, hRr⟩ : ∃ R, typS vs nx t = R := ⟨_, rfl⟩
  rw [hRr] at HP HQ
  obtain ⟨⟨Rb, Rl, Rh⟩, Re⟩ := R
  have HWW := Lib.hid hW
  show Calls Try.prog 4 #[.slice V vs.length cv, .agg #[.int .i64 t.op, .int .i64 t.vr, .string t.nm, .slice A t.ks.length c], .bool nx] w _
  clear hX hW hV hvl hvn hR hs hRr hWs
  obtain ⟨lt, hlt⟩ : ∃ lt, lightS t = lt := ⟨_, rfl⟩
  rw [hlt] at HLT
  clear hlt
  cases lt
  · go_enter Try.func4, Try.ntmps4
    go_upto_region 1 with (go_at_call 999)
    rw [HWW.out]
    go_wp2_with (first
      | (go_at_call 10; (with_reducible refine (HLV.out _).mono ?_); rintro e w2 ⟨rfl, hb2⟩; have HB2 := Lib.hid (bt HB1.out hb2); clear hb2)
      | (go_at_call 9; (with_reducible refine HLT.out.mono ?_); rintro e w1 ⟨rfl, hb1⟩; have HB1 := Lib.hid hb1; clear hb1))
    go_ret
    exact ⟨rfl, (HX.out _ (HB2.out.mono (by have := HWS.out; omega))).2.2.1⟩
  · obtain ⟨fw, hfw⟩ : ∃ fw, decide (vs.length ≤ 20) = fw := ⟨_, rfl⟩
    rw [hfw] at HFW
    clear hfw
    cases fw
    · go_enter Try.func4, Try.ntmps4
      go_upto_region 1 with (go_at_call 999)
      rw [HWW.out]
      go_wp2_with (first
        | (go_at_call 10; (with_reducible refine (HLV.out _).mono ?_); rintro e w2 ⟨rfl, hb2⟩; have HB2 := Lib.hid (bt HB1.out hb2); clear hb2)
        | (go_at_call 19; (with_reducible refine (HFW.out _).mono ?_); rintro e wf ⟨rfl, rfl⟩)
        | (go_at_call 9; (with_reducible refine HLT.out.mono ?_); rintro e w1 ⟨rfl, hb1⟩; have HB1 := Lib.hid hb1; clear hb1))
      go_ret
      exact ⟨rfl, (HX.out _ (HB2.out.mono (by have := HWS.out; omega))).2.2.1⟩
    · go_enter Try.func4, Try.ntmps4
      go_upto_region 1 with (go_at_call 999)
      rw [HWW.out]
      go_wp2_with (first
        | (go_at_call 10; (with_reducible refine (HLV.out _).mono ?_); rintro e w5 ⟨rfl, hb5⟩; have HB5 := Lib.hid (bt (al HB3.out _) hb5); clear hb5)
        | (go_at_call 21; (with_reducible refine (HQ.out _ (al HB2.out _)).mono ?_); rintro e w3 ⟨rfl, hb3⟩; have HB3 := Lib.hid (bt (al HB2.out (.cells #[.bool Rb, .int .i64 Rl, .int .i64 Rh] 39)) hb3); have z := (Blk.new w2 39 #[.bool Rb, .int .i64 Rl, .int .i64 Rh]).below hb3 (by simp); have z0 : w3.cell? ⟨w2.heap.size, 0, none⟩ = some (.bool Rb) := z.cell 0; have z1 : w3.cell? ⟨w2.heap.size, 1, none⟩ = some (.int .i64 Rl) := z.cell 1; have z2 : w3.cell? ⟨w2.heap.size, 2, none⟩ = some (.int .i64 Rh) := z.cell 2; have zl := z.lt; clear hb3 z)
        | (go_at_call 20; (with_reducible refine (HP.out _ HB1.out).mono ?_); rintro e w2 ⟨rfl, hb2⟩; have hb2a := bt HB1.out hb2; have HB2 := Lib.hid hb2a; obtain ⟨⟨s0, s1, s2, s3⟩, _, _, s4⟩ := HX.out _ (hb2a.mono (by have := HWS.out; omega)); clear hb2 hb2a)
        | (go_at_call 19; (with_reducible refine (HFW.out _).mono ?_); rintro e wf ⟨rfl, rfl⟩)
        | (go_at_call 9; (with_reducible refine HLT.out.mono ?_); rintro e w1 ⟨rfl, hb1⟩; have HB1 := Lib.hid hb1; obtain ⟨⟨t0, t1, t2, t3⟩, _, _, t4⟩ := HX.out _ (hb1.mono (by have := HWS.out; omega)); clear hb1))
      go_ret
      exact ⟨rfl, (HX.out _ (HB5.out.mono (by have := HWS.out; omega))).2.2.1⟩
end Go.Proofs.Ytcdpjodnbegepaa
