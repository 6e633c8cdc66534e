/- The contract of Eval, of layer 30 (terms). -/
import Derived.Test.YtcdpjodnbegepaaFnS
namespace Go.Proofs.Ytcdpjodnbegepaa
open Go.RowKit Go.Maps

theorem typS_ok {vs : List Vr} {t : Ex} (h : (typS vs true t).2 = 0) : okE vs t := by
  unfold typS at h
  by_cases g : chkE t = 0
  · rw [if_pos g] at h; exact ⟨chkE_good g, h⟩
  · rw [if_neg g] at h; exact absurd h g
theorem near_i64 {y : Int} (h : NearV y) : I64 y := by unfold NearV at h; unfold I64; omega
set_option maxRecDepth 100000 in
set_option maxHeartbeats 4000000 in
theorem ev_do (vs : List Vr) (s n : List Int) (D : DataW Unit) (bs bn bv bp bm nm : Nat) (V Sa Na : Option Addr) (cv cs cn : Nat) (t : Ex) (A : Option Addr) (c : Nat) (l : List Int) (K : Option Addr) (ck : Nat) (w : World)
    (e2 : w.cell? ⟨bs, 0, none⟩ = some (.slice Sa s.length cs)) (e3 : w.cell? ⟨bn, 0, none⟩ = some (.slice Na n.length cn)) (e4 : w.cell? ⟨bv, 0, none⟩ = some (.slice V vs.length cv)) (e5 : w.cell? ⟨bp, 0, none⟩ = some (.map (some bm)))
    (l2 : bs < w.heap.size) (l3 : bn < w.heap.size) (l4 : bv < w.heap.size) (l5 : bp < w.heap.size)
    (hown : w.ownsMap Try.prog 9 (plainElem Try.prog 3) bm nm D) (hix : Ix D vs) (hV : Vars w.heap.size w V vs) (hvl : vs.length ≤ 1000000000)
    (hS : RI w w.heap.size Sa s) (hNn : RI w w.heap.size Na n) (hss : s.length = vs.length) (hi64 : ∀ i, I64 (li s i)) (hn64 : ∀ i, I64 (li n i))
    (hok : okE vs t) (hT : RI w w.heap.size K l) (hl : l.length = t.ks.length) (hy : ∀ y, y ∈ l → NearV y) (hf : fdL (0 : Int) (valN vs s n) t.ks = ((l, (0 : Int)), 0)) :
    Calls Try.prog 49 #[exV t A c, .slice K l.length ck, .pointer (some ⟨bs, 0, none⟩), .pointer (some ⟨bn, 0, none⟩), .pointer (some ⟨bv, 0, none⟩), .pointer (some ⟨bp, 0, none⟩)] w (Two (valN vs s n t l) w) := by
  by_cases g : t.op = 3 ∨ t.op = 4 ∧ n.length = vs.length
  · obtain ⟨i, hi⟩ := hok.idx (by omega)
    have hnm : t.nm.size ≤ 24 := by
      obtain ⟨_, _, _, _, _, h6, _⟩ := hok.1.node
      unfold lenM at h6
      rw [if_pos (by omega)] at h6
      omega
    have e : valN vs s n t l = vvS (va vs i) (li (if t.op = 4 then n else s) i) := by
      unfold valN
      rw [if_neg (by split <;> omega), if_pos (by omega), hi]
    rw [e]
    exact pr_Eval1v vs s n D bs bn bv bp bm nm V Sa Na cv cs cn t A c _ w e2 e3 e4 e5 l2 l3 l4 l5 hown hix hV hvl hS hNn hss hi64 hn64 hnm i hi g
  · exact pr_Eval1n vs s n l bs bn bv bp V Sa Na cv cs cn t A c K ck w e2 e3 e4 l2 l3 l4 hss hT hl hok.1.node (fun i hi => near_i64 (hy _ (li_mem hi))) (fun h17 => (mod_at hss hok h17 hf).2) (by omega) (by omega)
set_option maxRecDepth 100000 in
set_option maxHeartbeats 4000000 in
theorem pr_Eval (vs : List Vr) (V : Option Addr) (cv : Nat) (t : Ex) (A : Option Addr) (c : Nat) (s n : List Int) (Sa Na : Option Addr) (cs cn : Nat) (w : World) (hV : Vars w.heap.size w V vs) (hvl : vs.length ≤ 1000000000) (hvn : ∀ i, i < vs.length → (va vs i).nm.size ≤ maxLen) (hR : Rep w.heap.size w A t) (hs : t.sz ≤ 100000000)
    (hS : RI w w.heap.size Sa s) (hN : RI w w.heap.size Na n) (hi64 : ∀ i, I64 (li s i)) (hn64 : ∀ i, I64 (li n i)) :
    Calls Try.prog 22 #[.slice V vs.length cv, exV t A c, .slice Sa s.length cs, .slice Na n.length cn] w fun e w' => e = .returned (.tuple #[.int .i64 (evS vs t s n).1, .bool (evS vs t s n).2]) ∧ Below w.heap.size w w' := by
  obtain ⟨W0, hW⟩ : ∃ W0, (((w.alloc (.cells #[.slice V vs.length cv] 36)).alloc (.cells #[.int .i64 t.op, .int .i64 t.vr, .string t.nm, .slice A t.ks.length c] 24)).alloc (.cells #[.slice Sa s.length cs] 45)).alloc (.cells #[.slice Na n.length cn] 45) = W0 := ⟨_, rfl⟩
  have hBW : Below w.heap.size w W0 := by rw [← hW]; exact Go.Proofs.Ytcdpjodnbegepaa.al (Go.Proofs.Ytcdpjodnbegepaa.al (Go.Proofs.Ytcdpjodnbegepaa.al (Go.Proofs.Ytcdpjodnbegepaa.al (Below.refl _ _) _) _) _) _
  have hWs : W0.heap.size = w.heap.size + 1 + 1 + 1 + 1 := by rw [← hW]; simp
  have blk : ∀ (w : World) (g : Nat) (ty : TypeId) (cs : Array Value), w.heap.size = g → Blk (w.alloc (.cells cs ty)) g ty cs := fun w g ty cs e => by rw [← e]; exact Blk.new w ty cs
  have HBK : Hid (Blk W0 w.heap.size 36 #[.slice V vs.length cv] ∧ Blk W0 (w.heap.size + 1) 24 #[.int .i64 t.op, .int .i64 t.vr, .string t.nm, .slice A t.ks.length c] ∧ Blk W0 (w.heap.size + 1 + 1) 45 #[.slice Sa s.length cs] ∧ Blk W0 (w.heap.size + 1 + 1 + 1) 45 #[.slice Na n.length cn]) := Lib.hid (by
    rw [← hW]
    exact ⟨(((blk _ _ _ _ rfl).alloc _).alloc _).alloc _, ((blk _ _ _ _ (by simp)).alloc _).alloc _, (blk _ _ _ _ (by simp)).alloc _, blk _ _ _ _ (by simp)⟩)
  have HX : Hid (∀ w1, Below W0.heap.size W0 w1 → (Blk w1 w.heap.size 36 #[.slice V vs.length cv] ∧ Blk w1 (w.heap.size + 1) 24 #[.int .i64 t.op, .int .i64 t.vr, .string t.nm, .slice A t.ks.length c] ∧ Blk w1 (w.heap.size + 1 + 1) 45 #[.slice Sa s.length cs] ∧ Blk w1 (w.heap.size + 1 + 1 + 1) 45 #[.slice Na n.length cn]) ∧ Below w.heap.size w w1 ∧ w.heap.size + 1 + 1 + 1 + 1 ≤ w1.heap.size) := Lib.hid (fun w1 h => by
    obtain ⟨x1, x2, x3, x4⟩ := HBK.out
    exact ⟨⟨x1.below h x1.lt, x2.below h x2.lt, x3.below h x3.lt, x4.below h x4.lt⟩, hBW.trans (h.mono (by omega)), by have := h.size; omega⟩)
  have HTP : Hid (Calls Try.prog 20 #[.slice V vs.length cv, exV t A c, .bool true] W0 (TyE (typS vs true t) W0)) := Lib.hid (pr_Type vs V cv t A c true W0 (hV.step hBW) hvl hvn (hR.step hBW) hs)
  have HIX : Hid (∀ w1, Below w.heap.size w w1 → Calls Try.prog 42 #[.slice V vs.length cv] w1 (IdxP vs w1)) := Lib.hid (fun w1 h => pr_indices vs V cv w1 (hV.step h) hvl hvn)
  have HFD : Hid ((typS vs true t).2 = 0 ∧ s.length = vs.length → ∀ w2 D bm nm, Below W0.heap.size W0 w2 → Ix D vs → w2.ownsMap Try.prog 9 (plainElem Try.prog 3) bm nm D → Calls Try.prog 48 #[exV t A c, .func (.func 49) #[] #[.pointer (some ⟨w.heap.size + 1 + 1, 0, none⟩), .pointer (some ⟨w.heap.size + 1 + 1 + 1, 0, none⟩), .pointer (some ⟨w.heap.size, 0, none⟩), .pointer (some ⟨w2.heap.size, 0, none⟩)]] (w2.alloc (.cells #[.map (some bm)] 68)) (Two (fd (0 : Int) (valN vs s n) t) (w2.alloc (.cells #[.map (some bm)] 68)))) := Lib.hid (fun h0 w2 D bm nm hb hix hown => by
    have hb2 : Below W0.heap.size W0 (w2.alloc (.cells #[.map (some bm)] 68)) := hb.alloc hb.size _
    have hbw := (HX.out _ hb2).2.1
    refine pr_fold48 (valN vs s n) _ _ _ _ (okE vs) NearV _ (fun t h => h.kid) (fun t l h1 h2 _ h4 => valN_near h1.1 h2 h4) (fun w' h' t A c l K ck hok hR2 hT hl hy hf => ?_) t A c hs (typS_ok h0.1) (hR.step hbw)
    have hb3 : Below W0.heap.size W0 w' := hb2.trans (h'.mono hb2.size)
    obtain ⟨⟨x1, x2, x3, x4⟩, y1, y2⟩ := HX.out _ hb3
    have z1 : Blk w' w2.heap.size 68 #[.map (some bm)] := (Blk.new w2 68 _).below h' (by simp)
    have hsz := hb2.size
    exact ev_do vs s n D (w.heap.size + 1 + 1) (w.heap.size + 1 + 1 + 1) w.heap.size w2.heap.size bm nm V Sa Na cv cs cn t A c l K ck w' (x3.cell 0) (x4.cell 0) (x1.cell 0) (z1.cell 0) x3.lt x4.lt x1.lt z1.lt (own_below (hown.alloc _) h') hix (hV.step y1) hvl (hS.step y1) (hN.step y1) h0.2 hi64 hn64 hok hT hl hy hf)
  obtain ⟨R0, hR0⟩ : ∃ R0, evS vs t s n = R0 := ⟨_, rfl⟩
  rw [hR0]
  unfold evS at hR0
  have HWW := Lib.hid hW
  have l0 : w.heap.size < W0.heap.size := HBK.out.1.lt
  have l1 : w.heap.size + 1 < W0.heap.size := HBK.out.2.1.lt
  have p0 : W0.cell? ⟨w.heap.size, 0, none⟩ = some (.slice V vs.length cv) := HBK.out.1.cell 0
  have q0 : W0.cell? ⟨w.heap.size + 1, 0, none⟩ = some (.int .i64 t.op) := HBK.out.2.1.cell 0
  have q1 : W0.cell? ⟨w.heap.size + 1, 1, none⟩ = some (.int .i64 t.vr) := HBK.out.2.1.cell 1
  have q2 : W0.cell? ⟨w.heap.size + 1, 2, none⟩ = some (.string t.nm) := HBK.out.2.1.cell 2
  have q3 : W0.cell? ⟨w.heap.size + 1, 3, none⟩ = some (.slice A t.ks.length c) := HBK.out.2.1.cell 3
  clear hW hBW hR hV hvl hvn hs blk hS hN hi64 hn64
  obtain ⟨T, hT⟩ : ∃ T, typS vs true t = T := ⟨_, rfl⟩
  rw [hT] at HTP HFD hR0
  obtain ⟨⟨Tb, Tl, Th⟩, Te⟩ := T
  clear hT
  by_cases h0 : Te = 0
  · subst h0
    by_cases hss : s.length = vs.length
    · rw [if_pos ⟨rfl, hss⟩] at hR0
      have HFE := Lib.hid (HFD.out ⟨rfl, hss⟩)
      obtain ⟨F, hF⟩ : ∃ F, fd (0 : Int) (valN vs s n) t = F := ⟨_, rfl⟩
      rw [hF] at HFE hR0
      obtain ⟨Fv, Fe⟩ := F
      have hR1 : (Fv, (Fe == 0)) = R0 := hR0
      rw [← hR1]
      rw [hss] at HX HWW ⊢
      clear hF hR0 hR1 HFD hss HBK
      go_enter Try.func22, Try.ntmps22
      go_upto_region 1 with (go_at_call 999)
      rw [HWW.out]
      go_wp2_with (first
        | (go_at_call 20; (with_reducible refine HTP.out.mono ?_); rintro e w1 ⟨rfl, hb1⟩; have hb1a := hb1.alloc hb1.size (.cells #[.bool Tb, .int .i64 Tl, .int .i64 Th] 39); obtain ⟨⟨x1, x2, x3, x4⟩, y1, y2⟩ := HX.out _ hb1; have p1 : w1.cell? ⟨w.heap.size, 0, none⟩ = some (.slice V vs.length cv) := x1.cell 0; have p2 := x1.lt; have p3 : w1.cell? ⟨w.heap.size + 1 + 1, 0, none⟩ = some (.slice Sa vs.length cs) := x3.cell 0; have p4 := x3.lt; have HB1 := Lib.hid hb1a; have HY1 := Lib.hid (HX.out _ hb1a).2.1; clear hb1 hb1a x1 x2 x3 x4 y1)
        | (go_at_call 42; (with_reducible refine (HIX.out _ HY1.out).mono ?_); rintro e w2 ⟨rfl, hD, hb2⟩; have hb3 := HB1.out.trans (hb2.mono HB1.out.size); obtain ⟨⟨x1, x2, x3, x4⟩, y1, y3⟩ := HX.out _ hb3; have s0 : w2.cell? ⟨w.heap.size + 1, 0, none⟩ = some (.int .i64 t.op) := x2.cell 0; have s1 : w2.cell? ⟨w.heap.size + 1, 1, none⟩ = some (.int .i64 t.vr) := x2.cell 1; have s2 : w2.cell? ⟨w.heap.size + 1, 2, none⟩ = some (.string t.nm) := x2.cell 2; have s3 : w2.cell? ⟨w.heap.size + 1, 3, none⟩ = some (.slice A t.ks.length c) := x2.cell 3; have s4 := x2.lt; have HB3 := Lib.hid hb3; have hD2 : ∃ D, Ix D vs ∧ w2.ownsMap Try.prog 9 (plainElem Try.prog 3) (w1.heap.size + 1) vs.length D := (by simpa using hD); have HDD := Lib.hid hD2; clear hb2 hb3 x1 x2 x3 x4 y1 hD hD2)
        | (go_at_call 48; obtain ⟨D, hix, hown⟩ := HDD.out; (with_reducible refine (HFE.out _ D _ _ HB3.out hix hown).mono ?_); rintro e w5 ⟨rfl, hb5⟩; have hb6 := (HB3.out.alloc HB3.out.size _).trans (hb5.mono (by have := HB3.out.size; simp; omega)); have HB6 := Lib.hid (HX.out _ hb6).2.1; clear hb5 hb6 hix hown))
      go_ret2
      exact ⟨rfl, HB6.out⟩
    · rw [if_neg (fun h => hss h.2)] at hR0
      rw [← hR0]
      have g1 : ((s.length : Int) == (vs.length : Int)) = false := by simp; omega
      have g2 : ((s.length : Int) != (vs.length : Int)) = true := by simp; omega
      clear hR0 HFD hss HBK
      go_enter Try.func22, Try.ntmps22
      go_upto_region 1 with (go_at_call 999)
      rw [HWW.out]
      go_wp2_with (first
        | (go_at_call 20; (with_reducible refine HTP.out.mono ?_); rintro e w1 ⟨rfl, hb1⟩; have hb1a := hb1.alloc hb1.size (.cells #[.bool Tb, .int .i64 Tl, .int .i64 Th] 39); obtain ⟨⟨x1, x2, x3, x4⟩, y1, y2⟩ := HX.out _ hb1; have p1 : w1.cell? ⟨w.heap.size, 0, none⟩ = some (.slice V vs.length cv) := x1.cell 0; have p2 := x1.lt; have p3 : w1.cell? ⟨w.heap.size + 1 + 1, 0, none⟩ = some (.slice Sa s.length cs) := x3.cell 0; have p4 := x3.lt; have HY1 := Lib.hid (HX.out _ hb1a).2.1; clear hb1 hb1a x1 x2 x3 x4 y1))
      go_ret2
      exact ⟨rfl, HY1.out⟩
  · rw [if_neg (fun h => h0 h.1)] at hR0
    rw [← hR0]
    have g1 : (Te == 0) = false := by simp [h0]
    have g2 : (Te != 0) = true := by simp [h0]
    clear hR0 HFD h0 HBK
    go_enter Try.func22, Try.ntmps22
    go_upto_region 1 with (go_at_call 999)
    rw [HWW.out]
    go_wp2_with (first
      | (go_at_call 20; (with_reducible refine HTP.out.mono ?_); rintro e w1 ⟨rfl, hb1⟩; have hb1a := hb1.alloc hb1.size (.cells #[.bool Tb, .int .i64 Tl, .int .i64 Th] 39); have HY1 := Lib.hid (HX.out _ hb1a).2.1; clear hb1 hb1a))
    go_ret2
    exact ⟨rfl, HY1.out⟩
end Go.Proofs.Ytcdpjodnbegepaa
