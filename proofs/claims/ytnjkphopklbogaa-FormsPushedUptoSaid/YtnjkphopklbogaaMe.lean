/- The contract of detached; layer 32 (forms). Names of layer 32 (forms). Names of layer 32 (forms), second part. The specification's put, names and Names; layer 32 (forms). The specification's names and Names; layer 32 (forms). Valid formulas; the specification's Names; both Names agree; layer 32 (forms). The pushed formula; node and operator; layer 32 (forms). Own rows of formulas, by append; layer 32 (forms). -/
import Derived.Test.YtnjkphopklbogaaMd
import Derived.Test.YtnjkphopklbogaaMb
import Derived.Test.YtnjkphopklbogaaMc
namespace Go.Proofs.Ytnjkphopklbogaa
open Go.RowKit
variable {Pz : Nat → Prop}

theorem size27 : (Try.prog.info? 27).map (·.size) = some 6 := by kernel_rfl
theorem res_fx {fn : Func} {p : Tmp} (h : fn.results = #[.cell p 27]) (tmps : Array Value) (w : World) (g : Nat) (a b c d e f : Value) (hp : tmps.getD p undef = .pointer (some ⟨g, 0, none⟩)) (hg : Blk w g 27 #[a, b, c, d, e, f]) :
    (results fn tmps).run Try.prog w = .ok (.agg #[a, b, c, d, e, f]) w := by
  exact results_cell_row (P := Try.prog) h tmps w g 27 #[a, b, c, d, e, f] (0, 0) _ hp hg Try.underlying27 rfl size27
/-- What lies once the term is detached. -/
structure FdW (Pz : Nat → Prop) (bl : Nat) (t : Fx) (E1 : Option Addr) (d1 K : Nat) (A : Option Addr) (c n : Nat) (w wr : World) (kk : Int) : Prop where
  lf : Lq bl w wr
  hz : w.heap.size + 1 + 1 ≤ wr.heap.size
  hbl : bl < w.heap.size
  bb : Blk wr bl 3 #[.int .i64 kk]
  b0 : Blk wr w.heap.size 27 #[.int .i64 t.op, .int .i64 t.e.op, .int .i64 t.e.vr, .string t.e.nm, .slice E1 t.e.ks.length d1, .slice A n c]
  b1 : Blk wr (w.heap.size + 1) 27 fZ
  hn : n = t.ks.length
  hK : K ≤ wr.heap.size
  tm : RepS (Bk Pz bl (w.heap.size + 1 + 1) K) wr E1 t.e
  kids : RepFS (Lb Pz bl) wr A t
theorem FdW.start {bl : Nat} {t : Fx} {E E1 A : Option Addr} {dd d1 c n : Nat} {w W0 w1 : World} {k1 : Int} (hal : Below w.heap.size w W0) (hz : W0.heap.size = w.heap.size + 1 + 1) (hbl : bl < w.heap.size) (q0 : Blk W0 w.heap.size 27 (fC t E dd A c)) (q1 : Blk W0 (w.heap.size + 1) 27 fZ) (hn : n = t.ks.length) (hR : FmS (Lb Pz bl) w t E A)
    (hb : Blk w1 bl 3 #[.int .i64 k1]) (hr : RepS (Od Pz bl W0.heap.size w1) w1 E1 t.e) (hl : Lq bl W0 w1) :
    FdW Pz bl t E1 d1 w1.heap.size A c n w ((((w1.setCell ⟨w.heap.size, 1, none⟩ (.int .i64 t.e.op)).setCell ⟨w.heap.size, 2, none⟩ (.int .i64 t.e.vr)).setCell ⟨w.heap.size, 3, none⟩ (.string t.e.nm)).setCell ⟨w.heap.size, 4, none⟩ (.slice E1 t.e.ks.length d1)) k1 := by
  subst hn
  have hs := hl.size
  have hf : Lq bl w w1 := (Frm.of_below hal).trans hl
  have hz2 : w.heap.size + 1 + 1 ≤ w1.heap.size := by omega
  refine ⟨lq_s4 hf (Nat.le_refl _) _ _ _ _ _ _ _ _, by rw [set4_size]; exact hz2, hbl, (set4_blk _ _ _ _ _ (by omega)).trans hb, ((((q0.frm hl (by omega)).set_ 1 _).set_ 2 _).set_ 3 _).set_ 4 _, (set4_blk _ _ _ _ _ (by omega)).trans (q1.frm hl (by omega)), rfl, by rw [set4_size]; exact Nat.le_refl _, (hr.kept (fun x hx => set4_blk _ _ _ _ _ (by rcases hx with h | h <;> omega))).mono (fun x hx => ?_), ?_⟩
  · rcases hx with h | h
    · exact .inl h
    · exact .inr ⟨by omega, h.2⟩
  · have h1 : RepFS (Lb Pz bl) w1 A t := hR.2.kept (fun x hx => hf.block x (by omega) (by omega))
    exact h1.kept (fun x hx => set4_blk _ _ _ _ _ (by omega))
theorem FdW.left {bl : Nat} {t : Fx} {E1 A : Option Addr} {d1 K c n : Nat} {w wr : World} {k1 k2 : Int} (h : FdW Pz bl t E1 d1 K A c n w wr k1) : FdW Pz bl t E1 d1 K A c n w (wr.setCell ⟨bl, 0, none⟩ (.int .i64 k2)).drew k2 := by
  have hz := h.hz
  have hbl := h.hbl
  have hl : Lq bl wr (wr.setCell ⟨bl, 0, none⟩ (.int .i64 k2)).drew := ((Frm.refl (fun b => b = bl) wr).set (g := bl) rfl 0 _).trans (Frm.of_below ((Below.refl _ _).drew))
  refine ⟨h.lf.trans hl, Nat.le_trans hz hl.size, hbl, (h.bb.set_ 0 _).below ((Below.refl _ _).drew) (by have := h.bb.lt; simpa using this), h.b0.frm hl (by omega), h.b1.frm hl (by omega), h.hn, Nat.le_trans h.hK hl.size, h.tm.kept (fun x hx => hl.block x (by have := h.hK; rcases hx with h | h <;> omega) (by rcases hx with h | h <;> omega)), h.kids.lb (hl.below2 (fun k hk e => by omega) (by omega))⟩
theorem csF_get {ks : List Fx} {ea ka : Nat → Option Addr} {ec kc : Nat → Nat} {i : Nat} (hi : i < ks.length) {w : World} {g : Nat} (h : ∀ j, j < ks.length * 6 → w.cell? ⟨g, j, none⟩ = (csF ks ea ka ec kc)[j]?) : FAt w g (i * 6) (fkd ks i) (ea i) (ec i) (ka i) (kc i) :=
  ⟨(h _ (by omega)).trans (csF_at (j := 0) hi (by omega)), (h _ (by omega)).trans (csF_at (j := 1) hi (by omega)), (h _ (by omega)).trans (csF_at (j := 2) hi (by omega)), (h _ (by omega)).trans (csF_at (j := 3) hi (by omega)), (h _ (by omega)).trans (csF_at (j := 4) hi (by omega)), (h _ (by omega)).trans (csF_at (j := 5) hi (by omega))⟩
theorem FdS.start {bl : Nat} {t : Fx} {E1 A A2 : Option Addr} {d1 K c c2 n : Nat} {w W1 w2 w3 : World} {k1 : Int} {ea ka : Nat → Option Addr} {ec kc : Nat → Nat} (hW : FdW Pz bl t E1 d1 K A c n w W1 k1)
    (hk : ∀ i, i < t.ks.length → FmS (Lb Pz bl) W1 (fkd t.ks i) (ea i) (ka i)) (hb2 : Below W1.heap.size W1 w2)
    (hg : 0 < n → ∃ g, A2 = some ⟨g, 0, none⟩ ∧ W1.heap.size ≤ g ∧ g < w2.heap.size ∧ (∀ j, j < n * 6 → w2.cell? ⟨g, j, none⟩ = (csF t.ks ea ka ec kc)[j]?) ∧ ∀ j, w2.frozen? ⟨g, j, none⟩ = false)
    (hw : w2.setCell ⟨w.heap.size, 5, none⟩ (.slice A2 n c2) = w3) : FdS Pz bl t E1 d1 K A2 c2 n w 0 w3 k1 := by
  have hs2 := hb2.size
  have hz := hW.hz
  have hbl := hW.hbl
  have hK := hW.hK
  have hblk : ∀ x, x ≠ w.heap.size → w3.heap[x]? = w2.heap[x]? := fun x hx => by rw [← hw]; exact set_blk _ _ _ hx
  have hsz : w3.heap.size = w2.heap.size := by rw [← hw]; simp
  refine ⟨by rw [← hw]; exact lq_s1 (hW.lf.trans (Frm.of_below hb2)) (Nat.le_refl _) _ _, by omega, hbl, (hblk _ (by omega)).trans (hW.bb.below hb2 hW.bb.lt), by rw [← hw]; exact (hW.b0.below hb2 hW.b0.lt).set_ 5 _, (hblk _ (by omega)).trans (hW.b1.below hb2 hW.b1.lt), hW.hn, by omega, hW.tm.kept (fun x hx => (hblk x (by rcases hx with h | h <;> omega)).trans (hb2.block x (by rcases hx with h | h <;> omega))), fun hp => ?_⟩
  obtain ⟨g, e1, e2, e3, e4, e5⟩ := hg hp
  have hgn : g ≠ w.heap.size := by omega
  refine ⟨g, e1, by omega, by omega, by omega, ea, ka, ec, kc, fun j hj => ?_⟩
  have hr : FmS (Lb Pz bl) w3 (fkd t.ks j) (ea j) (ka j) := (hk j hj).kept (fun x hx => (hblk x (by omega)).trans (hb2.block x (by omega)))
  have hat : FAt w2 g (j * 6) (fkd t.ks j) (ea j) (ec j) (ka j) (kc j) := csF_get hj (by rw [← hW.hn]; exact e4)
  exact ⟨hat.turn (fun o => World.cell?_of_block (a := ⟨g, o, none⟩) (hblk g hgn)), fun r => (World.frozen?_of_block (a := ⟨g, _, none⟩) (hblk g hgn)).trans (e5 _), hr.mono (fun y hy => .inl hy), fun _ => hr⟩
set_option maxRecDepth 100000 in
set_option maxHeartbeats 16000000 in
theorem pr_det : ∀ (N : Nat) t, t.sz ≤ N → N ≤ 100000000 → ∀ (bl : Nat) (E : Option Addr) (dd : Nat) (A : Option Addr) (c : Nat) (k : Int) (w : World), Blk w bl 3 #[.int .i64 k] → FmS (Lb Pz bl) w t E A →
    Calls Try.prog 46 #[fV t E dd A c, .pointer (some ⟨bl, 0, none⟩)] w (DetF Pz bl t w) := by
  intro N
  induction N with
  | zero => intro t h; have := fsz_pos t; omega
  | succ N ih =>
    intro t ht hn bl E dd A c k w hbl hR
    obtain ⟨W0, hW0⟩ : ∃ W, (w.alloc (.cells (fC t E dd A c) 27)).alloc (.cells fZ 27) = W := ⟨_, rfl⟩
    have hz1 : (w.alloc (.cells (fC t E dd A c) 27)).heap.size = w.heap.size + 1 := by simp
    have hal : Below w.heap.size w W0 := by rw [← hW0]; exact bt (bal _ _) (bal _ _)
    have hzw : W0.heap.size = w.heap.size + 1 + 1 := by rw [← hW0]; simp
    have q0 : Blk W0 w.heap.size 27 (fC t E dd A c) := by rw [← hW0]; exact (Blk.new w 27 _).below (bal _ _) (by simp)
    have q1 : Blk W0 (w.heap.size + 1) 27 fZ := by
      rw [← hW0]
      have h := Blk.new (w.alloc (.cells (fC t E dd A c) 27)) 27 fZ
      rw [hz1] at h
      exact h
    have hbw : bl < w.heap.size := hbl.lt
    have qb : Blk W0 bl 3 #[.int .i64 k] := hbl.below hal hbw
    have hszt := fkl_sz t
    have hset := fe_sz t
    have hkb : t.ks.length ≤ 1000000000 := by omega
    have HT : Hid (Calls Try.prog 71 #[exV t.e E dd, .pointer (some ⟨bl, 0, none⟩)] W0 (DetT Pz bl t.e W0)) := Lib.hid (pr_detT t.e.sz t.e (Nat.le_refl _) (by omega) bl E dd k W0 qb (hR.1.lb (hal.mono (by omega))))
    have HIH := Lib.hid (fun t h => ih t h (by omega))
    have HKS := Lib.hid (fun i (hi : i < t.ks.length) => (show (fkd t.ks i).sz ≤ N by have := fkd_sz hi; omega))
    obtain ⟨n, hnn⟩ : ∃ n, t.ks.length = n := ⟨_, rfl⟩
    have HM := Lib.hid hnn.symm
    have HSTART : Hid (∀ w1 E1 d1 k1, Blk w1 bl 3 #[.int .i64 k1] → RepS (Od Pz bl W0.heap.size w1) w1 E1 t.e → Lq bl W0 w1 → FdW Pz bl t E1 d1 w1.heap.size A c n w ((((w1.setCell ⟨w.heap.size, 1, none⟩ (.int .i64 t.e.op)).setCell ⟨w.heap.size, 2, none⟩ (.int .i64 t.e.vr)).setCell ⟨w.heap.size, 3, none⟩ (.string t.e.nm)).setCell ⟨w.heap.size, 4, none⟩ (.slice E1 t.e.ks.length d1)) k1 ∧ (w1.cell? ⟨w.heap.size, 1, none⟩ = some (.int .i64 t.e.op) ∧ w1.cell? ⟨w.heap.size, 2, none⟩ = some (.int .i64 t.e.vr) ∧ w1.cell? ⟨w.heap.size, 3, none⟩ = some (.string t.e.nm) ∧ w1.cell? ⟨w.heap.size, 4, none⟩ = some (.slice E t.e.ks.length dd)) ∧ (w1.frozen? ⟨w.heap.size, 1, none⟩ = false ∧ w1.frozen? ⟨w.heap.size, 2, none⟩ = false ∧ w1.frozen? ⟨w.heap.size, 3, none⟩ = false ∧ w1.frozen? ⟨w.heap.size, 4, none⟩ = false) ∧ w.heap.size < w1.heap.size) := Lib.hid (fun w1 E1 d1 k1 h1 h2 h3 => by
      have b := q0.frm h3 (by omega)
      exact ⟨FdW.start hal hzw hbw q0 q1 hnn.symm hR h1 h2 h3, ⟨b.cell 1, b.cell 2, b.cell 3, b.cell 4⟩, ⟨b.frozen 1, b.frozen 2, b.frozen 3, b.frozen 4⟩, b.lt⟩)
    have p1 : W0.cell? ⟨w.heap.size, 1, none⟩ = some (.int .i64 t.e.op) := q0.cell 1
    have p2 : W0.cell? ⟨w.heap.size, 2, none⟩ = some (.int .i64 t.e.vr) := q0.cell 2
    have p3 : W0.cell? ⟨w.heap.size, 3, none⟩ = some (.string t.e.nm) := q0.cell 3
    have p4 : W0.cell? ⟨w.heap.size, 4, none⟩ = some (.slice E t.e.ks.length dd) := q0.cell 4
    have pl := q0.lt
    have hW0n : (w.alloc (.cells #[.int .i64 t.op, .int .i64 t.e.op, .int .i64 t.e.vr, .string t.e.nm, .slice E t.e.ks.length dd, .slice A n c] 27)).alloc (.cells fZ 27) = W0 := by rw [← hnn]; exact hW0
    have HW0 := Lib.hid hW0n
    have HBL := Lib.hid hbw
    rw [hnn] at hkb
    show Calls Try.prog 46 #[.agg #[.int .i64 t.op, .int .i64 t.e.op, .int .i64 t.e.vr, .string t.e.nm, .slice E t.e.ks.length dd, .slice A t.ks.length c], .pointer (some ⟨bl, 0, none⟩)] w _
    rw [hnn]
    clear ih ht hn hbl hR hszt hset hz1 hal hzw q0 q1 qb hW0 hW0n hbw hnn
    go_enter Try.func46, Try.ntmps46
    go_upto_region 1 with (fail)
    rw [HW0.out]
    go_upto_region 2 with (go_at_call 71; (with_reducible refine HT.out.mono ?_); rintro e w1 hdt; obtain ⟨E1, d1, k1, rfl, hB1, hR1, hL1⟩ := hdt; obtain ⟨hFW, ⟨a1, a2, a3, a4⟩, ⟨f1, f2, f3, f4⟩, al⟩ := HSTART.out w1 E1 d1 k1 hB1 hR1 hL1; have HFW := Lib.hid hFW; clear hB1 hR1 hL1 hFW)
    obtain ⟨W2, hW2⟩ : ∃ W, ((((w1.setCell ⟨w.heap.size, 1, none⟩ (.int .i64 t.e.op)).setCell ⟨w.heap.size, 2, none⟩ (.int .i64 t.e.vr)).setCell ⟨w.heap.size, 3, none⟩ (.string t.e.nm)).setCell ⟨w.heap.size, 4, none⟩ (.slice E1 t.e.ks.length d1)) = W := ⟨_, rfl⟩
    rw [hW2]
    rw [hW2] at HFW
    clear hW2 a1 a2 a3 a4 f1 f2 f3 f4 al p1 p2 p3 p4 pl HT HSTART HW0
    obtain ⟨K, hK⟩ : ∃ K, w1.heap.size = K := ⟨_, rfl⟩
    rw [hK] at HFW
    clear hK
    have e0 : W2.cell? ⟨bl, 0, none⟩ = some (.int .i64 k1) := HFW.out.bb.cell 0
    have e1 := HFW.out.bb.frozen 0
    have e2 := HFW.out.bb.lt
    have e3 : W2.cell? ⟨w.heap.size, 5, none⟩ = some (.slice A n c) := HFW.out.b0.cell 5
    obtain ⟨k2, hk2⟩ : ∃ k2, wrap64 (k1 - ↑n) = k2 := ⟨_, rfl⟩
    have HFL := Lib.hid (HFW.out.left (k2 := k2))
    obtain ⟨W3, hW3⟩ : ∃ W, (W2.setCell ⟨bl, 0, none⟩ (.int .i64 k2)).drew = W := ⟨_, rfl⟩
    rw [hW3] at HFL
    have HW3 := Lib.hid hW3
    clear hW3
    go_region
    all_goals go_upto_region 3 with (fail)
    rw [HW3.out]
    clear e0 e1 e2 e3 HFW HW3
    have s0 := HFL.out.b0.cell 0
    have s1 := HFL.out.b0.cell 1
    have s2 := HFL.out.b0.cell 2
    have s3 := HFL.out.b0.cell 3
    have s4 := HFL.out.b0.cell 4
    have s5 := HFL.out.b0.cell 5
    have sl := HFL.out.b0.lt
    have sb := HFL.out.bb.cell 0
    by_cases hneg : k2 < 0
    · have v0 := HFL.out.b1.cell 0
      have v1 := HFL.out.b1.cell 1
      have v2 := HFL.out.b1.cell 2
      have v3 := HFL.out.b1.cell 3
      have v4 := HFL.out.b1.cell 4
      have v5 := HFL.out.b1.cell 5
      have u0 := HFL.out.b1.frozen 0
      have u1 := HFL.out.b1.frozen 1
      have u2 := HFL.out.b1.frozen 2
      have u3 := HFL.out.b1.frozen 3
      have u4 := HFL.out.b1.frozen 4
      have u5 := HFL.out.b1.frozen 5
      have ul := HFL.out.b1.lt
      go_wp2
      have hbl := HBL.out
      have hz := HFL.out.hz
      have hK := HFL.out.hK
      refine bodyPost_ret (res_fx rfl _ _ (w.heap.size + 1) _ _ _ _ _ _ rfl ((((((HFL.out.b1.set_ 0 _).set_ 1 _).set_ 2 _).set_ 3 _).set_ 4 _).set_ 5 _)) rfl ⟨E1, d1, A, c, k2, (by show _ = Ending.returned (.agg #[.int .i64 t.op, .int .i64 t.e.op, .int .i64 t.e.vr, .string t.e.nm, .slice E1 t.e.ks.length d1, .slice A t.ks.length c]); rw [← HM.out]), (set6_blk _ _ _ _ _ _ _ (by omega)).trans HFL.out.bb, ⟨(HFL.out.tm.kept (fun y hy => set6_blk _ _ _ _ _ _ _ (by rcases hy with h | h <;> omega))).mono (fun y hy => hy.imp id (fun h => ⟨by omega, by rw [set6_size]; omega⟩)), (HFL.out.kids.kept (fun y hy => set6_blk _ _ _ _ _ _ _ (by omega))).mono (fun y hy => .inl hy)⟩, lq_s6 HFL.out.lf (by omega) _ _ _ _ _ _ _ _ _ _ _ _⟩
    · have hsz := HFL.out.hz
      obtain ⟨ea, ka, ec, kc, hkk, hcl⟩ := clone_treeF c HFL.out.kids (fun y hy => by have := HBL.out; omega) (by rw [← HM.out]; exact hkb)
      rw [← HM.out] at hcl
      have HCL := Lib.hid hcl
      have HKK := Lib.hid hkk
      clear hcl hkk hsz
      go_upto_region 6 with (go_at_call 72; (with_reducible refine HCL.out.mono ?_); rintro e w2 ⟨A2, c2, rfl, hb2, hg2⟩; have b2 := HFL.out.b0.below hb2 HFL.out.b0.lt; have x5 : w2.cell? ⟨w.heap.size, 5, none⟩ = some (.slice A n c) := b2.cell 5; have xf := b2.frozen 5; have xl := b2.lt; have HB2 := Lib.hid hb2; have HG2 := Lib.hid hg2; clear hb2 hg2 b2)
      obtain ⟨w3, hw3⟩ : ∃ w3, w2.setCell ⟨w.heap.size, 5, none⟩ (.slice A2 n c2) = w3 := ⟨_, rfl⟩
      rw [hw3]
      have hP0 : Hid (FdS Pz bl t E1 d1 K A2 c2 n w 0 w3 k2) := Lib.hid (FdS.start HFL.out HKK.out HB2.out HG2.out hw3)
      clear hw3 x5 xf xl s0 s1 s2 s3 s4 s5 sl sb HB2 HG2 HCL HKK HFL hneg
      have y5 : w3.cell? ⟨w.heap.size, 5, none⟩ = some (.slice A2 n c2) := hP0.out.b0.cell 5
      go_wp2
      clear y5
      go_loopw [32] (fun i wr => ∃ (j : Nat) (kk : Int), j ≤ n ∧ i = .int .i64 (j : Int) ∧ Hid (FdS Pz bl t E1 d1 K A2 c2 n w j wr kk)) (fun i _ => n - (intOf i).toNat)
      case atStart => exact ⟨0, k2, Nat.zero_le _, rfl, hP0⟩
      case round =>
        obtain ⟨i, kk, hi, rfl, HP⟩ := hrel
        by_cases hlt : i < n
        · have l1 : (i : Int) < (n : Int) := by omega
          have l0 : (0 : Int) ≤ (i : Int) := by omega
          obtain ⟨g, ea, ec, ka, kc, rfl, hg0, hgl, ⟨d0, d1', d2, d3, d4, d5⟩, _, hro⟩ := HP.out.at hlt
          have HRO := Lib.hid hro
          have hi2 : i < t.ks.length := by rw [← HM.out]; exact hlt
          have HC : Hid (∀ wx, Below wr.heap.size wr wx → Calls Try.prog 46 #[fV (fkd t.ks i) ea ec ka kc, .pointer (some ⟨bl, 0, none⟩)] wx (DetF Pz bl (fkd t.ks i) wx)) := Lib.hid (fun wx hx => by
            have hP := HP.out.below hx
            exact HIH.out (fkd t.ks i) (HKS.out i hi2) bl ea ec ka kc kk wx hP.bb (HRO.out.lb (hx.mono (by have := HP.out.hz; have := HBL.out; omega))))
          obtain ⟨u, hu⟩ : ∃ u, fkd t.ks i = u := ⟨_, rfl⟩
          have HU := Lib.hid hu
          rw [hu] at HC d0 d1' d2 d3 d4 d5
          obtain ⟨wk, hwk⟩ : ∃ wk, wr.alloc (.cells #[.int .i64 u.op, .int .i64 u.e.op, .int .i64 u.e.vr, .string u.e.nm, .slice ea u.e.ks.length ec, .slice ka u.ks.length kc] 27) = wk := ⟨_, rfl⟩
          have hbk : Below wr.heap.size wr wk := by rw [← hwk]; exact bal _ _
          have hkv : Blk wk wr.heap.size 27 (fC u ea ec ka kc) := by rw [← hwk]; exact Blk.new wr 27 _
          have HBK := Lib.hid hbk
          have HKV := Lib.hid hkv
          have HWK := Lib.hid hwk
          have HDR : Hid (Below wk.heap.size wk wk.drew) := Lib.hid ((Below.refl _ _).drew)
          have HBD : Hid (Below wr.heap.size wr wk.drew) := Lib.hid (bt HBK.out HDR.out)
          have HPL : Hid (∀ w4, Lq bl wk w4 → w4.cell? ⟨w.heap.size, 5, none⟩ = some (.slice (some ⟨g, 0, none⟩) n c2) ∧ w4.cell? ⟨wr.heap.size, 0, none⟩ = some (.int .i64 u.op) ∧ w4.cell? ⟨wr.heap.size, 1, none⟩ = some (.int .i64 u.e.op) ∧ w4.cell? ⟨wr.heap.size, 2, none⟩ = some (.int .i64 u.e.vr) ∧ w4.cell? ⟨wr.heap.size, 3, none⟩ = some (.string u.e.nm) ∧ w4.cell? ⟨wr.heap.size, 4, none⟩ = some (.slice ea u.e.ks.length ec) ∧ w4.cell? ⟨wr.heap.size, 5, none⟩ = some (.slice ka u.ks.length kc)) := Lib.hid (fun w4 hl => by
            have hP := HP.out.below HBK.out
            have hz := HP.out.hz
            have hbl := HBL.out
            have hk2 := HKV.out.frm hl (by omega)
            have q0 := hP.b0.frm hl (by omega)
            exact ⟨q0.cell 5, hk2.cell 0, hk2.cell 1, hk2.cell 2, hk2.cell 3, hk2.cell 4, hk2.cell 5⟩)
          have HPT : Hid (∀ w4 a b1 c1 d1 e1 f1, Lq bl wk w4 → (S6 w4 g (i * 6) a b1 c1 d1 e1 f1).cell? ⟨w.heap.size, 5, none⟩ = some (.slice (some ⟨g, 0, none⟩) n c2) ∧ (S6 w4 g (i * 6) a b1 c1 d1 e1 f1).cell? ⟨wr.heap.size, 0, none⟩ = some (.int .i64 u.op) ∧ (S6 w4 g (i * 6) a b1 c1 d1 e1 f1).cell? ⟨wr.heap.size, 1, none⟩ = some (.int .i64 u.e.op) ∧ (S6 w4 g (i * 6) a b1 c1 d1 e1 f1).cell? ⟨wr.heap.size, 2, none⟩ = some (.int .i64 u.e.vr) ∧ (S6 w4 g (i * 6) a b1 c1 d1 e1 f1).cell? ⟨wr.heap.size, 3, none⟩ = some (.string u.e.nm) ∧ (S6 w4 g (i * 6) a b1 c1 d1 e1 f1).cell? ⟨wr.heap.size, 4, none⟩ = some (.slice ea u.e.ks.length ec) ∧ (S6 w4 g (i * 6) a b1 c1 d1 e1 f1).cell? ⟨wr.heap.size, 5, none⟩ = some (.slice ka u.ks.length kc)) := Lib.hid (fun w4 a b1 c1 d1 e1 f1 hl => by
            have hP := HP.out.below HBK.out
            have hz := HP.out.hz
            have hbl := HBL.out
            have hk2 := HKV.out.frm hl (by omega)
            have q0 := hP.b0.frm hl (by omega)
            have r2 : Blk (S6 w4 g (i * 6) a b1 c1 d1 e1 f1) _ _ _ := (set6_blk w4 a b1 c1 d1 e1 f1 (by omega)).trans hk2
            have r0 : Blk (S6 w4 g (i * 6) a b1 c1 d1 e1 f1) _ _ _ := (set6_blk w4 a b1 c1 d1 e1 f1 (by omega)).trans q0
            exact ⟨r0.cell 5, r2.cell 0, r2.cell 1, r2.cell 2, r2.cell 3, r2.cell 4, r2.cell 5⟩)
          have HPS : Hid (∀ w4 k4, Lq bl wk.drew w4 → Blk w4 bl 3 #[.int .i64 k4] → (∃ ez zz az cz, FAt w4 g (i * 6) u ez zz az cz) ∧ (w4.frozen? ⟨g, i * 6, none⟩ = false ∧ w4.frozen? ⟨g, i * 6 + 1, none⟩ = false ∧ w4.frozen? ⟨g, i * 6 + 2, none⟩ = false ∧ w4.frozen? ⟨g, i * 6 + 3, none⟩ = false ∧ w4.frozen? ⟨g, i * 6 + 4, none⟩ = false ∧ w4.frozen? ⟨g, i * 6 + 5, none⟩ = false) ∧ g < w4.heap.size) := Lib.hid (fun w4 k4 hl hb => by
            obtain ⟨g', ez, zz, az, cz, e, _, h2, c0, fr, _⟩ := ((HP.out.below HBD.out).frm hl hb).at hlt
            have e2 : g = g' := by simpa using e
            subst e2
            rw [HU.out] at c0
            exact ⟨⟨ez, zz, az, cz, c0⟩, ⟨fr 0, fr 1, fr 2, fr 3, fr 4, fr 5⟩, h2⟩)
          have HST : Hid (∀ w4 E4 d4 A4 c4 k4, Lq bl wk.drew w4 → Blk w4 bl 3 #[.int .i64 k4] → FmS (Od Pz bl wk.drew.heap.size w4) w4 u E4 A4 → FdS Pz bl t E1 d1 K (some ⟨g, 0, none⟩) c2 n w (i + 1) (S6 w4 g (i * 6) (.int .i64 u.op) (.int .i64 u.e.op) (.int .i64 u.e.vr) (.string u.e.nm) (.slice E4 u.e.ks.length d4) (.slice A4 u.ks.length c4)) k4) := Lib.hid (fun w4 E4 d4 A4 c4 k4 hl hb hr => by
            have hst := HP.out.step hlt (E' := E4) (d' := d4) (A' := A4) (c' := c4) wk.drew (Frm.of_below HBD.out) hl hb (by rw [HU.out]; exact hr) g rfl
            rw [HU.out] at hst
            exact hst)
          have HDL : Hid (∀ w4, Lq bl wk.drew w4 → Lq bl wk w4) := Lib.hid (fun w4 h => (Frm.of_below HDR.out).trans h)
          clear hu hwk hbk hkv hro
          go_upto_region 9 with (fail)
          rw [HWK.out]
          go_region_held3 (fun wx => wx.cell? ⟨w.heap.size, 5, none⟩ = some (.slice (some ⟨g, 0, none⟩) n c2) ∧ wx.cell? ⟨wr.heap.size, 0, none⟩ = some (.int .i64 u.op) ∧ wx.cell? ⟨wr.heap.size, 1, none⟩ = some (.int .i64 u.e.op) ∧ wx.cell? ⟨wr.heap.size, 2, none⟩ = some (.int .i64 u.e.vr) ∧ wx.cell? ⟨wr.heap.size, 3, none⟩ = some (.string u.e.nm) ∧ wx.cell? ⟨wr.heap.size, 4, none⟩ = some (.slice ea u.e.ks.length ec) ∧ wx.cell? ⟨wr.heap.size, 5, none⟩ = some (.slice ka u.ks.length kc)) (first | with_reducible exact HK4.out | with_reducible exact HK5.out | exact HPL.out _ (Frm.of_below HDR.out) | exact HPL.out _ (Frm.refl _ _)) ((go_at_call 46; (with_reducible refine (HC.out _ HBD.out).mono ?_); rintro e w4 hpp; obtain ⟨E4, d4', A4, c4, k4, rfl, hB4, hR4, hL4⟩ := hpp; have HK4 := Lib.hid (HPL.out w4 (HDL.out w4 hL4)); have HK5 := Lib.hid (HPT.out w4 (.int .i64 u.op) (.int .i64 u.e.op) (.int .i64 u.e.vr) (.string u.e.nm) (.slice E4 u.e.ks.length d4') (.slice A4 u.ks.length c4) (HDL.out w4 hL4)); obtain ⟨⟨ez, zz, az, cz, ⟨y0, y1, y2, y3, y4, y5⟩⟩, ⟨z0, z1, z2, z3, z4, z5⟩, zl⟩ := HPS.out w4 k4 hL4 hB4; have HS4 := Lib.hid (HST.out w4 E4 d4' A4 c4 k4 hL4 hB4 hR4); clear hB4 hR4 hL4))
          all_goals go_wp2
          go_roundw
          case rel => exact ⟨i + 1, k4, by omega, by go_num, HS4⟩
          case measure => simp [intOf]; try omega
        · have l1 : ¬ (i : Int) < (n : Int) := by omega
          obtain rfl : i = n := by omega
          have s0 := HP.out.b0.cell 0
          have s1 := HP.out.b0.cell 1
          have s2 := HP.out.b0.cell 2
          have s3 := HP.out.b0.cell 3
          have s4 := HP.out.b0.cell 4
          have s5 := HP.out.b0.cell 5
          have sl := HP.out.b0.lt
          have v0 := HP.out.b1.cell 0
          have v1 := HP.out.b1.cell 1
          have v2 := HP.out.b1.cell 2
          have v3 := HP.out.b1.cell 3
          have v4 := HP.out.b1.cell 4
          have v5 := HP.out.b1.cell 5
          have u0 := HP.out.b1.frozen 0
          have u1 := HP.out.b1.frozen 1
          have u2 := HP.out.b1.frozen 2
          have u3 := HP.out.b1.frozen 3
          have u4 := HP.out.b1.frozen 4
          have u5 := HP.out.b1.frozen 5
          have ul := HP.out.b1.lt
          go_wp2
          have hz := HP.out.hz
          have hbl := HBL.out
          have hK := HP.out.hK
          have hdone : RepFS (fun y => Od Pz bl w.heap.size wr y ∧ y ≠ w.heap.size + 1) wr A2 t := by
            rcases Nat.eq_zero_or_pos i with h0 | h0
            · exact RepFS.leaf (by rw [← HM.out]; exact h0)
            · obtain ⟨g, e, g1, gK, g2, g3⟩ := HP.out.row h0
              rw [e]
              refine (g3.done (G := g) g2 (Nat.le_refl _)).mono (fun y hy => ?_)
              rcases hy with h | h
              · exact ⟨.inl h, by omega⟩
              · exact ⟨.inr ⟨by omega, h.2⟩, by omega⟩
          refine bodyPost_ret (res_fx rfl _ _ (w.heap.size + 1) _ _ _ _ _ _ rfl ((((((HP.out.b1.set_ 0 _).set_ 1 _).set_ 2 _).set_ 3 _).set_ 4 _).set_ 5 _)) rfl ⟨E1, d1, A2, c2, kk, (by show _ = Ending.returned (.agg #[.int .i64 t.op, .int .i64 t.e.op, .int .i64 t.e.vr, .string t.e.nm, .slice E1 t.e.ks.length d1, .slice A2 t.ks.length c2]); rw [← HM.out]), (set6_blk _ _ _ _ _ _ _ (by omega)).trans HP.out.bb, ⟨(HP.out.tm.kept (fun y hy => set6_blk _ _ _ _ _ _ _ (by rcases hy with h | h <;> omega))).mono (fun y hy => hy.imp id (fun h => ⟨by omega, by rw [set6_size]; omega⟩)), (hdone.kept (fun y hy => set6_blk _ _ _ _ _ _ _ hy.2)).mono (fun y hy => hy.1.imp id (fun h => ⟨h.1, by rw [set6_size]; exact h.2⟩))⟩, lq_s6 HP.out.lf (by omega) _ _ _ _ _ _ _ _ _ _ _ _⟩
end Go.Proofs.Ytnjkphopklbogaa
namespace Go.Proofs.Ytnjkphopklbogaa
open Go.RowKit
open Go.Shelf

theorem info9F : (Try.prog.info? 9).map (fun i => (i.zero, i.size, i.bytes)) = some (some (.string ⟨#[]⟩), 1, 16) := by kernel_rfl
/-- append of a slice of texts to a row of the call's own, in a drawn region. -/
theorem step_app_txt {ops : Array Oper} {o : Oper} {a : Act} {w : World} {K : Act → World → Prop} {Q : Exit → Act → World → Prop} {Ex' : Prop}
    (hgd : o.guard = none) (s x : Operand) (ho : o.op = .call { callee := .builtin .append, args := #[s, x], argTypes := #[34, 34] })
    (n : Nat) (v : Value) (xs : List Value) (hs : a.eval s = v) (hown : w.ownsRow 0 9 1 v n xs) (A : Option Addr) (l : List Bs) (cc : Nat) (hx : a.eval x = .slice A l.length cc) (hT : RT w w.heap.size A l)
    (hlen : n + l.length ≤ 1000000000) (hK : ∀ A' c' w', w'.ownsRow 0 9 1 (.slice A' (n + l.length) c') (n + l.length) (xs ++ l.map encT) → w.grownBy w' v.ownBlock → (∀ k, (Value.slice A' (n + l.length) c').ownBlock = some k → v.ownBlock = some k ∨ k = w.heap.size) → K (a.put o.dst (.slice A' (n + l.length) c')) w') :
    if Region.wanted o (yielded ops a.tmps) = true then Oper.wp Try.prog o a w K Q else Ex' := by
  cases A with
  | none =>
    have hl0 : l = [] := by
      cases l with
      | nil => rfl
      | cons b t => obtain ⟨_, _, h, _⟩ := hT (by simp); cases h
    subst hl0
    obtain ⟨i0, hi0, hz0, hz1, hz2⟩ := info_parts info9F
    have hw : Region.wanted o (yielded ops a.tmps) = true := by simp [Region.wanted, hgd]
    rw [if_pos hw]
    obtain ⟨A', c', rfl⟩ := owns_slice hown
    have hr : (Builtin.append_ #[34, 34] o.type #[.slice A' n c', .slice none 0 cc]).run Try.prog w = .ok (.slice A' n c') w := by
      rcases hown.2 with ⟨h1, _⟩ | ⟨g, cap, cur, h1, _, _, hnc, _⟩
      · cases h1
        simp [Builtin.append_, run_underlying Try.underlying34, sizeOf, typeInfo, hi0, Builtin.lenOf, Builtin.firstCells]
      · cases h1
        simp [Builtin.append_, run_underlying Try.underlying34, sizeOf, typeInfo, hi0, Builtin.lenOf, Builtin.firstCells, hnc, storeCells]
    unfold Oper.wp
    simp only [List.length_nil] at hx
    simp [execOp, ho, resolve, invoke, builtin, hs, hx, hr, Result.andThen]
    have h := hK A' c' w (by simpa using hown) ⟨rfl, rfl, rfl, Nat.le_refl _, fun _ _ _ => rfl⟩ (fun k hk => .inl hk)
    have h2 : K (a.put o.dst (.slice A' n c')) w := by simpa using h
    exact h2
  | some ad =>
    refine step_app_row Try.underlying34 info9F rfl (by decide) (by decide) hgd s x ho 0 n v xs hs hown ad l.length cc (l.map encT) hx (by simp) (fun j u hj => ?_) (fun u hu => by rw [List.mem_map] at hu; obtain ⟨b, _, rfl⟩ := hu; rfl) (Nat.zero_le _) hlen hK
    rw [List.getElem?_map] at hj
    cases hb : l[j]? with
    | none => rw [hb] at hj; cases hj
    | some b =>
      rw [hb] at hj
      have hjl : j < l.length := by
        rcases Nat.lt_or_ge j l.length with c | c
        · exact c
        · rw [List.getElem?_eq_none c] at hb; cases hb
      obtain ⟨bb, off, e, _, hc⟩ := hT (by omega)
      cases e
      have h2 := hc j hjl
      have e2 : (⟨bb, off, none⟩ : Addr).add j = ⟨bb, off + j, none⟩ := by unfold Addr.add; split <;> simp_all
      rw [e2, h2, ← hj]
      show some (Value.string (bs (tx l j))) = some (encT b)
      have e3 : tx l j = b := by unfold tx; simp [List.getD, hb]
      rw [e3]
      rfl
abbrev InN (bp bq : Nat) : Inv (List Bs) := fun S s w => InL 34 9 1 54 (.func (.func 35) #[] #[]) bp bq S (s.map encT) s.length w
def stM (s : List Bs) (t : Fx) (_ : Int) : List Bs × Bool := (s ++ setK (occ 3 t.e), true)
theorem stM_len (t : Fx) : (setK (occ 3 t.e)).length ≤ t.e.sz := Nat.le_trans (setK_le _) (occ_le 3 t.e)
def PkN (w : World) (l : List Bs) (e : Ending) (w' : World) : Prop := ∃ A c, e = .returned (.slice A l.length c) ∧ RT w' w'.heap.size A l ∧ Below w.heap.size w w'
theorem pr_Names1F (t : Fx) (E A : Option Addr) (dd c : Nat) (d : Int) (w : World) (hs : t.sz ≤ 100000000) (hR : Rep w.heap.size w E t.e) : Calls Try.prog 35 #[fV t E dd A c, .int .i64 d] w (PkN w (setK (occ 3 t.e))) := by
  have hes := fe_sz t
  have HAL : Hid (∀ o, Below w.heap.size w (w.alloc o)) := Lib.hid (fun o => bal _ _)
  have HN := Lib.hid (pr_Names t.e E dd (w.alloc (.cells (fC t E dd A c) 27)) (by omega) (hR.step (bal _ _)))
  obtain ⟨p0, p1, p2, p3, p4, p5⟩ := fal t E A dd c w
  generalize setK (occ 3 t.e) = L at *
  generalize setK (occ 4 t.e) = M at *
  clear hR hs hes
  go_enter Try.func35, Try.ntmps35
  go_wp2_with (go_at_call 36; (with_reducible refine HN.out.mono ?_); rintro e w1 ⟨A1, c1, B1, d1, rfl, hT1, _, hb1⟩; have HT1 := Lib.hid hT1; have HB1 := Lib.hid hb1; clear hT1 hb1)
  go_ret
  exact ⟨A1, c1, rfl, HT1.out, bt (HAL.out _) HB1.out⟩
set_option maxRecDepth 100000 in
set_option maxHeartbeats 8000000 in
theorem pr_colN (bp bq B : Nat) (S : Nat → Prop) (s : List Bs) (w : World) (t : Fx) (E A : Option Addr) (dd c : Nat) (d : Int) (hI : InN bp bq S s w) (hB : B ≤ w.heap.size) (hRe : Fm B w t E A) (hs : t.sz ≤ 100000000) (hF : ∀ b, w.heap.size ≤ b → S b) (hl : s.length + (setK (occ 3 t.e)).length ≤ 200000000) :
    Calls Try.prog 59 #[fV t E dd A c, .int .i64 d, .pointer (some ⟨bp, 0, none⟩), .pointer (some ⟨bq, 0, none⟩)] w (VisP (InN bp bq) S w (stM s t d)) := by
  obtain ⟨h1, h2, h3, v, p1, p2, p3, p4⟩ := hI
  obtain ⟨R, hR⟩ : ∃ R, stM s t d = R := ⟨_, rfl⟩
  obtain ⟨L, hL⟩ : ∃ L, setK (occ 3 t.e) = L := ⟨_, rfl⟩
  have HR : Hid (R = (s ++ L, true)) := Lib.hid (by rw [← hR, ← hL]; rfl)
  rw [hR]
  rw [hL] at hl
  clear hR
  obtain ⟨Av, cv, rfl⟩ := owns_slice p3
  obtain ⟨W0, hW0⟩ : ∃ W0, w.alloc (.cells (fC t E dd A c) 27) = W0 := ⟨_, rfl⟩
  have hb0 : Below w.heap.size w W0 := by rw [← hW0]; exact bal _ _
  have hat0 := fal t E A dd c w
  rw [hW0] at hat0
  have HPK : Hid (∀ wx, Below W0.heap.size W0 wx → Calls Try.prog 35 #[fV t E dd A c, .int .i64 d] wx fun e w' => PkN wx L e w' ∧ Below W0.heap.size W0 w') := Lib.hid (fun wx hb => by
    have hbx : Below w.heap.size w wx := hb0.trans (hb.mono hb0.size)
    have h := pr_Names1F t E A dd c d wx hs ((hRe.1.under (hbx.mono hB)).more (Nat.le_trans hB hbx.size))
    rw [hL] at h
    exact h.mono (fun e w' h => ⟨h, by obtain ⟨_, _, _, _, h4⟩ := h; exact bt hb h4⟩))
  have e0 : W0.cell? ⟨bp, 0, none⟩ = some (.slice Av s.length cv) := (p1.below hb0 p1.lt).cell 0
  have e1 : W0.cell? ⟨bq, 0, none⟩ = some (.func (.func 35) #[] #[]) := (p2.below hb0 p2.lt).cell 0
  have hbp : bp < W0.heap.size := Nat.lt_of_lt_of_le p1.lt hb0.size
  have hbq : bq < W0.heap.size := Nat.lt_of_lt_of_le p2.lt hb0.size
  have HP : Hid (∀ w5 w8 A8 c8, Below W0.heap.size W0 w5 → w5.grownBy w8 (Value.slice Av s.length cv).ownBlock → w8.ownsRow 0 9 1 (.slice A8 (s.length + L.length) c8) (s.length + L.length) (s.map encT ++ L.map encT) → (∀ k, (Value.slice A8 (s.length + L.length) c8).ownBlock = some k → (Value.slice Av s.length cv).ownBlock = some k ∨ k = w5.heap.size) →
      Blk w8 bp 34 #[.slice Av s.length cv] ∧ InN bp bq S (s ++ L) (w8.setCell ⟨bp, 0, none⟩ (.slice A8 (s.length + L.length) c8)) ∧ Frm S w (w8.setCell ⟨bp, 0, none⟩ (.slice A8 (s.length + L.length) c8))) := Lib.hid (fun w5 w8 A8 c8 hb hg ho hat => by
    have h := InL.push hF h1 h2 h3 p1 p2 p3 p4 (hb0.trans (hb.mono hb0.size)) hg ho hat
    refine ⟨h.1, ?_, h.2.2⟩
    have h2 := h.2.1
    show InL 34 9 1 54 _ bp bq S ((s ++ L).map encT) (s ++ L).length _
    rw [List.map_append, List.length_append]
    exact h2)
  have HO : Hid (∀ w5, Below W0.heap.size W0 w5 → w5.ownsRow 0 9 1 (.slice Av s.length cv) s.length (s.map encT)) := Lib.hid (fun w5 hb => own_keepG p3 (hb0.trans (hb.mono hb0.size)))
  have HW0 := Lib.hid hW0
  clear p1 p2 p3 p4 hb0 hW0 h1 h2 h3 hF hL hRe hB hs
  go_enter Try.func59, Try.ntmps59
  go_upto_region 1 with (fail)
  rw [HW0.out]
  obtain ⟨c0, c1, c2, c3, c4, c5⟩ := hat0
  obtain ⟨h0, hh0⟩ : ∃ h0, w.heap.size = h0 := ⟨_, rfl⟩
  have hlt0 : h0 < W0.heap.size := by rw [← hh0, ← HW0.out]; simp
  rw [hh0] at c0 c1 c2 c3 c4 c5 ⊢
  go_region_law (first
    | (refine step_app_txt (by rfl) (.tmp 7) (.tmp 11) (by rfl) s.length (.slice Av s.length cv) (s.map encT) (by rfl) (HO.out _ HQ5.out) A5 L c5' (by rfl) HT5.out (by omega) ?_; intro A8 c8 w8 hO8 hg8 ha8; obtain ⟨k8, i8, f8⟩ := HP.out _ _ _ _ HQ5.out hg8 hO8 ha8; have q0 : w8.cell? ⟨bp, 0, none⟩ = some (.slice Av s.length cv) := k8.cell 0; have q1 := k8.lt; have q2 := k8.frozen 0; have I8 := Lib.hid i8; have F8 := Lib.hid f8; clear hO8 hg8 ha8 k8 i8 f8)
    | (go_simp; go_at_call 35; (with_reducible refine (HPK.out _ (by first | exact (Below.refl _ _).drew | exact Below.refl _ _)).mono ?_); rintro e w5 ⟨⟨A5, c5', rfl, hT5, _⟩, hb5⟩; have d0 : w5.cell? ⟨bp, 0, none⟩ = some (.slice Av s.length cv) := (hb5.cell (p := ⟨bp, 0, none⟩) hbp).trans e0; have HT5 := Lib.hid hT5; have HQ5 := Lib.hid hb5; clear hb5 hT5))
  all_goals
    go_wp2
    go_ret
    rw [HR.out]
    exact ⟨rfl, I8.out, F8.out⟩
end Go.Proofs.Ytnjkphopklbogaa
namespace Go.Proofs.Ytnjkphopklbogaa
open Go.RowKit
open Go.Shelf

mutual
def nmF : Fx → List Bs | .mk _ e ks => setK (occ 3 e) ++ nmL ks
def nmL : List Fx → List Bs
  | [] => []
  | t :: r => nmF t ++ nmL r
end
mutual
theorem nmF_len : ∀ t : Fx, (nmF t).length ≤ t.sz
  | .mk o e ks => by
    have h := nmL_len ks
    have hz : (Fx.mk o e ks).sz = e.sz + fszL ks := rfl
    have := stM_len (.mk o e [])
    have h2 : (setK (occ 3 e)).length ≤ e.sz := this
    show (setK (occ 3 e) ++ nmL ks).length ≤ _
    rw [List.length_append]
    omega
theorem nmL_len : ∀ l : List Fx, (nmL l).length ≤ fszL l
  | [] => Nat.le_refl _
  | t :: r => by
    have h1 := nmF_len t
    have h2 := nmL_len r
    have hz : fszL (t :: r) = t.sz + fszL r := rfl
    show (nmF t ++ nmL r).length ≤ _
    rw [List.length_append]
    omega
end
mutual
theorem fvis_nm : ∀ (t : Fx) (d : Int) (s : List Bs), fvis stM t d s = (s ++ nmF t, true)
  | .mk o e ks, d, s => by
    rw [fvis_eq]
    show (if true = true then fvisL stM ks (d + 1) (s ++ setK (occ 3 e)) else (s ++ setK (occ 3 e), false)) = _
    rw [if_pos rfl, fvisL_nm ks (d + 1) (s ++ setK (occ 3 e))]
    show (s ++ setK (occ 3 e) ++ nmL ks, true) = (s ++ (setK (occ 3 e) ++ nmL ks), true)
    simp
theorem fvisL_nm : ∀ (l : List Fx) (d : Int) (s : List Bs), fvisL stM l d s = (s ++ nmL l, true)
  | [], d, s => by show (s, true) = (s ++ [], true); simp
  | t :: r, d, s => by
    show (if (fvis stM t d s).2 then fvisL stM r d (fvis stM t d s).1 else ((fvis stM t d s).1, false)) = _
    rw [fvis_nm t d s]
    show fvisL stM r d (s ++ nmF t) = _
    rw [fvisL_nm r d (s ++ nmF t)]
    show (s ++ nmF t ++ nmL r, true) = (s ++ (nmF t ++ nmL r), true)
    simp
end
def nmsF (t : Fx) : List Bs := if chkF t ≠ 0 then [] else nmF t
theorem nms_len (t : Fx) : (nmsF t).length ≤ t.sz := by
  unfold nmsF
  split
  · simp
  · exact nmF_len t
def ColN (w : World) (l : List Bs) (e : Ending) (w' : World) : Prop := ∃ A c, e = .returned (.slice A l.length c) ∧ w'.ownsRow w.heap.size 9 1 (.slice A l.length c) l.length (l.map encT) ∧ Below w.heap.size w w'
set_option maxRecDepth 100000 in
set_option maxHeartbeats 8000000 in
theorem pr_collectN (t : Fx) (E A : Option Addr) (dd c : Nat) (w : World) (hs : t.sz ≤ 100000000) (hR : Fm w.heap.size w t E A) :
    Calls Try.prog 34 #[fV t E dd A c, .func (.func 35) #[] #[]] w (ColN w (nmsF t)) := by
  obtain ⟨W2, hW2⟩ : ∃ W2, (w.alloc (.cells (fC t E dd A c) 27)).alloc (.cells #[.func (.func 35) #[] #[]] 54) = W2 := ⟨_, rfl⟩
  have hz1 : (w.alloc (.cells (fC t E dd A c) 27)).heap.size = w.heap.size + 1 := by simp
  have hb2 : Below w.heap.size w W2 := by rw [← hW2]; exact bt (bal _ _) (bal _ _)
  have hat2 : FAt W2 w.heap.size 0 t E dd A c := by rw [← hW2]; exact (fal t E A dd c w).below (bal _ _) (by simp)
  have hq2 : Blk W2 (w.heap.size + 1) 54 #[.func (.func 35) #[] #[]] := by rw [← hW2, ← hz1]; exact Blk.new _ _ _
  have HCH := Lib.hid (pr_fCheck t E A dd c W2 hs (hR.step hb2))
  have HW2 := Lib.hid hW2
  by_cases hc : chkF t = 0
  · rw [show nmsF t = nmF t from if_neg (by simpa using hc)]
    rw [hc] at HCH
    obtain ⟨D, hD⟩ : ∃ D, nmF t = D := ⟨_, rfl⟩
    rw [hD]
    have HV : Hid (∀ w1 : World, Below W2.heap.size W2 w1 → Calls Try.prog 30 #[fV t E dd A c, .int .i64 1, .func (.func 59) #[] #[.pointer (some ⟨w1.heap.size, 0, none⟩), .pointer (some ⟨w.heap.size + 1, 0, none⟩)]] (w1.alloc (.cells #[.slice none 0 0] 34)) (VisP (InN w1.heap.size (w.heap.size + 1)) (fun b => w.heap.size ≤ b) (w1.alloc (.cells #[.slice none 0 0] 34)) (D, true))) := Lib.hid (fun w1 hb1 => by
      have hq1 : Blk w1 (w.heap.size + 1) 54 #[.func (.func 35) #[] #[]] := hq2.below hb1 hq2.lt
      have hlt := hq1.lt
      have hbw : Below w.heap.size w (w1.alloc (.cells #[.slice none 0 0] 34)) := hb2.trans ((hb1.trans ((bal w1 (.cells #[.slice none 0 0] 34)).mono hb1.size)).mono hb2.size)
      have h := pr_fvisit 59 _ (InN w1.heap.size (w.heap.size + 1)) stM w.heap.size (.pointer (some ⟨w1.heap.size, 0, none⟩)) (.pointer (some ⟨w.heap.size + 1, 0, none⟩)) List.length 100000000 (fun s t d => by show (s ++ setK (occ 3 t.e)).length ≤ _; have := stM_len t; rw [List.length_append]; omega) (.inr (.inr (.inl ⟨rfl, rfl⟩))) (InL.kept _ _) (fun S s w' t E eC A c d hI hS hF hB hR _ _ hs hm => pr_colN _ _ w.heap.size S s w' t E A eC c d hI hB hR hs hF (by have := stM_len t; omega)) t.sz t (Nat.le_refl _) hs E dd A c 1 (fun b => w.heap.size ≤ b) [] (w1.alloc (.cells #[.slice none 0 0] 34))
        ⟨by omega, by omega, by omega, .slice none 0 0, Blk.new _ _ _, hq1.alloc _, ⟨rfl, .inl ⟨rfl, rfl⟩⟩, fun k hk => by cases hk⟩ (fun b hb h => by omega) (fun b hb => by have := hbw.size; omega) hbw.size (hR.under hbw) (by omega) (by omega) (by simpa using hs)
      rw [fvis_nm, List.nil_append, hD] at h
      exact h)
    have HX : Hid (∀ w1, Below W2.heap.size W2 w1 → FAt (w1.alloc (.cells #[.slice none 0 0] 34)) w.heap.size 0 t E dd A c ∧ Below w.heap.size w (w1.alloc (.cells #[.slice none 0 0] 34))) := Lib.hid (fun w1 hb1 => ⟨(hat2.below hb1 (by have := hq2.lt; omega)).below (bal _ _) (by have := hq2.lt; have := hb1.size; omega), hb2.trans ((hb1.trans ((bal w1 (.cells #[.slice none 0 0] 34)).mono hb1.size)).mono hb2.size)⟩)
    obtain ⟨p0, p1, p2, p3, p4, p5⟩ := hat2
    clear hb2 hq2 hR hc hD hW2 hz1
    go_enter Try.func34, Try.ntmps34
    go_upto_region 1 with (fail)
    rw [HW2.out]
    go_wp2_with (first
      | (go_at_call 30; have _ := HB1; (with_reducible refine (HV.out _ HB1.out).mono ?_); rintro e w3 ⟨rfl, hI3, hf3⟩; obtain ⟨_, _, hne, v, k1, k2, k3, k4⟩ := hI3; obtain ⟨A3, c3, rfl⟩ := owns_slice k3; have q0 : w3.cell? ⟨w1.heap.size, 0, none⟩ = some (.slice A3 (List.length D) c3) := k1.cell 0; have K3 := Lib.hid k3; have K4 := Lib.hid k4; have HF3 := Lib.hid ((HX.out _ HB1.out).2.trans (hf3.below2 (fun k hk h => by omega) (HX.out _ HB1.out).2.size)); clear k1 k2 k3 k4 hf3)
      | (go_at_call 9; (with_reducible refine HCH.out.mono ?_); rintro e w1 ⟨rfl, hb1⟩; have HB1 := Lib.hid hb1; obtain ⟨r0, r1, r2, r3, r4, r5⟩ := (HX.out _ hb1).1; clear hb1))
    go_ret
    exact ⟨A3, c3, rfl, own_more K3.out (fun k hk => (K4.out k hk).1), HF3.out⟩
  · rw [show nmsF t = [] from if_pos hc]
    obtain ⟨z, hz⟩ : ∃ z, chkF t = z := ⟨_, rfl⟩
    rw [hz] at HCH hc
    have hz2 : (z != 0) = true := by simp [hc]
    obtain ⟨p0, p1, p2, p3, p4, p5⟩ := hat2
    have HB2 := Lib.hid hb2
    clear hb2 hq2 hR hc hz hW2 hz1
    go_enter Try.func34, Try.ntmps34
    go_upto_region 1 with (fail)
    rw [HW2.out]
    go_wp2_with (go_at_call 9; (with_reducible refine HCH.out.mono ?_); rintro e w1 ⟨rfl, hb1⟩; have HB1 := Lib.hid (HB2.out.trans (hb1.mono HB2.out.size)); clear hb1)
    go_ret
    exact ⟨none, 0, rfl, ⟨rfl, .inl ⟨rfl, rfl⟩⟩, HB1.out⟩
/-- v is nil, or a row of blocks from B on that begins with l. -/
def Sx (B : Nat) (v : Value) (l : List Bs) (w : World) : Prop := (v = .slice none 0 0 ∧ l = []) ∨ ∃ g cap, v = .slice (some ⟨g, 0, none⟩) l.length cap ∧ B ≤ g ∧ l.length ≤ cap ∧ PreT w g l
theorem sortX (B : Nat) (v : Value) (l : List Bs) (w : World) (h : Sx B v l w) (hB : B ≤ w.heap.size) (hl : l.length ≤ 1000000000) : Calls Try.prog 37 #[v] w fun e w' => e = .returned (.tuple #[]) ∧ Sx B v (srtK l) w' ∧ Below B w w' := by
  rcases h with ⟨rfl, rfl⟩ | ⟨g, cap, rfl, hg, hc, hP⟩
  · exact (sort_nilT w).mono (fun e w' ⟨h1, h2⟩ => by
      subst h2
      exact ⟨h1, .inl ⟨rfl, List.eq_nil_of_length_eq_zero (by rw [srtK_len]; rfl)⟩, Below.refl _ _⟩)
  · exact (sort_preT g cap l w hP hl).mono (fun e w' ⟨h1, h2, h3⟩ => ⟨h1, .inr ⟨g, cap, by rw [srtK_len], hg, by rw [srtK_len]; exact hc, h2⟩, h3.below2 (fun k hk e => by omega) hB⟩)
theorem compactX (B : Nat) (v : Value) (l : List Bs) (w : World) (h : Sx B v (srtK l) w) (hB : B ≤ w.heap.size) (hl : l.length ≤ 1000000000) : Calls Try.prog 38 #[v] w fun e w' => ∃ A c, e = .returned (.slice A (setK l).length c) ∧ RT w' w'.heap.size A (setK l) ∧ Below B w w' := by
  rcases h with ⟨rfl, h2⟩ | ⟨g, cap, rfl, hg, hc, hP⟩
  · have h0 : l = [] := List.eq_nil_of_length_eq_zero (by rw [← srtK_len, h2]; rfl)
    subst h0
    exact (compact_nilT w).mono (fun e w' ⟨h1, h2⟩ => by
      subst h2
      exact ⟨none, 0, by rw [h1, setK_nil]; rfl, by rw [setK_nil]; exact RT.nil, Below.refl _ _⟩)
  · rw [srtK_len] at hc ⊢
    exact (compact_preT g cap l w hP hc hl).mono (fun e w' ⟨h1, h2, h3⟩ => ⟨_, cap, h1, h2.ri, h3.below2 (fun k hk e => by omega) hB⟩)
set_option maxRecDepth 100000 in
set_option maxHeartbeats 8000000 in
theorem pr_fNames (t : Fx) (E A : Option Addr) (dd c : Nat) (w : World) (hs : t.sz ≤ 100000000) (hR : Fm w.heap.size w t E A) :
    Calls Try.prog 12 #[fV t E dd A c] w (PkN w (setK (nmsF t))) := by
  have HAL : Hid (∀ o, Below w.heap.size w (w.alloc o)) := Lib.hid (fun o => bal _ _)
  have hlen := nms_len t
  have HC : Hid (Calls Try.prog 34 #[fV t E dd A c, .func (.func 35) #[] #[]] (w.alloc (.cells (fC t E dd A c) 27)) fun e w' => ∃ v, e = .returned v ∧ Below w.heap.size w w' ∧ Calls Try.prog 37 #[v] w' fun e w2 => e = .returned (.tuple #[]) ∧ Below w.heap.size w w2 ∧ Calls Try.prog 38 #[v] w2 (PkN w (setK (nmsF t)))) := Lib.hid ((pr_collectN t E A dd c _ hs (hR.step (bal _ _))).mono (by
    rintro e w' ⟨A1, c1, rfl, ho, hb⟩
    have hbw := bt (HAL.out _) hb
    have hox : OwnX w' (w.alloc (.cells (fC t E dd A c) 27)).heap.size (.slice A1 (nmsF t).length c1) (nmsF t) := ho
    have hsx : Sx w.heap.size (.slice A1 (nmsF t).length c1) (nmsF t) w' := by
      rcases hox.pre with ⟨h1, h2⟩ | ⟨g, cap, h1, hg, h3, _, h5⟩
      · exact .inl ⟨h1, h2⟩
      · exact .inr ⟨g, cap, h1, by simp at hg; omega, h3, h5⟩
    refine ⟨_, rfl, hbw, (sortX w.heap.size _ _ w' hsx hbw.size (by omega)).mono ?_⟩
    rintro e2 w2 ⟨rfl, hs2, hb2⟩
    refine ⟨rfl, hbw.trans hb2, (compactX w.heap.size _ _ w2 hs2 (Nat.le_trans hbw.size hb2.size) (by omega)).mono ?_⟩
    rintro e3 w3 ⟨A3, c3, rfl, hT3, hb3⟩
    exact ⟨A3, c3, rfl, hT3, (hbw.trans hb2).trans hb3⟩))
  obtain ⟨p0, p1, p2, p3, p4, p5⟩ := fal t E A dd c w
  generalize setK (nmsF t) = D at *
  clear hR hs hlen
  go_enter Try.func12, Try.ntmps12
  go_wp2_with (first
    | (go_at_call 38; have _ := H2; (with_reducible refine H2.out.mono ?_); rintro e w3 ⟨A3, c3, rfl, hT3, hb3⟩; have HT3 := Lib.hid hT3; have HB3 := Lib.hid hb3; clear hT3 hb3)
    | (go_at_call 37; have _ := H1; (with_reducible refine H1.out.mono ?_); rintro e w2 ⟨rfl, hb2, h2⟩; have H2 := Lib.hid h2; clear hb2 h2)
    | (go_at_call 34; (with_reducible refine HC.out.mono ?_); rintro e w1 ⟨v, rfl, hb1, h1⟩; have H1 := Lib.hid h1; clear hb1 h1))
  go_ret
  exact ⟨A3, c3, rfl, HT3.out, HB3.out⟩
end Go.Proofs.Ytnjkphopklbogaa
namespace Go.Proofs.Ytnjkphopklbogaa
open Go.RowKit

def putA (s : Bs) (o : List Bs) : List Bs → List Bs
  | [] => o ++ [s]
  | y :: r => if y < s then putA s (o ++ [y]) r else (o ++ [s]) ++ (y :: r).filter (fun z => z != s)
theorem putA_mem (s : Bs) : ∀ (l o : List Bs) (y : Bs), y ∈ putA s o l ↔ y ∈ o ∨ y ∈ l ∨ y = s
  | [], o, y => by simp [putA]
  | x :: r, o, y => by
    unfold putA
    by_cases h : x < s
    · rw [if_pos h, putA_mem s r (o ++ [x]) y]
      simp only [List.mem_append, List.mem_cons, List.not_mem_nil, or_false]
      constructor
      · rintro ((h1 | h1) | h1 | h1) <;> simp [h1]
      · rintro (h1 | (h1 | h1) | h1) <;> simp [h1]
    · rw [if_neg h]
      simp only [List.mem_append, List.mem_filter, List.mem_cons, List.not_mem_nil, or_false, bne_iff_ne]
      constructor
      · rintro ((h1 | h1) | ⟨h1, _⟩)
        · exact .inl h1
        · exact .inr (.inr h1)
        · exact .inr (.inl h1)
      · rintro (h1 | h1 | h1)
        · exact .inl (.inl h1)
        · by_cases e : y = s
          · exact .inl (.inr e)
          · exact .inr ⟨h1, e⟩
        · exact .inl (.inr h1)
theorem putA_inc (s : Bs) : ∀ (l o : List Bs), IncK (o ++ l) → (∀ y, y ∈ o → y < s) → IncK (putA s o l)
  | [], o, h, ho => by
    unfold putA
    unfold IncK at h ⊢
    rw [List.append_nil] at h
    rw [List.pairwise_append]
    exact ⟨h, List.pairwise_singleton _ _, fun a ha b hb => by simp at hb; subst hb; exact ho a ha⟩
  | x :: r, o, h, ho => by
    unfold putA
    by_cases hx : x < s
    · rw [if_pos hx]
      refine putA_inc s r (o ++ [x]) (by simpa using h) ?_
      intro y hy
      simp at hy
      rcases hy with hy | hy
      · exact ho y hy
      · rw [hy]; exact hx
    · rw [if_neg hx]
      unfold IncK at h ⊢
      rw [List.pairwise_append] at h
      obtain ⟨h1, h2, h3⟩ := h
      have hge : ∀ y, y ∈ x :: r → ¬ y < s := by
        intro y hy hlt
        rw [List.pairwise_cons] at h2
        rw [List.mem_cons] at hy
        rcases hy with e | hy
        · exact hx (e ▸ hlt)
        · exact hx (List.lt_trans (h2.1 y hy) hlt)
      rw [List.pairwise_append, List.pairwise_append]
      refine ⟨⟨h1, List.pairwise_singleton _ _, fun a ha b hb => by simp at hb; subst hb; exact ho a ha⟩, h2.filter _, ?_⟩
      intro a ha b hb
      rw [List.mem_filter] at hb
      obtain ⟨hb1, hb2⟩ := hb
      have hbs : b ≠ s := by simpa using hb2
      have hsb : s < b := by
        rcases Decidable.em (s < b) with g | g
        · exact g
        · exact absurd (List.le_antisymm (List.not_lt.1 g) (List.not_lt.1 (hge b hb1))) hbs
      rw [List.mem_append] at ha
      rcases ha with ha | ha
      · exact h3 a ha b hb1
      · simp at ha; subst ha; exact hsb
theorem putA_with {l : List Bs} (h : IncK l) (s : Bs) : putA s [] l = withK l s :=
  incK_unique (putA_inc s l [] (by simpa using h) (fun y hy => by cases hy)) (withK_inc h s) (fun y => by
    rw [putA_mem, withK_mem]; simp)
set_option maxRecDepth 100000 in
set_option maxHeartbeats 8000000 in
theorem rf_put (l : List Bs) (A : Option Addr) (c : Nat) (m : ByteArray) (w : World) (hT : RT w w.heap.size A l) (hl : l.length ≤ 900000000) :
    Calls Try.prog 66 #[.slice A l.length c, .string m] w (TxP (putA (key m) [] l) w) := by
  have HT := Lib.hid hT
  have hal : ∀ ob, Below w.heap.size w (w.alloc ob) := fun ob => al (Below.refl _ _) ob
  obtain ⟨R, hR⟩ : ∃ R, putA (key m) [] l = R := ⟨_, rfl⟩
  have HS : Hid (putA (key m) [] (l.drop 0) = R) := Lib.hid hR
  rw [hR]
  have HO0 : Hid (OwnX (w.alloc (.cells #[] 9)) w.heap.size (.slice (some ⟨w.heap.size, 0, none⟩) 0 0) [] ∧ Below w.heap.size w (w.alloc (.cells #[] 9))) := Lib.hid ⟨OwnX.made w w.heap.size (Nat.le_refl _), hal _⟩
  clear hT hR hal
  go_enter Try.func66, Try.ntmps66
  go_wp2
  go_loopw [5, 6] (fun s5 i wr => ∃ (k : Nat) (o : List Bs) (A3 : Option Addr) (c3 : Nat), k ≤ l.length ∧ i = .int .i64 (k : Int) ∧ s5 = .slice A3 o.length c3 ∧ o.length ≤ k ∧ Hid (OwnX wr w.heap.size (.slice A3 o.length c3) o) ∧ Hid (putA (key m) o (l.drop k) = R) ∧ Hid (Below w.heap.size w wr)) (fun _ i _ => l.length - (intOf i).toNat)
  case atStart => exact ⟨0, [], some ⟨w.heap.size, 0, none⟩, 0, Nat.zero_le _, rfl, rfl, by simp, Lib.hid HO0.out.1, HS, Lib.hid HO0.out.2⟩
  case round =>
    obtain ⟨k, o, A3, c3, hk, rfl, rfl, hok, HO, HK, HB⟩ := hrel
    have HQ : k < l.length ∧ tx l k < key m ∨ (k < l.length → ¬ tx l k < key m) ∧ (o ++ [key m]) ++ (l.drop k).filter (fun z => z != key m) = R := by
      by_cases hlt : k < l.length
      · by_cases h2 : tx l k < key m
        · exact .inl ⟨hlt, h2⟩
        · have := HK.out
          rw [tx_drop hlt] at this ⊢
          unfold putA at this
          rw [if_neg h2] at this
          exact .inr ⟨fun _ => h2, this⟩
      · have := HK.out
        rw [List.drop_eq_nil_of_le (by omega)] at this ⊢
        unfold putA at this
        right; exact ⟨fun h => absurd h hlt, by simpa using this⟩
    rcases HQ with ⟨hlt, h2⟩ | ⟨HNL, HE⟩
    · have l1 : (k : Int) < (l.length : Int) := by omega
      obtain ⟨b, f0, rfl, hbl, hc⟩ := HT.out (by omega)
      have d0 := (HB.out.cell (p := ⟨b, f0 + k, none⟩) hbl).trans (hc k hlt)
      have HK2 : Hid (putA (key m) (o ++ [tx l k]) (l.drop (k + 1)) = R) := Lib.hid (by
        have := HK.out
        rw [tx_drop hlt] at this
        unfold putA at this
        rw [if_pos h2] at this
        exact this)
      have p1 : Op.bytesLess (bs (tx l k)).toList m.toList = true := by rw [less_eq]; exact decide_eq_true h2
      clear hc h2 HK
      generalize tx l k = y at d0 HK2 p1
      have hz := HB.out.size
      go_wp2_with (at_builtin; refine wpList_app_txt rfl _ _ rfl _ w.heap.size o.length _ o rfl rfl (HO.out.keep (al (Below.refl _ _) _)) ⟨wr.heap.size, 0, none⟩ y rfl (cell_one_new wr (.string (bs y)) 9) (by simp; omega) (by omega) ?_; intro A4 c4 w4 hO4 hb4; have HO4 := Lib.hid hO4; have HB4 := Lib.hid (HB.out.trans ((al (Below.refl _ _) _ : Below wr.heap.size wr (wr.alloc (.cells #[.string (bs y)] 9))).mono hz |>.trans hb4)); clear hO4 hb4)
      go_roundw
      case rel => exact ⟨k + 1, o ++ [y], A4, c4, by omega, by go_num, by simp, by simp; omega, Lib.hid (by simpa using HO4.out), HK2, HB4⟩
      case measure => simp [intOf]; try omega
    · have HE2 := Lib.hid HE
      clear HE
      have hz := HB.out.size
      by_cases hlt : k < l.length
      · have l1 : (k : Int) < (l.length : Int) := by omega
        obtain ⟨b, f0, hA, hbl, hc⟩ := HT.out (by omega)
        have d0 := (HB.out.cell (p := ⟨b, f0 + k, none⟩) hbl).trans (hc k hlt)
        have p1 : Op.bytesLess (bs (tx l k)).toList m.toList = false := by rw [less_eq]; exact decide_eq_false (HNL hlt)
        subst hA
        clear hc HNL
        generalize tx l k = y0 at d0 p1
        go_wp2_with (at_builtin; refine wpList_app_txt rfl _ _ rfl _ w.heap.size o.length _ o rfl rfl (HO.out.keep (al (Below.refl _ _) _)) ⟨wr.heap.size, 0, none⟩ (key m) rfl (cell_one_new wr (.string m) 9) (by simp; omega) (by omega) ?_; intro A4 c4 w4 hO4 hb4; have HO4 := Lib.hid hO4; have HB4 := Lib.hid (HB.out.trans ((al (Below.refl _ _) _ : Below wr.heap.size wr (wr.alloc (.cells #[.string m] 9))).mono hz |>.trans hb4)); clear hO4 hb4)
        go_loopw [5, 6] (fun s5 i wr => ∃ (k : Nat) (o : List Bs) (A3 : Option Addr) (c3 : Nat), k ≤ l.length ∧ i = .int .i64 (k : Int) ∧ s5 = .slice A3 o.length c3 ∧ o.length ≤ k + 1 ∧ Hid (OwnX wr w.heap.size (.slice A3 o.length c3) o) ∧ Hid (o ++ (l.drop k).filter (fun z => z != key m) = R) ∧ Hid (Below w.heap.size w wr)) (fun _ i _ => l.length - (intOf i).toNat)
        case atStart => exact ⟨k, o ++ [key m], A4, c4, hk, rfl, by simp, by simp; omega, Lib.hid (by simpa using HO4.out), HE2, HB4⟩
        case round =>
          clear HO HB HO4 HB4 HE2 hz hok hk
          obtain ⟨k, o, A3, c3, hk, rfl, rfl, hok, HO, HK, HB⟩ := hrel
          have hz := HB.out.size
          by_cases hlt : k < l.length
          · have l1 : (k : Int) < (l.length : Int) := by omega
            obtain ⟨b, f0, hA, hbl, hc⟩ := HT.out (by omega)
            first
              | subst hA
              | (injection hA with hA; injection hA with hA1 hA2 _; subst hA1; subst hA2)
            have d0 := (HB.out.cell (p := ⟨b, f0 + k, none⟩) hbl).trans (hc k hlt)
            have hkk := HK.out
            rw [tx_drop hlt, List.filter_cons] at hkk
            have hp := cmp_eq (tx l k) m
            clear hc HK
            generalize tx l k = y at d0 hkk hp
            by_cases e : y = key m
            · rw [if_neg (by simp [e])] at hkk
              have HK2 := Lib.hid hkk
              have p2 : ((bs y).toList == m.toList) = true := by rw [hp]; exact decide_eq_true e
              have p3 : ((bs y).toList != m.toList) = false := by simp [bne, p2]
              clear hkk hp e
              go_wp2
              go_roundw
              case rel => exact ⟨k + 1, o, A3, c3, by omega, by go_num, rfl, by omega, HO, HK2, HB⟩
              case measure => simp [intOf]; try omega
            · rw [if_pos (by simp [e])] at hkk
              have HK2 : Hid ((o ++ [y]) ++ (l.drop (k + 1)).filter (fun z => z != key m) = R) := Lib.hid (by rw [List.append_assoc]; exact hkk)
              have p2 : ((bs y).toList == m.toList) = false := by rw [hp]; exact decide_eq_false e
              have p3 : ((bs y).toList != m.toList) = true := by simp [bne, p2]
              clear hkk hp e
              go_wp2_with (at_builtin; refine wpList_app_txt rfl _ _ rfl _ w.heap.size o.length _ o rfl rfl (HO.out.keep (al (Below.refl _ _) _)) ⟨wr.heap.size, 0, none⟩ y rfl (cell_one_new wr (.string (bs y)) 9) (by simp; omega) (by omega) ?_; intro A4 c4 w4 hO4 hb4; have HO4 := Lib.hid hO4; have HB4 := Lib.hid (HB.out.trans ((al (Below.refl _ _) _ : Below wr.heap.size wr (wr.alloc (.cells #[.string (bs y)] 9))).mono hz |>.trans hb4)); clear hO4 hb4)
              go_roundw
              case rel => exact ⟨k + 1, o ++ [y], A4, c4, by omega, by go_num, by simp, by simp; omega, Lib.hid (by simpa using HO4.out), HK2, HB4⟩
              case measure => simp [intOf]; try omega
          · have l1 : ¬ (k : Int) < (l.length : Int) := by omega
            obtain rfl : k = l.length := by omega
            have hkk := HK.out
            rw [List.drop_length] at hkk
            have hkk2 : o = R := by simpa using hkk
            subst hkk2
            go_wp2
            go_ret
            obtain ⟨A5, c5, e5, hR5, _⟩ := HO.out.form
            exact ⟨A5, c5, by rw [e5]; rfl, hR5, HB.out⟩
      · have l1 : ¬ (k : Int) < (l.length : Int) := by omega
        clear HNL
        go_wp2_with (at_builtin; refine wpList_app_txt rfl _ _ rfl _ w.heap.size o.length _ o rfl rfl (HO.out.keep (al (Below.refl _ _) _)) ⟨wr.heap.size, 0, none⟩ (key m) rfl (cell_one_new wr (.string m) 9) (by simp; omega) (by omega) ?_; intro A4 c4 w4 hO4 hb4; have HO4 := Lib.hid hO4; have HB4 := Lib.hid (HB.out.trans ((al (Below.refl _ _) _ : Below wr.heap.size wr (wr.alloc (.cells #[.string m] 9))).mono hz |>.trans hb4)); clear hO4 hb4)
        go_loopw [5, 6] (fun s5 i wr => ∃ (k : Nat) (o : List Bs) (A3 : Option Addr) (c3 : Nat), k ≤ l.length ∧ i = .int .i64 (k : Int) ∧ s5 = .slice A3 o.length c3 ∧ o.length ≤ k + 1 ∧ Hid (OwnX wr w.heap.size (.slice A3 o.length c3) o) ∧ Hid (o ++ (l.drop k).filter (fun z => z != key m) = R) ∧ Hid (Below w.heap.size w wr)) (fun _ i _ => l.length - (intOf i).toNat)
        case atStart => exact ⟨k, o ++ [key m], A4, c4, hk, rfl, by simp, by simp; omega, Lib.hid (by simpa using HO4.out), HE2, HB4⟩
        case round =>
          clear HO HB HO4 HB4 HE2 hz hok hk
          obtain ⟨k, o, A3, c3, hk, rfl, rfl, hok, HO, HK, HB⟩ := hrel
          have hz := HB.out.size
          by_cases hlt : k < l.length
          · have l1 : (k : Int) < (l.length : Int) := by omega
            obtain ⟨b, f0, hA, hbl, hc⟩ := HT.out (by omega)
            first
              | subst hA
              | (injection hA with hA; injection hA with hA1 hA2 _; subst hA1; subst hA2)
            have d0 := (HB.out.cell (p := ⟨b, f0 + k, none⟩) hbl).trans (hc k hlt)
            have hkk := HK.out
            rw [tx_drop hlt, List.filter_cons] at hkk
            have hp := cmp_eq (tx l k) m
            clear hc HK
            generalize tx l k = y at d0 hkk hp
            by_cases e : y = key m
            · rw [if_neg (by simp [e])] at hkk
              have HK2 := Lib.hid hkk
              have p2 : ((bs y).toList == m.toList) = true := by rw [hp]; exact decide_eq_true e
              have p3 : ((bs y).toList != m.toList) = false := by simp [bne, p2]
              clear hkk hp e
              go_wp2
              go_roundw
              case rel => exact ⟨k + 1, o, A3, c3, by omega, by go_num, rfl, by omega, HO, HK2, HB⟩
              case measure => simp [intOf]; try omega
            · rw [if_pos (by simp [e])] at hkk
              have HK2 : Hid ((o ++ [y]) ++ (l.drop (k + 1)).filter (fun z => z != key m) = R) := Lib.hid (by rw [List.append_assoc]; exact hkk)
              have p2 : ((bs y).toList == m.toList) = false := by rw [hp]; exact decide_eq_false e
              have p3 : ((bs y).toList != m.toList) = true := by simp [bne, p2]
              clear hkk hp e
              go_wp2_with (at_builtin; refine wpList_app_txt rfl _ _ rfl _ w.heap.size o.length _ o rfl rfl (HO.out.keep (al (Below.refl _ _) _)) ⟨wr.heap.size, 0, none⟩ y rfl (cell_one_new wr (.string (bs y)) 9) (by simp; omega) (by omega) ?_; intro A4 c4 w4 hO4 hb4; have HO4 := Lib.hid hO4; have HB4 := Lib.hid (HB.out.trans ((al (Below.refl _ _) _ : Below wr.heap.size wr (wr.alloc (.cells #[.string (bs y)] 9))).mono hz |>.trans hb4)); clear hO4 hb4)
              go_roundw
              case rel => exact ⟨k + 1, o ++ [y], A4, c4, by omega, by go_num, by simp, by simp; omega, Lib.hid (by simpa using HO4.out), HK2, HB4⟩
              case measure => simp [intOf]; try omega
          · have l1 : ¬ (k : Int) < (l.length : Int) := by omega
            obtain rfl : k = l.length := by omega
            have hkk := HK.out
            rw [List.drop_length] at hkk
            have hkk2 : o = R := by simpa using hkk
            subst hkk2
            go_wp2
            go_ret
            obtain ⟨A5, c5, e5, hR5, _⟩ := HO.out.form
            exact ⟨A5, c5, by rw [e5]; rfl, hR5, HB.out⟩
end Go.Proofs.Ytnjkphopklbogaa
namespace Go.Proofs.Ytnjkphopklbogaa
open Go.RowKit

mutual
def snF : Fx → List Bs → List Bs | .mk o e ks, l => snL ks (if o = 1 then (setK (occ 3 e)).foldl withK l else l)
def snL : List Fx → List Bs → List Bs
  | [], l => l
  | t :: r, l => snL r (snF t l)
end
theorem snF_eq (t : Fx) (l : List Bs) : snF t l = snL t.ks (if t.op = 1 then (setK (occ 3 t.e)).foldl withK l else l) := by cases t; rfl
mutual
theorem snF_len : ∀ (t : Fx) (l : List Bs), (snF t l).length ≤ l.length + t.sz
  | .mk o e ks, l => by
    have hz : (Fx.mk o e ks).sz = e.sz + fszL ks := rfl
    have h1 := foldK_len (setK (occ 3 e)) l
    have h2 : (setK (occ 3 e)).length ≤ e.sz := stM_len (.mk o e [])
    show (snL ks (if o = 1 then (setK (occ 3 e)).foldl withK l else l)).length ≤ _
    by_cases ho : o = 1
    · rw [if_pos ho]
      have h3 := snL_len ks ((setK (occ 3 e)).foldl withK l)
      omega
    · rw [if_neg ho]
      have h3 := snL_len ks l
      omega
theorem snL_len : ∀ (ks : List Fx) (l : List Bs), (snL ks l).length ≤ l.length + fszL ks
  | [], l => Nat.le_refl _
  | t :: r, l => by
    have h1 := snF_len t l
    have h2 := snL_len r (snF t l)
    have hz : fszL (t :: r) = t.sz + fszL r := rfl
    show (snL r (snF t l)).length ≤ _
    omega
end
mutual
theorem snF_inc : ∀ (t : Fx) (l : List Bs), IncK l → IncK (snF t l)
  | .mk o e ks, l, h => by
    show IncK (snL ks (if o = 1 then (setK (occ 3 e)).foldl withK l else l))
    apply snL_inc
    split
    · exact (foldK _ _ h).1
    · exact h
theorem snL_inc : ∀ (ks : List Fx) (l : List Bs), IncK l → IncK (snL ks l)
  | [], _l, h => h
  | t :: r, l, h => snL_inc r _ (snF_inc t l h)
end
theorem foldW_step {L : List Bs} {k : Nat} (h : k < L.length) (l : List Bs) : (L.drop k).foldl withK l = (L.drop (k + 1)).foldl withK (withK l (tx L k)) := by
  rw [tx_drop h]; rfl
theorem snL_step {L : List Fx} {k : Nat} (h : k < L.length) (l : List Bs) : snL (L.drop k) l = snL (L.drop (k + 1)) (snF (fkd L k) l) := by
  rw [fkd_drop h]; rfl
set_option maxRecDepth 100000 in
set_option maxHeartbeats 8000000 in
theorem rf_fnames : ∀ (n : Nat) t, t.sz ≤ n → n ≤ 100000000 → ∀ E dd A c (l : List Bs) B0 c0 w, Fm w.heap.size w t E A → RT w w.heap.size B0 l → IncK l → l.length + t.sz ≤ 900000000 →
    Calls Try.prog 39 #[fV t E dd A c, .slice B0 l.length c0] w (TxP (snF t l) w) := by
  intro n
  induction n with
  | zero => intro t h; have := fsz_pos t; omega
  | succ n ih =>
    intro t ht hnn E dd A c l B0 c0 w hR hT hI hl
    have HIH := Lib.hid ih
    have HR := Lib.hid hR
    have hes := fe_sz t
    have hkb : t.ks.length ≤ 1000000000 := by have := fkl_sz t; omega
    obtain ⟨R, hRR⟩ : ∃ R, snF t l = R := ⟨_, rfl⟩
    rw [hRR]
    rw [snF_eq] at hRR
    have HAL : Hid (∀ o, Below w.heap.size w (w.alloc o)) := Lib.hid (fun o => bal _ _)
    have HF := Lib.hid (fal t E A dd c w)
    have hz0 := fsz_eq t
    have hL0 : (setK (occ 3 t.e)).length ≤ t.e.sz := stM_len t
    obtain ⟨W, hW⟩ : ∃ W, w.alloc (.cells (fC t E dd A c) 27) = W := ⟨_, rfl⟩
    have HN : Hid (Calls Try.prog 65 #[exV t.e E dd] W fun e w' => ∃ A2 c2 B2 d2, e = .returned (.tuple #[.slice A2 (setK (occ 3 t.e)).length c2, .slice B2 (setK (occ 4 t.e)).length d2]) ∧ RT w' w'.heap.size A2 (setK (occ 3 t.e)) ∧ Below W.heap.size W w') := Lib.hid ((rf_Names t.e E dd W (by omega) (by rw [← hW]; exact hR.1.step (bal _ _))).mono (by
      rintro e w' ⟨A2, c2, B2, d2, h1, h2, _, h4⟩
      exact ⟨A2, c2, B2, d2, h1, h2, h4⟩))
    have HX : Hid (∀ wx, Below W.heap.size W wx → FAt wx w.heap.size 0 t E dd A c ∧ Below w.heap.size w wx) := Lib.hid (fun wx hb => by rw [← hW] at hb; exact ⟨HF.out.below hb (by simp), bt (HAL.out _) hb⟩)
    have HW := Lib.hid hW
    have HT := Lib.hid hT
    have hbW : Below w.heap.size w W := by rw [← hW]; exact HAL.out _
    have hzW := hbW.size
    have hI0 := Lib.hid hI
    obtain ⟨p0, p1, p2, p3, p4, p5⟩ := (HX.out W (Below.refl _ _)).1
    obtain ⟨L, hL⟩ : ∃ L, setK (occ 3 t.e) = L := ⟨_, rfl⟩
    rw [hL] at hRR HN hL0
    clear ih hR hL hI hT hes
    by_cases ho : t.op = 1
    · rw [if_pos ho] at hRR
      have HO1 := Lib.hid ho
      have HRR := Lib.hid hRR
      clear ho hRR
      go_enter Try.func39, Try.ntmps39
      go_upto_region 1 with (fail)
      try rw [HW.out]
      have ho2 : (t.op == 1) = true := by simp [HO1.out]
      go_wp2_with (go_at_call 65; (with_reducible refine HN.out.mono ?_); rintro e w1 ⟨A2, c2, B2, d2, rfl, hT1, hb1⟩; have HT1 := Lib.hid hT1; have HB1 := Lib.hid hb1; clear hT1 hb1)
      go_loopw [1, 7] (fun s1 i wr => ∃ (j : Nat) (lk : List Bs) (B3 : Option Addr) (c3 : Nat), j ≤ L.length ∧ i = .int .i64 (j : Int) ∧ s1 = .slice B3 lk.length c3 ∧ Hid (RT wr wr.heap.size B3 lk ∧ IncK lk ∧ (L.drop j).foldl withK lk = L.foldl withK l ∧ lk.length ≤ l.length + j) ∧ Hid (RT wr wr.heap.size A2 L) ∧ Below W.heap.size W wr) (fun _ i _ => L.length - (intOf i).toNat)
      case atStart => exact ⟨0, l, B0, c0, Nat.zero_le _, rfl, rfl, Lib.hid ⟨HT.out.step (hbW.trans (HB1.out.mono hzW)), hI0.out, by rw [List.drop_zero], by omega⟩, HT1, HB1.out⟩
      case round =>
        obtain ⟨j, lk, B3, c3, hj, rfl, rfl, HV, HT2, hb⟩ := hrel
        obtain ⟨⟨q0, q1, q2, q3, q4, q5⟩, hbw⟩ := HX.out _ hb
        by_cases hlt : j < L.length
        · have l1 : (j : Int) < (L.length : Int) := by omega
          obtain ⟨b, f0, hA, hbl, hc⟩ := HT2.out (by omega)
          have HTT := Lib.hid HT2.out
          subst hA
          have d0 := hc j hlt
          obtain ⟨v1, v2, v3, v4⟩ := HV.out
          rw [foldW_step hlt] at v3
          have HC : Hid (Calls Try.prog 66 #[.slice B3 lk.length c3, .string (bs (tx L j))] wr (TxP (withK lk (tx L j)) wr)) := Lib.hid (by
            have h := rf_put lk B3 c3 (bs (tx L j)) wr v1 (by omega)
            rw [key_bs, putA_with v2] at h
            exact h)
          have hwl := withK_len lk (tx L j)
          have HV2 : Hid (IncK (withK lk (tx L j)) ∧ (L.drop (j + 1)).foldl withK (withK lk (tx L j)) = L.foldl withK l ∧ (withK lk (tx L j)).length ≤ l.length + (j + 1)) := Lib.hid ⟨withK_inc v2 _, v3, by omega⟩
          clear hc v1 v2 v3 v4 hwl HV
          generalize withK lk (tx L j) = lk2 at *
          generalize tx L j = y at *
          go_wp2_with (go_at_call 66; (with_reducible refine HC.out.mono ?_); rintro e w3 ⟨B4, c4, rfl, hT4, hb4⟩; have HT4 := Lib.hid hT4; have HB4 := Lib.hid (hb.trans (hb4.mono hb.size)); have HT5 := Lib.hid (HTT.out.step hb4); clear hT4 hb4)
          go_roundw
          case rel => exact ⟨j + 1, lk2, B4, c4, by omega, by go_num, rfl, Lib.hid ⟨HT4.out, HV2.out⟩, HT5, HB4.out⟩
          case measure => simp [intOf]; try omega
        · have l1 : ¬ (j : Int) < (L.length : Int) := by omega
          obtain rfl : j = L.length := by omega
          have HVV : Hid (RT wr wr.heap.size B3 lk ∧ IncK lk ∧ snL (t.ks.drop 0) lk = R ∧ lk.length + fszL (t.ks.drop 0) ≤ 900000000) := Lib.hid (by
            obtain ⟨v1, v2, v3, v4⟩ := HV.out
            rw [List.drop_length] at v3
            have v5 : lk = L.foldl withK l := v3
            refine ⟨v1, v2, ?_, ?_⟩
            · rw [List.drop_zero, v5]; exact HRR.out
            · rw [List.drop_zero]; omega)
          have HBB := Lib.hid hb
          clear HV
          go_wp2
          go_loopw [1, 8] (fun s1 i wr => ∃ (j : Nat) (lk : List Bs) (B3 : Option Addr) (c3 : Nat), j ≤ t.ks.length ∧ i = .int .i64 (j : Int) ∧ s1 = .slice B3 lk.length c3 ∧ Hid (RT wr wr.heap.size B3 lk ∧ IncK lk ∧ snL (t.ks.drop j) lk = R ∧ lk.length + fszL (t.ks.drop j) ≤ 900000000) ∧ Below W.heap.size W wr) (fun _ i _ => t.ks.length - (intOf i).toNat)
          case atStart => exact ⟨0, lk, B3, c3, Nat.zero_le _, rfl, rfl, HVV, HBB.out⟩
          case round =>
            clear HVV HBB hb hbw q0 q1 q2 q3 q4 q5 l1 hj hlt HT2
            obtain ⟨j, lk, B3, c3, hj, rfl, rfl, HV, hb⟩ := hrel
            obtain ⟨⟨q0, q1, q2, q3, q4, q5⟩, hbw⟩ := HX.out _ hb
            by_cases hlt : j < t.ks.length
            · have l1 : (j : Int) < (t.ks.length : Int) := by omega
              obtain ⟨b, f0, hA, hbl, hc⟩ := HR.out.2.out (by omega)
              subst hA
              obtain ⟨ea, ec, ka, kc, hAt, hRe, hRk⟩ := hc j hlt
              obtain ⟨d0, d1, d2, d3, d4, d5⟩ := hAt.below hbw hbl
              have HRk : Hid (Fm wr.heap.size wr (fkd t.ks j) ea ka) := Lib.hid ⟨hRe.step hbw, hRk.step hbw⟩
              obtain ⟨v1, v2, v3, v4⟩ := HV.out
              rw [fkd_drop hlt] at v4
              have v5 : fszL (fkd t.ks j :: t.ks.drop (j + 1)) = (fkd t.ks j).sz + fszL (t.ks.drop (j + 1)) := rfl
              rw [snL_step hlt] at v3
              have hu := fkd_sz hlt
              have hln := snF_len (fkd t.ks j) lk
              have HV2 : Hid (IncK (snF (fkd t.ks j) lk) ∧ snL (t.ks.drop (j + 1)) (snF (fkd t.ks j) lk) = R ∧ (snF (fkd t.ks j) lk).length + fszL (t.ks.drop (j + 1)) ≤ 900000000) := Lib.hid ⟨snF_inc _ _ v2, v3, by omega⟩
              have HC := Lib.hid (HIH.out (fkd t.ks j) (by omega) (by omega) ea ec ka kc lk B3 c3 wr HRk.out v1 v2 (by omega))
              clear hc hAt hRe hRk v1 v2 v3 v4 v5 hu hln HV
              generalize snF (fkd t.ks j) lk = lk2 at *
              generalize fkd t.ks j = u at *
              go_wp2_with (go_at_call 39; (with_reducible refine HC.out.mono ?_); rintro e w3 ⟨B4, c4, rfl, hT4, hb4⟩; have HT4 := Lib.hid hT4; have HB4 := Lib.hid (hb.trans (hb4.mono hb.size)); clear hT4 hb4)
              go_roundw
              case rel => exact ⟨j + 1, lk2, B4, c4, by omega, by go_num, rfl, Lib.hid ⟨HT4.out, HV2.out⟩, HB4.out⟩
              case measure => simp [intOf]; try omega
            · have l1 : ¬ (j : Int) < (t.ks.length : Int) := by omega
              obtain rfl : j = t.ks.length := by omega
              obtain ⟨v1, v2, v3, v4⟩ := HV.out
              rw [List.drop_length] at v3
              have v6 : lk = R := v3
              clear v3 v4 HV
              subst v6
              have HT5 := Lib.hid v1
              clear v1 v2
              go_wp2
              go_ret
              exact ⟨B3, c3, rfl, HT5.out, hbw⟩
    · rw [if_neg ho] at hRR
      have HO1 := Lib.hid ho
      have HVV : Hid (RT W W.heap.size B0 l ∧ IncK l ∧ snL (t.ks.drop 0) l = R ∧ l.length + fszL (t.ks.drop 0) ≤ 900000000) := Lib.hid ⟨HT.out.step hbW, hI0.out, by rw [List.drop_zero]; exact hRR, by rw [List.drop_zero]; omega⟩
      clear ho hRR
      go_enter Try.func39, Try.ntmps39
      go_upto_region 1 with (fail)
      try rw [HW.out]
      have ho2 : (t.op == 1) = false := by simp [HO1.out]
      go_wp2
      go_loopw [1, 8] (fun s1 i wr => ∃ (j : Nat) (lk : List Bs) (B3 : Option Addr) (c3 : Nat), j ≤ t.ks.length ∧ i = .int .i64 (j : Int) ∧ s1 = .slice B3 lk.length c3 ∧ Hid (RT wr wr.heap.size B3 lk ∧ IncK lk ∧ snL (t.ks.drop j) lk = R ∧ lk.length + fszL (t.ks.drop j) ≤ 900000000) ∧ Below W.heap.size W wr) (fun _ i _ => t.ks.length - (intOf i).toNat)
      case atStart => exact ⟨0, l, B0, c0, Nat.zero_le _, rfl, rfl, HVV, Below.refl _ _⟩
      case round =>
        skip
        obtain ⟨j, lk, B3, c3, hj, rfl, rfl, HV, hb⟩ := hrel
        obtain ⟨⟨q0, q1, q2, q3, q4, q5⟩, hbw⟩ := HX.out _ hb
        by_cases hlt : j < t.ks.length
        · have l1 : (j : Int) < (t.ks.length : Int) := by omega
          obtain ⟨b, f0, hA, hbl, hc⟩ := HR.out.2.out (by omega)
          subst hA
          obtain ⟨ea, ec, ka, kc, hAt, hRe, hRk⟩ := hc j hlt
          obtain ⟨d0, d1, d2, d3, d4, d5⟩ := hAt.below hbw hbl
          have HRk : Hid (Fm wr.heap.size wr (fkd t.ks j) ea ka) := Lib.hid ⟨hRe.step hbw, hRk.step hbw⟩
          obtain ⟨v1, v2, v3, v4⟩ := HV.out
          rw [fkd_drop hlt] at v4
          have v5 : fszL (fkd t.ks j :: t.ks.drop (j + 1)) = (fkd t.ks j).sz + fszL (t.ks.drop (j + 1)) := rfl
          rw [snL_step hlt] at v3
          have hu := fkd_sz hlt
          have hln := snF_len (fkd t.ks j) lk
          have HV2 : Hid (IncK (snF (fkd t.ks j) lk) ∧ snL (t.ks.drop (j + 1)) (snF (fkd t.ks j) lk) = R ∧ (snF (fkd t.ks j) lk).length + fszL (t.ks.drop (j + 1)) ≤ 900000000) := Lib.hid ⟨snF_inc _ _ v2, v3, by omega⟩
          have HC := Lib.hid (HIH.out (fkd t.ks j) (by omega) (by omega) ea ec ka kc lk B3 c3 wr HRk.out v1 v2 (by omega))
          clear hc hAt hRe hRk v1 v2 v3 v4 v5 hu hln HV
          generalize snF (fkd t.ks j) lk = lk2 at *
          generalize fkd t.ks j = u at *
          go_wp2_with (go_at_call 39; (with_reducible refine HC.out.mono ?_); rintro e w3 ⟨B4, c4, rfl, hT4, hb4⟩; have HT4 := Lib.hid hT4; have HB4 := Lib.hid (hb.trans (hb4.mono hb.size)); clear hT4 hb4)
          go_roundw
          case rel => exact ⟨j + 1, lk2, B4, c4, by omega, by go_num, rfl, Lib.hid ⟨HT4.out, HV2.out⟩, HB4.out⟩
          case measure => simp [intOf]; try omega
        · have l1 : ¬ (j : Int) < (t.ks.length : Int) := by omega
          obtain rfl : j = t.ks.length := by omega
          obtain ⟨v1, v2, v3, v4⟩ := HV.out
          rw [List.drop_length] at v3
          have v6 : lk = R := v3
          clear v3 v4 HV
          subst v6
          have HT5 := Lib.hid v1
          clear v1 v2
          go_wp2
          go_ret
          exact ⟨B3, c3, rfl, HT5.out, hbw⟩
end Go.Proofs.Ytnjkphopklbogaa
namespace Go.Proofs.Ytnjkphopklbogaa
open Go.RowKit

mutual
/-- Every node is right by itself. -/
def okF : Fx → Prop | .mk o e ks => flF (.mk o e ks) 1 0 = 0 ∧ okL ks
def okL : List Fx → Prop
  | [] => True
  | t :: r => okF t ∧ okL r
end
theorem okF_eq (t : Fx) : okF t ↔ flF t 1 0 = 0 ∧ okL t.ks := by cases t; rfl
theorem okL_mem : ∀ {l : List Fx}, okL l → ∀ t, t ∈ l → okF t
  | a :: r, h, t, ht => by
    rcases List.mem_cons.1 ht with rfl | h2
    · exact h.1
    · exact okL_mem h.2 t h2
theorem flF_zero {t : Fx} {d k : Int} (h : flF t d k = 0) : flF t 1 0 = 0 := by
  rw [flF_part] at h
  by_cases h1 : 64 < d
  · rw [if_pos h1] at h; exact absurd h (by decide)
  rw [if_neg h1] at h
  by_cases h2 : flF t 1 0 ≠ 0
  · rw [if_pos h2] at h; exact h
  · simpa using h2
mutual
theorem ok_of : ∀ (t : Fx) (d k : Int), (chF t d k).1 = 0 → okF t
  | .mk o e ks, d, k, h => by
    rw [chF_eq] at h
    by_cases hf : flF (.mk o e ks) d (wrap64 (k + 1)) = 0
    · rw [if_pos hf] at h
      exact ⟨flF_zero hf, ok_ofL ks _ _ h⟩
    · rw [if_neg hf] at h
      exact absurd h hf
theorem ok_ofL : ∀ (l : List Fx) (d k : Int), (chFL l d k).1 = 0 → okL l
  | [], _, _, _ => trivial
  | t :: r, d, k, h => by
    have h2 : (if (chF t d k).1 = 0 then chFL r d (chF t d k).2 else chF t d k).1 = 0 := h
    by_cases he : (chF t d k).1 = 0
    · rw [if_pos he] at h2
      exact ⟨ok_of t d k he, ok_ofL r _ _ h2⟩
    · rw [if_neg he] at h2
      exact absurd h2 he
end
theorem ok_chk {t : Fx} (h : chkF t = 0) : okF t := ok_of t 1 0 h
structure OkN (t : Fx) : Prop where
  lo : 1 ≤ t.op
  hi : t.op ≤ 13
  tfl : tfl t = 0
  kids : (t.ks.length : Int) = fk t.op
  term : t.op = 1 ∨ noth t.e = true
theorem okN {t : Fx} (h : flF t 1 0 = 0) : OkN t := by
  unfold flF at h
  rw [if_neg (by decide)] at h
  by_cases h1 : t.op < 1 ∨ 13 < t.op
  · rw [if_pos h1] at h; exact absurd h (by decide)
  rw [if_neg h1] at h
  by_cases h2 : tfl t ≠ 0
  · rw [if_pos h2] at h; exact absurd h h2
  rw [if_neg h2] at h
  by_cases h3 : (t.ks.length : Int) ≠ fk t.op
  · rw [if_pos h3] at h; exact absurd h (by decide)
  rw [if_neg h3] at h
  by_cases h4 : t.op ≠ 1 ∧ noth t.e = false
  · rw [if_pos h4] at h; exact absurd h (by decide)
  refine ⟨by omega, by omega, by simpa using h2, by simpa using h3, ?_⟩
  by_cases h5 : t.op = 1
  · exact .inl h5
  · right
    cases hn : noth t.e
    · exact absurd ⟨h5, hn⟩ h4
    · rfl
theorem noth_occ {t : Ex} (h : noth t = true) : occ 3 t = [] := by
  obtain ⟨o, v, m, ks⟩ := t
  have h2 : (o == 0 && (v == 0 && ((m.toList == []) && (ks.length == 0)))) = true := h
  simp only [Bool.and_eq_true, beq_iff_eq] at h2
  obtain ⟨h3, _, _, h4⟩ := h2
  have : ks = [] := List.eq_nil_of_length_eq_zero h4
  subst this h3
  rw [occ_eq]; rfl
mutual
theorem snF_mem : ∀ (t : Fx) (l : List Bs) (y : Bs), okF t → IncK l → (y ∈ snF t l ↔ y ∈ l ∨ y ∈ nmF t)
  | .mk o e ks, l, y, hk, h => by
    obtain ⟨h1, h2⟩ := hk
    have hN := okN h1
    show y ∈ snL ks (if o = 1 then (setK (occ 3 e)).foldl withK l else l) ↔ y ∈ l ∨ y ∈ setK (occ 3 e) ++ nmL ks
    by_cases ho : o = 1
    · rw [if_pos ho, snL_mem ks _ y h2 (foldK _ _ h).1, (foldK (setK (occ 3 e)) l h).2 y, List.mem_append]
      constructor
      · rintro ((a | a) | a) <;> simp [a]
      · rintro (a | a | a) <;> simp [a]
    · have h3 : noth e = true := by
        rcases hN.term with a | a
        · exact absurd a ho
        · exact a
      rw [if_neg ho, snL_mem ks _ y h2 h, noth_occ h3, setK_nil, List.nil_append]
theorem snL_mem : ∀ (ks : List Fx) (l : List Bs) (y : Bs), okL ks → IncK l → (y ∈ snL ks l ↔ y ∈ l ∨ y ∈ nmL ks)
  | [], l, y, _, _ => by show y ∈ l ↔ y ∈ l ∨ y ∈ []; simp
  | t :: r, l, y, hk, h => by
    show y ∈ snL r (snF t l) ↔ y ∈ l ∨ y ∈ nmF t ++ nmL r
    rw [snL_mem r (snF t l) y hk.2 (snF_inc t l h), snF_mem t l y hk.1 h, List.mem_append]
    constructor
    · rintro ((a | a) | a) <;> simp [a]
    · rintro (a | a | a) <;> simp [a]
end
theorem names_agree {t : Fx} (h : chkF t = 0) : snF t [] = setK (nmF t) :=
  setK_eq (snF_inc t [] List.Pairwise.nil) (fun y => by rw [snF_mem t [] y (ok_chk h) List.Pairwise.nil]; simp)
set_option maxRecDepth 100000 in
set_option maxHeartbeats 4000000 in
theorem rf_fNames (t : Fx) (E A : Option Addr) (dd c : Nat) (w : World) (hs : t.sz ≤ 100000000) (hR : Fm w.heap.size w t E A) :
    Calls Try.prog 13 #[fV t E dd A c] w (PkN w (setK (nmsF t))) := by
  have HAL : Hid (∀ o, Below w.heap.size w (w.alloc o)) := Lib.hid (fun o => bal _ _)
  have HF := Lib.hid (fal t E A dd c w)
  have HX : Hid (∀ wx, Below (w.alloc (.cells (fC t E dd A c) 27)).heap.size (w.alloc (.cells (fC t E dd A c) 27)) wx → FAt wx w.heap.size 0 t E dd A c ∧ Below w.heap.size w wx) := Lib.hid (fun wx hb => ⟨HF.out.below hb (by simp), bt (HAL.out _) hb⟩)
  have HC := Lib.hid (rf_fCheck t E A dd c (w.alloc (.cells (fC t E dd A c) 27)) hs (hR.step (bal _ _)))
  have HN : Hid (chkF t = 0 → ∀ wx, Below (w.alloc (.cells (fC t E dd A c) 27)).heap.size (w.alloc (.cells (fC t E dd A c) 27)) wx → Calls Try.prog 39 #[fV t E dd A c, .slice none 0 0] wx (TxP (setK (nmF t)) wx)) := Lib.hid (fun h wx hb => by
    have h2 := rf_fnames t.sz t (Nat.le_refl _) hs E dd A c [] none 0 wx ((hR.step (bal _ _)).step hb) RT.nil List.Pairwise.nil (by simp; omega)
    rw [names_agree h] at h2
    exact h2)
  obtain ⟨p0, p1, p2, p3, p4, p5⟩ := HF.out
  clear hR hs
  by_cases hc : chkF t = 0
  · rw [show nmsF t = nmF t from if_neg (by simpa using hc)]
    have HN2 := Lib.hid (HN.out hc)
    rw [hc] at HC
    clear HN hc
    generalize setK (nmF t) = D at *
    go_enter Try.func13, Try.ntmps13
    go_wp2_with (first
      | (go_at_call 39; have _ := HB1; (with_reducible refine (HN2.out _ HB1.out).mono ?_); rintro e w3 ⟨A3, c3, rfl, hT3, hb3⟩; have HT3 := Lib.hid hT3; have HB3 := Lib.hid ((HX.out _ HB1.out).2.trans (hb3.mono (HX.out _ HB1.out).2.size)); clear hT3 hb3)
      | (go_at_call 10; (with_reducible refine HC.out.mono ?_); rintro e w1 ⟨rfl, hb1⟩; have HB1 := Lib.hid hb1; obtain ⟨r0, r1, r2, r3, r4, r5⟩ := (HX.out _ hb1).1; clear hb1))
    go_ret
    exact ⟨A3, c3, rfl, HT3.out, HB3.out⟩
  · rw [show nmsF t = [] from if_pos hc, setK_nil]
    generalize chkF t = z at *
    have hz2 : (z != 0) = true := by simp [hc]
    clear HN hc
    go_enter Try.func13, Try.ntmps13
    go_wp2_with (go_at_call 10; (with_reducible refine HC.out.mono ?_); rintro e w1 ⟨rfl, hb1⟩; have HB1 := Lib.hid hb1; clear hb1)
    go_ret
    exact ⟨none, 0, rfl, RT.nil, (HX.out _ HB1.out).2⟩
end Go.Proofs.Ytnjkphopklbogaa
namespace Go.Proofs.Ytnjkphopklbogaa
open Go.RowKit

/-- The operator or its dual. -/
def dualF (o : Int) (b : Bool) : Int :=
  if b = false then o else if o = 3 then 4 else if o = 4 then 3 else if o = 6 then 10 else if o = 7 then 12 else if o = 8 then 11 else if o = 10 then 6 else if o = 11 then 8 else if o = 12 then 7 else o
def notE (e : Ex) : Ex := .mk 5 0 ⟨#[]⟩ [e]
def apF (l : List (Bool → Fx)) (i : Nat) (b : Bool) : Fx := (l.getD i (fun _ => fx0)) b
mutual
def psF : Fx → Bool → Fx
  | .mk o e ks => fun b =>
    if o = 1 then (if b then .mk 1 (notE e) [] else .mk o e ks)
    else if o = 2 then apF (psL ks) 0 (!b)
    else if o = 5 then .mk (dualF 4 b) ex0 [apF (psL ks) 0 (!b), apF (psL ks) 1 b]
    else if o = 9 ∨ o = 13 then (if b then .mk 2 ex0 [.mk o ex0 [apF (psL ks) 0 false, apF (psL ks) 1 false]] else .mk o ex0 [apF (psL ks) 0 false, apF (psL ks) 1 false])
    else .mk (dualF o b) ex0 ((psL ks).map (fun f => f b))
def psL : List Fx → List (Bool → Fx)
  | [] => []
  | t :: r => psF t :: psL r
end
theorem psL_len : ∀ l : List Fx, (psL l).length = l.length
  | [] => rfl
  | t :: r => by show (psL r).length + 1 = r.length + 1; rw [psL_len r]
theorem apF_at : ∀ (l : List Fx) (i : Nat) (b : Bool), i < l.length → apF (psL l) i b = psF (fkd l i) b
  | t :: r, 0, b, _ => rfl
  | t :: r, i + 1, b, h => apF_at r i b (by simpa using h)
theorem psL_map : ∀ (l : List Fx) (b : Bool), (psL l).map (fun f => f b) = l.map (fun t => psF t b)
  | [], _ => rfl
  | t :: r, b => by
    show psF t b :: (psL r).map (fun f => f b) = psF t b :: r.map (fun t => psF t b)
    rw [psL_map r b]
theorem psF_eq (t : Fx) (b : Bool) : psF t b =
    if t.op = 1 then (if b then .mk 1 (notE t.e) [] else t)
    else if t.op = 2 then apF (psL t.ks) 0 (!b)
    else if t.op = 5 then .mk (dualF 4 b) ex0 [apF (psL t.ks) 0 (!b), apF (psL t.ks) 1 b]
    else if t.op = 9 ∨ t.op = 13 then (if b then .mk 2 ex0 [.mk t.op ex0 [apF (psL t.ks) 0 false, apF (psL t.ks) 1 false]] else .mk t.op ex0 [apF (psL t.ks) 0 false, apF (psL t.ks) 1 false])
    else .mk (dualF t.op b) ex0 (t.ks.map (fun u => psF u b)) := by
  cases t with
  | mk o e ks => rw [← psL_map]; rfl
/-- A formula as answer, with what it holds below the new world's end. -/
def FmP (t : Fx) (w : World) (e : Ending) (w' : World) : Prop := ∃ E d A c, e = .returned (fV t E d A c) ∧ Fm w'.heap.size w' t E A ∧ Below w.heap.size w w'
set_option maxHeartbeats 1000000 in
theorem pr_node (o : Int) (A : Option Addr) (n c : Nat) (w : World) : Calls Try.prog 69 #[.int .i64 o, .slice A n c] w fun e w' => e = .returned (.agg #[.int .i64 o, .int .i64 0, .int .i64 0, .string ⟨#[]⟩, .slice none 0 0, .slice A n c]) ∧ Below w.heap.size w w' := by
  have HB : Hid (∀ ob, Below w.heap.size w (w.alloc ob)) := Lib.hid (fun ob => (Below.refl _ _).alloc (Nat.le_refl _) ob)
  go_enter Try.func69, Try.ntmps69
  go_wp2
  exact bodyPost_ret (res_fx rfl _ _ w.heap.size _ _ _ _ _ _ rfl (Blk.new _ _ _)) rfl ⟨rfl, HB.out _⟩
set_option maxHeartbeats 1000000 in
theorem rf_kids (o : Int) (A : Option Addr) (n c : Nat) (w : World) : Calls Try.prog 73 #[.int .i64 o, .slice A n c] w fun e w' => e = .returned (.agg #[.int .i64 o, .int .i64 0, .int .i64 0, .string ⟨#[]⟩, .slice none 0 0, .slice A n c]) ∧ Below w.heap.size w w' := by
  have HB : Hid (∀ ob, Below w.heap.size w (w.alloc ob)) := Lib.hid (fun ob => (Below.refl _ _).alloc (Nat.le_refl _) ob)
  go_enter Try.func73, Try.ntmps73
  go_wp2
  exact bodyPost_ret (res_fx rfl _ _ w.heap.size _ _ _ _ _ _ rfl (Blk.new _ _ _)) rfl ⟨rfl, HB.out _⟩
set_option maxHeartbeats 1000000 in
theorem pr_oper (o : Int) (b : Bool) (w : World) : Calls Try.prog 70 #[.int .i64 o, .bool b] w fun e w' => e = .returned (.int .i64 (dualF o b)) ∧ w' = w := by
  obtain ⟨R, hR⟩ : ∃ R, dualF o b = R := ⟨_, rfl⟩
  rw [hR]
  unfold dualF at hR
  cases b
  · rw [if_pos rfl] at hR
    subst hR
    go_enter Try.func70, Try.ntmps70
    go_wp2
    go_ret
    exact ⟨rfl, rfl⟩
  · rw [if_neg (by decide)] at hR
    by_cases h3 : o = 3
    · subst h3; subst hR
      go_enter Try.func70, Try.ntmps70
      go_wp2
      go_ret
      exact ⟨rfl, rfl⟩
    rw [if_neg h3] at hR
    by_cases h4 : o = 4
    · subst h4; subst hR
      go_enter Try.func70, Try.ntmps70
      go_wp2
      go_ret
      exact ⟨rfl, rfl⟩
    rw [if_neg h4] at hR
    by_cases h6 : o = 6
    · subst h6; subst hR
      go_enter Try.func70, Try.ntmps70
      go_wp2
      go_ret
      exact ⟨rfl, rfl⟩
    rw [if_neg h6] at hR
    by_cases h7 : o = 7
    · subst h7; subst hR
      go_enter Try.func70, Try.ntmps70
      go_wp2
      go_ret
      exact ⟨rfl, rfl⟩
    rw [if_neg h7] at hR
    by_cases h8 : o = 8
    · subst h8; subst hR
      go_enter Try.func70, Try.ntmps70
      go_wp2
      go_ret
      exact ⟨rfl, rfl⟩
    rw [if_neg h8] at hR
    by_cases h10 : o = 10
    · subst h10; subst hR
      go_enter Try.func70, Try.ntmps70
      go_wp2
      go_ret
      exact ⟨rfl, rfl⟩
    rw [if_neg h10] at hR
    by_cases h11 : o = 11
    · subst h11; subst hR
      go_enter Try.func70, Try.ntmps70
      go_wp2
      go_ret
      exact ⟨rfl, rfl⟩
    rw [if_neg h11] at hR
    by_cases h12 : o = 12
    · subst h12; subst hR
      go_enter Try.func70, Try.ntmps70
      go_wp2
      go_ret
      exact ⟨rfl, rfl⟩
    rw [if_neg h12] at hR
    subst hR
    have g3 : (o == 3) = false := by simp [h3]
    have g4 : (o == 4) = false := by simp [h4]
    have g6 : (o == 6) = false := by simp [h6]
    have g7 : (o == 7) = false := by simp [h7]
    have g8 : (o == 8) = false := by simp [h8]
    have g10 : (o == 10) = false := by simp [h10]
    have g11 : (o == 11) = false := by simp [h11]
    have g12 : (o == 12) = false := by simp [h12]
    go_enter Try.func70, Try.ntmps70
    go_wp2
    go_ret
    exact ⟨rfl, rfl⟩
set_option maxHeartbeats 1000000 in
theorem rf_other (o : Int) (w : World) (h : o = 3 ∨ o = 4 ∨ o = 6 ∨ o = 7 ∨ o = 8 ∨ o = 10 ∨ o = 11 ∨ o = 12) : Calls Try.prog 74 #[.int .i64 o] w fun e w' => e = .returned (.int .i64 (dualF o true)) ∧ w' = w := by
  rcases h with rfl | rfl | rfl | rfl | rfl | rfl | rfl | rfl
  all_goals
    go_enter Try.func74, Try.ntmps74
    go_wp2
    go_ret
    exact ⟨rfl, rfl⟩
end Go.Proofs.Ytnjkphopklbogaa
namespace Go.Proofs.Ytnjkphopklbogaa
open Go.RowKit

theorem adr_add (b o j : Nat) : (⟨b, o, none⟩ : Addr).add j = ⟨b, o + j, none⟩ := by unfold Addr.add; split <;> simp_all
theorem below_set {B : Nat} {w w1 : World} (h : Below B w w1) {g : Nat} (hg : B ≤ g) (i : Nat) (v : Value) : Below B w (w1.setCell ⟨g, i, none⟩ v) := h.setCell (p := ⟨g, i, none⟩) hg v
theorem flatM_congr {α : Type} {f g : Nat → List α} : ∀ l : List Nat, (∀ i, i ∈ l → f i = g i) → l.flatMap f = l.flatMap g
  | [], _ => rfl
  | a :: r, h => by rw [List.flatMap_cons, List.flatMap_cons, h a (List.mem_cons_self ..), flatM_congr r (fun i hi => h i (List.mem_cons_of_mem _ hi))]
theorem fkd_app_lt {ts : List Fx} {t : Fx} {i : Nat} (h : i < ts.length) : fkd (ts ++ [t]) i = fkd ts i := by
  unfold fkd; simp [List.getD, List.getElem?_append_left h]
theorem fkd_app_eq (ts : List Fx) (t : Fx) : fkd (ts ++ [t]) ts.length = t := by
  unfold fkd; simp [List.getD]
theorem csF_snoc (ts : List Fx) (ea ka : Nat → Option Addr) (ec kc : Nat → Nat) (t : Fx) (E A : Option Addr) (d c : Nat) :
    csF (ts ++ [t]) (fun i => if i = ts.length then E else ea i) (fun i => if i = ts.length then A else ka i) (fun i => if i = ts.length then d else ec i) (fun i => if i = ts.length then c else kc i) = csF ts ea ka ec kc ++ (fC t E d A c).toList := by
  unfold csF
  rw [List.length_append, List.length_singleton, List.range_succ, List.flatMap_append]
  congr 1
  · refine flatM_congr _ (fun i hi => ?_)
    have hi2 : i < ts.length := List.mem_range.1 hi
    have hne : i ≠ ts.length := by omega
    rw [fkd_app_lt hi2]
    simp only [if_neg hne]
  · simp only [List.flatMap_cons, List.flatMap_nil, List.append_nil, if_pos]
    rw [fkd_app_eq]
/-- An own row of formulas from block K on: what they hold lies in blocks of Z, none of them the row's. -/
def RowG (Z : Nat → Prop) (w : World) (K : Nat) (v : Value) (n : Nat) (ts : List Fx) : Prop := ts.length = n ∧ ∃ ea ka ec kc, w.ownsRow K 27 6 v n (csF ts ea ka ec kc) ∧
  ∀ i, i < n → FmS (fun x => (Z x ∧ x < w.heap.size) ∧ v.ownBlock ≠ some x) w (fkd ts i) (ea i) (ka i)
theorem RowG.nil (Z : Nat → Prop) (w : World) (K : Nat) : RowG Z w K (.slice none 0 0) 0 [] :=
  ⟨rfl, fun _ => none, fun _ => none, fun _ => 0, fun _ => 0, World.ownsRow_nil _ _ _ _, fun i hi => absurd hi (by omega)⟩
theorem RowG.made (Z : Nat → Prop) (w : World) (K : Nat) (h : K ≤ w.heap.size) : RowG Z (w.alloc (.cells #[] 27)) K (.slice (some ⟨w.heap.size, 0, none⟩) 0 0) 0 [] :=
  ⟨rfl, fun _ => none, fun _ => none, fun _ => 0, fun _ => 0, World.ownsRow_made w #[] 0 h (Nat.zero_le _) rfl, fun i hi => absurd hi (by omega)⟩
section
variable {Z : Nat → Prop} {w : World} {K n : Nat} {v : Value} {ts : List Fx}
theorem RowG.form (h : RowG Z w K v n ts) : ∃ A c, v = .slice A n c := by
  obtain ⟨_, _, _, _, _, ho, _⟩ := h
  exact owns_slice ho
theorem RowG.own_lt (h : RowG Z w K v n ts) {x : Nat} (hx : v.ownBlock = some x) : K ≤ x ∧ x < w.heap.size := by
  obtain ⟨_, _, _, _, _, ho, _⟩ := h
  exact ho.lt x hx
theorem RowG.kept (h : RowG Z w K v n ts) {w' : World} (hz : ∀ x, Z x → x < w.heap.size → v.ownBlock ≠ some x → w'.heap[x]? = w.heap[x]?) (ho : ∀ k, v.ownBlock = some k → w'.heap[k]? = w.heap[k]?) (hs : w.heap.size ≤ w'.heap.size) : RowG Z w' K v n ts := by
  obtain ⟨hl, ea, ka, ec, kc, h1, h2⟩ := h
  exact ⟨hl, ea, ka, ec, kc, own_eqb h1 ho, fun i hi => ((h2 i hi).kept (fun x hx => hz x hx.1.1 hx.1.2 hx.2)).mono (fun x hx => ⟨⟨hx.1.1, by have := hx.1.2; omega⟩, hx.2⟩)⟩
theorem RowG.below (h : RowG Z w K v n ts) {w' : World} (hb : Below w.heap.size w w') : RowG Z w' K v n ts :=
  h.kept (fun x _ hx _ => hb.block x hx) (fun k hk => hb.block k (h.own_lt hk).2) hb.size
theorem RowG.mono (h : RowG Z w K v n ts) {Z' : Nat → Prop} (hz : ∀ x, Z x → x < w.heap.size → Z' x) : RowG Z' w K v n ts := by
  obtain ⟨hl, ea, ka, ec, kc, h1, h2⟩ := h
  exact ⟨hl, ea, ka, ec, kc, h1, fun i hi => (h2 i hi).mono (fun x hx => ⟨⟨hz x hx.1.1 hx.1.2, hx.1.2⟩, hx.2⟩)⟩
/-- The row is the Kids of a formula. -/
theorem RowG.tree (h : RowG Z w K v n ts) (o : Int) (e : Ex) {A : Option Addr} {c : Nat} (hv : v = .slice A n c) : RepFS (fun x => (Z x ∨ v.ownBlock = some x) ∧ x < w.heap.size) w A (.mk o e ts) := by
  obtain ⟨hl, ea, ka, ec, kc, ho, hk⟩ := h
  subst hv
  have hn : (Fx.mk o e ts).ks.length = n := hl
  refine .mk _ _ ka ea kc ec (fun hp => ?_) (fun i hi => ((hk i (by omega)).1).mono (fun x hx => ⟨.inl hx.1.1, hx.1.2⟩)) (fun i hi => ((hk i (by omega)).2).mono (fun x hx => ⟨.inl hx.1.1, hx.1.2⟩))
  rcases ho.2 with ⟨hv, h0⟩ | ⟨g, cap, cur, hv, hg, hh, _, _, _, htk⟩
  · omega
  · have hA : A = some ⟨g, 0, none⟩ := by simpa using (Value.slice.inj hv).1
    subst hA
    have hB : Blk w g 27 cur := hh
    refine ⟨g, 0, rfl, ⟨.inr rfl, hB.lt⟩, fun i hi => ?_⟩
    have hi2 : i < ts.length := hi
    have hat : ∀ j u, (csF ts ea ka ec kc)[j]? = some u → w.cell? ⟨g, 0 + j, none⟩ = some u := fun j u hj => by
      rw [Nat.zero_add, hB.cell j]
      rw [← htk, List.getElem?_take] at hj
      split at hj
      · rwa [Array.getElem?_toList] at hj
      · cases hj
    have hc : ∀ j, j < 6 → ∀ u, (fC (fkd ts i) (ea i) (ec i) (ka i) (kc i)).toList[j]? = some u → w.cell? ⟨g, 0 + i * 6 + j, none⟩ = some u := fun j hj u hu => by
      rw [Nat.add_assoc]
      exact hat _ _ ((csF_at hi2 hj).trans hu)
    exact ⟨hc 0 (by omega) _ rfl, hc 1 (by omega) _ rfl, hc 2 (by omega) _ rfl, hc 3 (by omega) _ rfl, hc 4 (by omega) _ rfl, hc 5 (by omega) _ rfl⟩
end
/-- One formula more. -/
theorem RowG.push {Z P : Nat → Prop} {w W w8 : World} {K n : Nat} {v v8 : Value} {ts : List Fx} {ea ka : Nat → Option Addr} {ec kc : Nat → Nat} {t : Fx} {E A : Option Addr} {d c : Nat} (hl : ts.length = n)
    (hk : ∀ i, i < n → FmS (fun x => (Z x ∧ x < w.heap.size) ∧ v.ownBlock ≠ some x) w (fkd ts i) (ea i) (ka i)) (hW : Below w.heap.size w W) (ht : FmS P W t E A) (hP : ∀ x, P x → (Z x ∧ x < W.heap.size) ∧ v.ownBlock ≠ some x)
    (hg : W.grownBy w8 v.ownBlock) (ho : w8.ownsRow K 27 6 v8 (n + 1) (csF ts ea ka ec kc ++ (fC t E d A c).toList)) (hat : ∀ k, v8.ownBlock = some k → v.ownBlock = some k ∨ k = W.heap.size) : RowG Z w8 K v8 (n + 1) (ts ++ [t]) := by
  have hws := hW.size
  have hgs := hg.size
  subst hl
  refine ⟨by simp, fun i => if i = ts.length then E else ea i, fun i => if i = ts.length then A else ka i, fun i => if i = ts.length then d else ec i, fun i => if i = ts.length then c else kc i, by rw [csF_snoc]; exact ho, fun i hi => ?_⟩
  have hne : ∀ x, x < W.heap.size → v.ownBlock ≠ some x → v8.ownBlock ≠ some x := fun x hx h e => by
    rcases hat x e with q | q
    · exact h q
    · omega
  by_cases e : i = ts.length
  · subst e
    rw [fkd_app_eq]
    simp only [if_pos]
    refine ((ht.mono hP).kept (fun x hx => hg.block x hx.1.2 (fun e => hx.2 e.symm))).mono (fun x hx => ⟨⟨hx.1.1, by have := hx.1.2; omega⟩, hne x hx.1.2 hx.2⟩)
  · have hi2 : i < ts.length := by omega
    rw [fkd_app_lt hi2]
    simp only [if_neg e]
    refine ((hk i hi2).kept (fun x hx => (hg.block x (by have := hx.1.2; omega) (fun e => hx.2 e.symm)).trans (hW.block x hx.1.2))).mono (fun x hx => ⟨⟨hx.1.1, by have := hx.1.2; omega⟩, hne x (by have := hx.1.2; omega) hx.2⟩)
end Go.Proofs.Ytnjkphopklbogaa
