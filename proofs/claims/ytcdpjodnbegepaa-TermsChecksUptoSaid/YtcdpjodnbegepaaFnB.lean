/- The contract of typeOf, of layer 30 (terms). -/
import Derived.Test.YtcdpjodnbegepaaFnA
import Derived.Deep.RegionHeld3
namespace Go.Proofs.Ytcdpjodnbegepaa
open Go.RowKit

theorem cell3 {w : World} {g b : Nat} (h : ¬ b = g) (o : Nat) (v0 v1 v2 : Value) : (((w.setCell ⟨g, 0, none⟩ v0).setCell ⟨g, 1, none⟩ v1).setCell ⟨g, 2, none⟩ v2).cell? ⟨b, o, none⟩ = w.cell? ⟨b, o, none⟩ := by
  have h2 : ¬ g = b := fun e => h e.symm
  simp [World.cell?, World.setCell, Array.getElem?_modify, h2]
/-- The type of a node that is no variable, from the types of its Kids. -/
def tyOf (t : Ex) (l : List Ty) : Ty × Int :=
  if suitS t.op l = false then (ty0, 13)
  else if t.op = 1 then spanS t.vr t.vr
  else if t.op = 14 ∨ t.op = 15 ∨ t.op = 16 then reachS t.op (ty l 0) (ty l 1)
  else if t.op = 17 then (if (kd t.ks 1).op = 1 ∧ 0 < (kd t.ks 1).vr then spanS 0 ((kd t.ks 1).vr - 1) else (ty0, 2))
  else if t.op = 18 then (if (ty l 1).b then (tyT, 0) else spanS (min (ty l 1).lo (ty l 2).lo) (max (ty l 1).hi (ty l 2).hi))
  else (tyT, 0)
/-- What typeOf asks of the number of the Kids. -/
def Fits (t : Ex) (l : List Ty) : Prop := (14 ≤ t.op ∧ t.op ≤ 17 → l.length = 2) ∧ (t.op = 17 → t.ks.length = 2) ∧ (t.op = 18 → l.length = 3)
set_option maxRecDepth 100000 in
set_option maxHeartbeats 8000000 in
theorem pr_typeOf (t : Ex) (A : Option Addr) (c : Nat) (l : List Ty) (K : Option Addr) (ck : Nat) (w : World) (hR : Rep w.heap.size w A t) (hT : Tys w.heap.size w K l) (hF : Fits t l) (hl : l.length ≤ 1000000000) (hy : ∀ i, i < l.length → TyIn (ty l i)) (hv : I64 t.vr) (hv1 : I64 (kd t.ks 1).vr) :
    Calls Try.prog 45 #[exV t A c, .slice K l.length ck] w (TyE (tyOf t l) w) := by
  obtain ⟨W, hW⟩ : ∃ W, (w.alloc (.cells #[.int .i64 t.op, .int .i64 t.vr, .string t.nm, .slice A t.ks.length c] 24)).alloc (.cells #[.bool false, .int .i64 0, .int .i64 0] 39) = W := ⟨_, rfl⟩
  have HX : Hid (∀ wr, Below (w.heap.size + 1 + 1) W wr → (wr.cell? ⟨w.heap.size, 0, none⟩ = some (.int .i64 t.op) ∧ wr.cell? ⟨w.heap.size, 1, none⟩ = some (.int .i64 t.vr) ∧ wr.cell? ⟨w.heap.size, 2, none⟩ = some (.string t.nm) ∧ wr.cell? ⟨w.heap.size, 3, none⟩ = some (.slice A t.ks.length c)) ∧ Blk wr (w.heap.size + 1) 39 #[.bool false, .int .i64 0, .int .i64 0] ∧ Below w.heap.size w wr ∧ w.heap.size + 1 + 1 ≤ wr.heap.size) := Lib.hid (fun wr h => by
    have b1 := Blk.new w 24 #[.int .i64 t.op, .int .i64 t.vr, .string t.nm, .slice A t.ks.length c]
    have z1 : (w.alloc (.cells #[.int .i64 t.op, .int .i64 t.vr, .string t.nm, .slice A t.ks.length c] 24)).heap.size = w.heap.size + 1 := by simp
    have b2 := Blk.new (w.alloc (.cells #[.int .i64 t.op, .int .i64 t.vr, .string t.nm, .slice A t.ks.length c] 24)) 39 #[.bool false, .int .i64 0, .int .i64 0]
    rw [z1] at b2
    have z3 : W.heap.size = w.heap.size + 1 + 1 := by rw [← hW]; simp
    have b1' := b1.alloc (.cells #[.bool false, .int .i64 0, .int .i64 0] 39)
    rw [hW] at b1' b2
    have hs := h.size
    have h0 : Below w.heap.size w W := by rw [← hW]; exact Go.Proofs.Ytcdpjodnbegepaa.al (Go.Proofs.Ytcdpjodnbegepaa.al (Below.refl _ _) _) _
    have c1 := b1'.below h (by omega)
    exact ⟨⟨c1.cell 0, c1.cell 1, c1.cell 2, c1.cell 3⟩, b2.below h (by omega), h0.trans (h.mono (by omega)), by omega⟩)
  have HTW : Hid (Tys W.heap.size W K l) := Lib.hid (hT.step (by rw [← hW]; exact Go.Proofs.Ytcdpjodnbegepaa.al (Go.Proofs.Ytcdpjodnbegepaa.al (Below.refl _ _) _) _))
  have hWs : W.heap.size = w.heap.size + 1 + 1 := by rw [← hW]; simp
  have HSU := Lib.hid (pr_suited t.op l K ck W HTW.out (fun h => by have := hF.2.2 h; omega) hl)
  have HRR := Lib.hid hR
  have HTT := Lib.hid hT
  have HY := Lib.hid hy
  have HWW := Lib.hid hW
  have HV := Lib.hid hv
  have HV1 := Lib.hid hv1
  obtain ⟨R, hRs⟩ : ∃ R, tyOf t l = R := ⟨_, rfl⟩
  rw [hRs]
  unfold tyOf at hRs
  obtain ⟨f1, f2, f3⟩ := hF
  clear hR hT hy hW hv hv1 HTW
  show Calls Try.prog 45 #[.agg #[.int .i64 t.op, .int .i64 t.vr, .string t.nm, .slice A t.ks.length c], .slice K l.length ck] w (TyE R w)
  generalize t.nm = m at *
  generalize t.vr = v at *
  generalize ho : t.op = o at *
  clear ho
  obtain ⟨sb, hsb⟩ : ∃ sb, suitS o l = sb := ⟨_, rfl⟩
  rw [hsb] at hRs HSU
  clear hsb
  cases sb
  · have X : Hid (R = (ty0, 13)) := Lib.hid (by rw [← hRs]; rfl)
    rw [X.out]
    clear hRs f1 f2 f3
    go_enter Try.func45, Try.ntmps45
    go_wp2_with (first
      | (go_at_call 64; rw [HWW.out]; (with_reducible refine HSU.out.mono ?_); rintro e w1 ⟨rfl, hb1⟩; obtain ⟨⟨p0, p1, p2, p3⟩, g1, hbw, hsz⟩ := HX.out _ (hb1.mono (by omega)); have q0 : w1.cell? ⟨w.heap.size + 1, 0, none⟩ = _ := g1.cell 0; have q1 : w1.cell? ⟨w.heap.size + 1, 1, none⟩ = _ := g1.cell 1; have q2 : w1.cell? ⟨w.heap.size + 1, 2, none⟩ = _ := g1.cell 2; have q3 : w1.frozen? ⟨w.heap.size + 1, 0, none⟩ = false := g1.frozen 0; have q5 : w1.frozen? ⟨w.heap.size + 1, 1, none⟩ = false := g1.frozen 1; have q6 : w1.frozen? ⟨w.heap.size + 1, 2, none⟩ = false := g1.frozen 2; have q4 : w.heap.size + 1 < w1.heap.size := g1.lt; have G1 := Lib.hid g1; have HB1 := Lib.hid hbw; clear hb1 hbw g1))
    refine bodyPost_ret (res_ty rfl _ _ (w.heap.size + 1) _ _ _ rfl (((G1.out.set_ 0 _).set_ 1 _).set_ 2 _)) rfl ⟨rfl, ?_⟩
    exact below_set (below_set (below_set HB1.out (by omega) _ _) (by omega) _ _) (by omega) _ _
  rw [if_neg (by decide)] at hRs
  have HD : Hid (∀ k, k < l.length → ∃ b f, K = some ⟨b, f, none⟩ ∧ b < w.heap.size ∧ ∀ wr, Below w.heap.size w wr → wr.cell? ⟨b, f + k * 3, none⟩ = some (.bool (ty l k).b) ∧ wr.cell? ⟨b, f + k * 3 + 1, none⟩ = some (.int .i64 (ty l k).lo) ∧ wr.cell? ⟨b, f + k * 3 + 2, none⟩ = some (.int .i64 (ty l k).hi)) := Lib.hid (fun k hk => by
    obtain ⟨b, f, e, hb, hc⟩ := HTT.out (by omega)
    exact ⟨b, f, e, hb, fun wr h => ⟨(h.cell (p := ⟨b, f + k * 3, none⟩) hb).trans (hc k hk).1, (h.cell (p := ⟨b, f + k * 3 + 1, none⟩) hb).trans (hc k hk).2.1, (h.cell (p := ⟨b, f + k * 3 + 2, none⟩) hb).trans (hc k hk).2.2⟩⟩)
  by_cases o1 : o = 1
  · subst o1
    rw [if_pos rfl] at hRs
    have HS := Lib.hid (fun w => pr_span v v w)
    rw [hRs] at HS
    clear hRs f1 f2 f3
    obtain ⟨⟨yb, yl, yh⟩, ye⟩ := R
    go_enter Try.func45, Try.ntmps45
    go_wp2_with (first
      | (go_at_call 64; rw [HWW.out]; (with_reducible refine HSU.out.mono ?_); rintro e w1 ⟨rfl, hb1⟩; obtain ⟨⟨p0, p1, p2, p3⟩, g1, hbw, hsz⟩ := HX.out _ (hb1.mono (by omega)); have q0 : w1.cell? ⟨w.heap.size + 1, 0, none⟩ = _ := g1.cell 0; have q1 : w1.cell? ⟨w.heap.size + 1, 1, none⟩ = _ := g1.cell 1; have q2 : w1.cell? ⟨w.heap.size + 1, 2, none⟩ = _ := g1.cell 2; have q3 : w1.frozen? ⟨w.heap.size + 1, 0, none⟩ = false := g1.frozen 0; have q5 : w1.frozen? ⟨w.heap.size + 1, 1, none⟩ = false := g1.frozen 1; have q6 : w1.frozen? ⟨w.heap.size + 1, 2, none⟩ = false := g1.frozen 2; have q4 : w.heap.size + 1 < w1.heap.size := g1.lt; have G1 := Lib.hid g1; have HB1 := Lib.hid hbw; clear hb1 hbw g1)
      | (go_at_call 65; (with_reducible refine (HS.out _).mono ?_); rintro e w2 ⟨rfl, hb2⟩; have g2 := G1.out.below hb2 (by first | omega | (simp; omega)); have r0 : w2.cell? ⟨w.heap.size + 1, 0, none⟩ = _ := g2.cell 0; have r1 : w2.cell? ⟨w.heap.size + 1, 1, none⟩ = _ := g2.cell 1; have r2 : w2.cell? ⟨w.heap.size + 1, 2, none⟩ = _ := g2.cell 2; have r3 : w2.frozen? ⟨w.heap.size + 1, 0, none⟩ = false := g2.frozen 0; have r5 : w2.frozen? ⟨w.heap.size + 1, 1, none⟩ = false := g2.frozen 1; have r6 : w2.frozen? ⟨w.heap.size + 1, 2, none⟩ = false := g2.frozen 2; have r4 : w.heap.size + 1 < w2.heap.size := g2.lt; have G2 := Lib.hid g2; have HB2 := Lib.hid (HB1.out.trans (hb2.mono (by first | omega | (simp; omega)))); clear hb2 g2))
    refine bodyPost_ret (res_ty rfl _ _ (w.heap.size + 1) _ _ _ rfl (((G2.out.set_ 0 _).set_ 1 _).set_ 2 _)) rfl ⟨rfl, ?_⟩
    exact below_set (below_set (below_set HB2.out (by omega) _ _) (by omega) _ _) (by omega) _ _
  rw [if_neg o1] at hRs
  by_cases o14 : o = 14
  · subst o14
    rw [if_pos (.inl rfl)] at hRs
    have hlen : l.length = 2 := f1 (by omega)
    have HS := Lib.hid (fun w => pr_reach 14 (ty l 0) (ty l 1) w (HY.out 0 (by omega)) (HY.out 1 (by omega)))
    rw [hRs] at HS
    obtain ⟨b, f, rfl, hbl, hd0⟩ := HD.out 0 (by omega)
    obtain ⟨b', f', e', _, hd1⟩ := HD.out 1 (by omega)
    obtain ⟨rfl, rfl⟩ : b = b' ∧ f = f' := by simpa using e'
    have HD0 := Lib.hid hd0
    have HD1 := Lib.hid hd1
    rw [hlen]
    rw [hlen] at HSU
    clear hRs f1 f2 f3 hd0 hd1 e' hlen
    generalize ty l 0 = y0 at *
    generalize ty l 1 = y1 at *
    obtain ⟨y0b, y0l, y0h⟩ := y0
    obtain ⟨y1b, y1l, y1h⟩ := y1
    obtain ⟨⟨yb, yl, yh⟩, ye⟩ := R
    go_enter Try.func45, Try.ntmps45
    go_wp2_with (first
      | (go_at_call 64; rw [HWW.out]; (with_reducible refine HSU.out.mono ?_); rintro e w1 ⟨rfl, hb1⟩; obtain ⟨⟨p0, p1, p2, p3⟩, g1, hbw, hsz⟩ := HX.out _ (hb1.mono (by omega)); have q0 : w1.cell? ⟨w.heap.size + 1, 0, none⟩ = _ := g1.cell 0; have q1 : w1.cell? ⟨w.heap.size + 1, 1, none⟩ = _ := g1.cell 1; have q2 : w1.cell? ⟨w.heap.size + 1, 2, none⟩ = _ := g1.cell 2; have q3 : w1.frozen? ⟨w.heap.size + 1, 0, none⟩ = false := g1.frozen 0; have q5 : w1.frozen? ⟨w.heap.size + 1, 1, none⟩ = false := g1.frozen 1; have q6 : w1.frozen? ⟨w.heap.size + 1, 2, none⟩ = false := g1.frozen 2; have q4 : w.heap.size + 1 < w1.heap.size := g1.lt; have G1 := Lib.hid g1; have HB1 := Lib.hid hbw; clear hb1 hbw g1; obtain ⟨d0, d1, d2⟩ := HD0.out _ HB1.out; obtain ⟨d3, d4, d5⟩ := HD1.out _ HB1.out; simp only [Nat.zero_mul, Nat.one_mul, Nat.add_zero] at d0 d1 d2 d3 d4 d5))
    have hne : ¬ b = w.heap.size + 1 := by omega
    have hn0 : ¬ w.heap.size = w.heap.size + 1 := by omega
    have HOC : Hid (∀ wr, Below w1.drew.heap.size w1.drew wr → wr.cell? ⟨w.heap.size, 0, none⟩ = some (.int .i64 14)) := Lib.hid (fun wr h => (h.cell (p := ⟨w.heap.size, 0, none⟩) (by simp; omega)).trans p0)
    go_region_held3 (fun wx => wx.cell? ⟨w.heap.size, 0, none⟩ = some (.int .i64 14) ∧ wx.cell? ⟨b, f, none⟩ = some (.bool y0b) ∧ wx.cell? ⟨b, f + 1, none⟩ = some (.int .i64 y0l) ∧ wx.cell? ⟨b, f + 2, none⟩ = some (.int .i64 y0h) ∧ wx.cell? ⟨b, f + 3, none⟩ = some (.bool y1b) ∧ wx.cell? ⟨b, f + 3 + 1, none⟩ = some (.int .i64 y1l) ∧ wx.cell? ⟨b, f + 3 + 2, none⟩ = some (.int .i64 y1h)) (first | exact ⟨p0, d0, d1, d2, d3, d4, d5⟩ | exact ⟨e6, e0, e1, e2, e3, e4, e5⟩ | exact ⟨(cell3 hn0 _ _ _ _).trans e6, (cell3 hne _ _ _ _).trans e0, (cell3 hne _ _ _ _).trans e1, (cell3 hne _ _ _ _).trans e2, (cell3 hne _ _ _ _).trans e3, (cell3 hne _ _ _ _).trans e4, (cell3 hne _ _ _ _).trans e5⟩ | go_keep) (first
      | (go_at_call 66; (with_reducible refine (HS.out _).mono ?_); rintro e w2 ⟨rfl, hb2⟩; have g2 := Blk.below (w := w1.drew) G1.out hb2 (by simp; omega); have HBx := Lib.hid (HB1.out.drew.trans (hb2.mono (by simp; omega))); have e6 := HOC.out _ hb2; obtain ⟨e0, e1, e2⟩ := HD0.out _ HBx.out; obtain ⟨e3, e4, e5⟩ := HD1.out _ HBx.out; simp only [Nat.zero_mul, Nat.one_mul, Nat.add_zero] at e0 e1 e2 e3 e4 e5; have r0 : w2.cell? ⟨w.heap.size + 1, 0, none⟩ = _ := g2.cell 0; have r1 : w2.cell? ⟨w.heap.size + 1, 1, none⟩ = _ := g2.cell 1; have r2 : w2.cell? ⟨w.heap.size + 1, 2, none⟩ = _ := g2.cell 2; have r3 : w2.frozen? ⟨w.heap.size + 1, 0, none⟩ = false := g2.frozen 0; have r5 : w2.frozen? ⟨w.heap.size + 1, 1, none⟩ = false := g2.frozen 1; have r6 : w2.frozen? ⟨w.heap.size + 1, 2, none⟩ = false := g2.frozen 2; have r4 : w.heap.size + 1 < w2.heap.size := g2.lt; have G2 := Lib.hid g2; have HB2 := Lib.hid (HB1.out.drew.trans (hb2.mono (by simp; omega))); clear hb2 g2))
    go_wp2
    refine bodyPost_ret (res_ty rfl _ _ (w.heap.size + 1) _ _ _ rfl (((G2.out.set_ 0 _).set_ 1 _).set_ 2 _)) rfl ⟨rfl, ?_⟩
    exact below_set (below_set (below_set HB2.out (by omega) _ _) (by omega) _ _) (by omega) _ _
  by_cases o15 : o = 15
  · subst o15
    rw [if_pos (.inr (.inl rfl))] at hRs
    have hlen : l.length = 2 := f1 (by omega)
    have HS := Lib.hid (fun w => pr_reach 15 (ty l 0) (ty l 1) w (HY.out 0 (by omega)) (HY.out 1 (by omega)))
    rw [hRs] at HS
    obtain ⟨b, f, rfl, hbl, hd0⟩ := HD.out 0 (by omega)
    obtain ⟨b', f', e', _, hd1⟩ := HD.out 1 (by omega)
    obtain ⟨rfl, rfl⟩ : b = b' ∧ f = f' := by simpa using e'
    have HD0 := Lib.hid hd0
    have HD1 := Lib.hid hd1
    rw [hlen]
    rw [hlen] at HSU
    clear hRs f1 f2 f3 hd0 hd1 e' hlen
    generalize ty l 0 = y0 at *
    generalize ty l 1 = y1 at *
    obtain ⟨y0b, y0l, y0h⟩ := y0
    obtain ⟨y1b, y1l, y1h⟩ := y1
    obtain ⟨⟨yb, yl, yh⟩, ye⟩ := R
    go_enter Try.func45, Try.ntmps45
    go_wp2_with (first
      | (go_at_call 64; rw [HWW.out]; (with_reducible refine HSU.out.mono ?_); rintro e w1 ⟨rfl, hb1⟩; obtain ⟨⟨p0, p1, p2, p3⟩, g1, hbw, hsz⟩ := HX.out _ (hb1.mono (by omega)); have q0 : w1.cell? ⟨w.heap.size + 1, 0, none⟩ = _ := g1.cell 0; have q1 : w1.cell? ⟨w.heap.size + 1, 1, none⟩ = _ := g1.cell 1; have q2 : w1.cell? ⟨w.heap.size + 1, 2, none⟩ = _ := g1.cell 2; have q3 : w1.frozen? ⟨w.heap.size + 1, 0, none⟩ = false := g1.frozen 0; have q5 : w1.frozen? ⟨w.heap.size + 1, 1, none⟩ = false := g1.frozen 1; have q6 : w1.frozen? ⟨w.heap.size + 1, 2, none⟩ = false := g1.frozen 2; have q4 : w.heap.size + 1 < w1.heap.size := g1.lt; have G1 := Lib.hid g1; have HB1 := Lib.hid hbw; clear hb1 hbw g1; obtain ⟨d0, d1, d2⟩ := HD0.out _ HB1.out; obtain ⟨d3, d4, d5⟩ := HD1.out _ HB1.out; simp only [Nat.zero_mul, Nat.one_mul, Nat.add_zero] at d0 d1 d2 d3 d4 d5))
    have hne : ¬ b = w.heap.size + 1 := by omega
    have hn0 : ¬ w.heap.size = w.heap.size + 1 := by omega
    have HOC : Hid (∀ wr, Below w1.drew.heap.size w1.drew wr → wr.cell? ⟨w.heap.size, 0, none⟩ = some (.int .i64 15)) := Lib.hid (fun wr h => (h.cell (p := ⟨w.heap.size, 0, none⟩) (by simp; omega)).trans p0)
    go_region_held3 (fun wx => wx.cell? ⟨w.heap.size, 0, none⟩ = some (.int .i64 15) ∧ wx.cell? ⟨b, f, none⟩ = some (.bool y0b) ∧ wx.cell? ⟨b, f + 1, none⟩ = some (.int .i64 y0l) ∧ wx.cell? ⟨b, f + 2, none⟩ = some (.int .i64 y0h) ∧ wx.cell? ⟨b, f + 3, none⟩ = some (.bool y1b) ∧ wx.cell? ⟨b, f + 3 + 1, none⟩ = some (.int .i64 y1l) ∧ wx.cell? ⟨b, f + 3 + 2, none⟩ = some (.int .i64 y1h)) (first | exact ⟨p0, d0, d1, d2, d3, d4, d5⟩ | exact ⟨e6, e0, e1, e2, e3, e4, e5⟩ | exact ⟨(cell3 hn0 _ _ _ _).trans e6, (cell3 hne _ _ _ _).trans e0, (cell3 hne _ _ _ _).trans e1, (cell3 hne _ _ _ _).trans e2, (cell3 hne _ _ _ _).trans e3, (cell3 hne _ _ _ _).trans e4, (cell3 hne _ _ _ _).trans e5⟩ | go_keep) (first
      | (go_at_call 66; (with_reducible refine (HS.out _).mono ?_); rintro e w2 ⟨rfl, hb2⟩; have g2 := Blk.below (w := w1.drew) G1.out hb2 (by simp; omega); have HBx := Lib.hid (HB1.out.drew.trans (hb2.mono (by simp; omega))); have e6 := HOC.out _ hb2; obtain ⟨e0, e1, e2⟩ := HD0.out _ HBx.out; obtain ⟨e3, e4, e5⟩ := HD1.out _ HBx.out; simp only [Nat.zero_mul, Nat.one_mul, Nat.add_zero] at e0 e1 e2 e3 e4 e5; have r0 : w2.cell? ⟨w.heap.size + 1, 0, none⟩ = _ := g2.cell 0; have r1 : w2.cell? ⟨w.heap.size + 1, 1, none⟩ = _ := g2.cell 1; have r2 : w2.cell? ⟨w.heap.size + 1, 2, none⟩ = _ := g2.cell 2; have r3 : w2.frozen? ⟨w.heap.size + 1, 0, none⟩ = false := g2.frozen 0; have r5 : w2.frozen? ⟨w.heap.size + 1, 1, none⟩ = false := g2.frozen 1; have r6 : w2.frozen? ⟨w.heap.size + 1, 2, none⟩ = false := g2.frozen 2; have r4 : w.heap.size + 1 < w2.heap.size := g2.lt; have G2 := Lib.hid g2; have HB2 := Lib.hid (HB1.out.drew.trans (hb2.mono (by simp; omega))); clear hb2 g2))
    go_wp2
    refine bodyPost_ret (res_ty rfl _ _ (w.heap.size + 1) _ _ _ rfl (((G2.out.set_ 0 _).set_ 1 _).set_ 2 _)) rfl ⟨rfl, ?_⟩
    exact below_set (below_set (below_set HB2.out (by omega) _ _) (by omega) _ _) (by omega) _ _
  by_cases o16 : o = 16
  · subst o16
    rw [if_pos (.inr (.inr rfl))] at hRs
    have hlen : l.length = 2 := f1 (by omega)
    have HS := Lib.hid (fun w => pr_reach 16 (ty l 0) (ty l 1) w (HY.out 0 (by omega)) (HY.out 1 (by omega)))
    rw [hRs] at HS
    obtain ⟨b, f, rfl, hbl, hd0⟩ := HD.out 0 (by omega)
    obtain ⟨b', f', e', _, hd1⟩ := HD.out 1 (by omega)
    obtain ⟨rfl, rfl⟩ : b = b' ∧ f = f' := by simpa using e'
    have HD0 := Lib.hid hd0
    have HD1 := Lib.hid hd1
    rw [hlen]
    rw [hlen] at HSU
    clear hRs f1 f2 f3 hd0 hd1 e' hlen
    generalize ty l 0 = y0 at *
    generalize ty l 1 = y1 at *
    obtain ⟨y0b, y0l, y0h⟩ := y0
    obtain ⟨y1b, y1l, y1h⟩ := y1
    obtain ⟨⟨yb, yl, yh⟩, ye⟩ := R
    go_enter Try.func45, Try.ntmps45
    go_wp2_with (first
      | (go_at_call 64; rw [HWW.out]; (with_reducible refine HSU.out.mono ?_); rintro e w1 ⟨rfl, hb1⟩; obtain ⟨⟨p0, p1, p2, p3⟩, g1, hbw, hsz⟩ := HX.out _ (hb1.mono (by omega)); have q0 : w1.cell? ⟨w.heap.size + 1, 0, none⟩ = _ := g1.cell 0; have q1 : w1.cell? ⟨w.heap.size + 1, 1, none⟩ = _ := g1.cell 1; have q2 : w1.cell? ⟨w.heap.size + 1, 2, none⟩ = _ := g1.cell 2; have q3 : w1.frozen? ⟨w.heap.size + 1, 0, none⟩ = false := g1.frozen 0; have q5 : w1.frozen? ⟨w.heap.size + 1, 1, none⟩ = false := g1.frozen 1; have q6 : w1.frozen? ⟨w.heap.size + 1, 2, none⟩ = false := g1.frozen 2; have q4 : w.heap.size + 1 < w1.heap.size := g1.lt; have G1 := Lib.hid g1; have HB1 := Lib.hid hbw; clear hb1 hbw g1; obtain ⟨d0, d1, d2⟩ := HD0.out _ HB1.out; obtain ⟨d3, d4, d5⟩ := HD1.out _ HB1.out; simp only [Nat.zero_mul, Nat.one_mul, Nat.add_zero] at d0 d1 d2 d3 d4 d5))
    have hne : ¬ b = w.heap.size + 1 := by omega
    have hn0 : ¬ w.heap.size = w.heap.size + 1 := by omega
    have HOC : Hid (∀ wr, Below w1.drew.heap.size w1.drew wr → wr.cell? ⟨w.heap.size, 0, none⟩ = some (.int .i64 16)) := Lib.hid (fun wr h => (h.cell (p := ⟨w.heap.size, 0, none⟩) (by simp; omega)).trans p0)
    go_region_held3 (fun wx => wx.cell? ⟨w.heap.size, 0, none⟩ = some (.int .i64 16) ∧ wx.cell? ⟨b, f, none⟩ = some (.bool y0b) ∧ wx.cell? ⟨b, f + 1, none⟩ = some (.int .i64 y0l) ∧ wx.cell? ⟨b, f + 2, none⟩ = some (.int .i64 y0h) ∧ wx.cell? ⟨b, f + 3, none⟩ = some (.bool y1b) ∧ wx.cell? ⟨b, f + 3 + 1, none⟩ = some (.int .i64 y1l) ∧ wx.cell? ⟨b, f + 3 + 2, none⟩ = some (.int .i64 y1h)) (first | exact ⟨p0, d0, d1, d2, d3, d4, d5⟩ | exact ⟨e6, e0, e1, e2, e3, e4, e5⟩ | exact ⟨(cell3 hn0 _ _ _ _).trans e6, (cell3 hne _ _ _ _).trans e0, (cell3 hne _ _ _ _).trans e1, (cell3 hne _ _ _ _).trans e2, (cell3 hne _ _ _ _).trans e3, (cell3 hne _ _ _ _).trans e4, (cell3 hne _ _ _ _).trans e5⟩ | go_keep) (first
      | (go_at_call 66; (with_reducible refine (HS.out _).mono ?_); rintro e w2 ⟨rfl, hb2⟩; have g2 := Blk.below (w := w1.drew) G1.out hb2 (by simp; omega); have HBx := Lib.hid (HB1.out.drew.trans (hb2.mono (by simp; omega))); have e6 := HOC.out _ hb2; obtain ⟨e0, e1, e2⟩ := HD0.out _ HBx.out; obtain ⟨e3, e4, e5⟩ := HD1.out _ HBx.out; simp only [Nat.zero_mul, Nat.one_mul, Nat.add_zero] at e0 e1 e2 e3 e4 e5; have r0 : w2.cell? ⟨w.heap.size + 1, 0, none⟩ = _ := g2.cell 0; have r1 : w2.cell? ⟨w.heap.size + 1, 1, none⟩ = _ := g2.cell 1; have r2 : w2.cell? ⟨w.heap.size + 1, 2, none⟩ = _ := g2.cell 2; have r3 : w2.frozen? ⟨w.heap.size + 1, 0, none⟩ = false := g2.frozen 0; have r5 : w2.frozen? ⟨w.heap.size + 1, 1, none⟩ = false := g2.frozen 1; have r6 : w2.frozen? ⟨w.heap.size + 1, 2, none⟩ = false := g2.frozen 2; have r4 : w.heap.size + 1 < w2.heap.size := g2.lt; have G2 := Lib.hid g2; have HB2 := Lib.hid (HB1.out.drew.trans (hb2.mono (by simp; omega))); clear hb2 g2))
    go_wp2
    refine bodyPost_ret (res_ty rfl _ _ (w.heap.size + 1) _ _ _ rfl (((G2.out.set_ 0 _).set_ 1 _).set_ 2 _)) rfl ⟨rfl, ?_⟩
    exact below_set (below_set (below_set HB2.out (by omega) _ _) (by omega) _ _) (by omega) _ _
  rw [if_neg (by omega)] at hRs
  by_cases o17 : o = 17
  · subst o17
    rw [if_pos rfl] at hRs
    have hlen : t.ks.length = 2 := f2 rfl
    obtain ⟨b, f, rfl, hbl, hc⟩ := HRR.out.out (by omega)
    obtain ⟨ka, kc, c0, c1, c2, c3, _⟩ := hc 1 (by omega)
    simp only [Nat.one_mul] at c0 c1 c2 c3
    have HD2 : Hid (∀ wr, Below w.heap.size w wr → wr.cell? ⟨b, f + 4, none⟩ = some (.int .i64 (kd t.ks 1).op) ∧ wr.cell? ⟨b, f + 4 + 1, none⟩ = some (.int .i64 (kd t.ks 1).vr) ∧ wr.cell? ⟨b, f + 4 + 2, none⟩ = some (.string (kd t.ks 1).nm) ∧ wr.cell? ⟨b, f + 4 + 3, none⟩ = some (.slice ka (kd t.ks 1).ks.length kc)) := Lib.hid (fun wr h => ⟨(h.cell (p := ⟨b, f + 4, none⟩) hbl).trans c0, (h.cell (p := ⟨b, f + 4 + 1, none⟩) hbl).trans c1, (h.cell (p := ⟨b, f + 4 + 2, none⟩) hbl).trans c2, (h.cell (p := ⟨b, f + 4 + 3, none⟩) hbl).trans c3⟩)
    rw [hlen]
    rw [hlen] at HX HWW
    have hv1 := HV1.out
    have HV2 := Lib.hid hv1
    clear f1 f2 f3 hc c0 c1 c2 c3 hlen HV1 hv1
    generalize (kd t.ks 1).op = o2 at *
    generalize (kd t.ks 1).vr = v2 at *
    generalize (kd t.ks 1).nm = m2 at *
    generalize (kd t.ks 1).ks.length = n2 at *
    by_cases g : o2 = 1 ∧ 0 < v2
    · rw [if_pos g] at hRs
      obtain ⟨rfl, gv⟩ := g
      have hw : wrap64 (v2 - 1) = v2 - 1 := by have := HV2.out; unfold I64 at this; unfold wrap64; omega
      have HS := Lib.hid (fun w => pr_span 0 (v2 - 1) w)
      rw [hRs] at HS
      clear hRs
      obtain ⟨⟨yb, yl, yh⟩, ye⟩ := R
      go_enter Try.func45, Try.ntmps45
      go_wp2_with (first
        | (go_at_call 64; rw [HWW.out]; (with_reducible refine HSU.out.mono ?_); rintro e w1 ⟨rfl, hb1⟩; obtain ⟨⟨p0, p1, p2, p3⟩, g1, hbw, hsz⟩ := HX.out _ (hb1.mono (by omega)); have q0 : w1.cell? ⟨w.heap.size + 1, 0, none⟩ = _ := g1.cell 0; have q1 : w1.cell? ⟨w.heap.size + 1, 1, none⟩ = _ := g1.cell 1; have q2 : w1.cell? ⟨w.heap.size + 1, 2, none⟩ = _ := g1.cell 2; have q3 : w1.frozen? ⟨w.heap.size + 1, 0, none⟩ = false := g1.frozen 0; have q5 : w1.frozen? ⟨w.heap.size + 1, 1, none⟩ = false := g1.frozen 1; have q6 : w1.frozen? ⟨w.heap.size + 1, 2, none⟩ = false := g1.frozen 2; have q4 : w.heap.size + 1 < w1.heap.size := g1.lt; have G1 := Lib.hid g1; have HB1 := Lib.hid hbw; clear hb1 hbw g1; obtain ⟨d0, d1, d2, d3⟩ := HD2.out _ HB1.out)
        | (go_at_call 65; (with_reducible refine (HS.out _).mono ?_); rintro e w2 ⟨rfl, hb2⟩; have g2 := (G1.out.alloc (.cells #[.int .i64 1, .int .i64 v2, .string m2, .slice ka n2 kc] 24)).below hb2 (by simp; omega); have r0 : w2.cell? ⟨w.heap.size + 1, 0, none⟩ = _ := g2.cell 0; have r1 : w2.cell? ⟨w.heap.size + 1, 1, none⟩ = _ := g2.cell 1; have r2 : w2.cell? ⟨w.heap.size + 1, 2, none⟩ = _ := g2.cell 2; have r3 : w2.frozen? ⟨w.heap.size + 1, 0, none⟩ = false := g2.frozen 0; have r5 : w2.frozen? ⟨w.heap.size + 1, 1, none⟩ = false := g2.frozen 1; have r6 : w2.frozen? ⟨w.heap.size + 1, 2, none⟩ = false := g2.frozen 2; have r4 : w.heap.size + 1 < w2.heap.size := g2.lt; have G2 := Lib.hid g2; have HB2 := Lib.hid ((al HB1.out _).trans (hb2.mono (by simp; omega))); clear hb2 g2))
      refine bodyPost_ret (res_ty rfl _ _ (w.heap.size + 1) _ _ _ rfl (((G2.out.set_ 0 _).set_ 1 _).set_ 2 _)) rfl ⟨rfl, ?_⟩
      exact below_set (below_set (below_set HB2.out (by omega) _ _) (by omega) _ _) (by omega) _ _
    · rw [if_neg g] at hRs
      have X := Lib.hid hRs.symm
      rw [X.out]
      clear hRs
      by_cases g1 : o2 = 1
      · subst g1
        have g2 : ¬ 0 < v2 := fun h => g ⟨rfl, h⟩
        clear g
        go_enter Try.func45, Try.ntmps45
        go_wp2_with (first
          | (go_at_call 64; rw [HWW.out]; (with_reducible refine HSU.out.mono ?_); rintro e w1 ⟨rfl, hb1⟩; obtain ⟨⟨p0, p1, p2, p3⟩, g1, hbw, hsz⟩ := HX.out _ (hb1.mono (by omega)); have q0 : w1.cell? ⟨w.heap.size + 1, 0, none⟩ = _ := g1.cell 0; have q1 : w1.cell? ⟨w.heap.size + 1, 1, none⟩ = _ := g1.cell 1; have q2 : w1.cell? ⟨w.heap.size + 1, 2, none⟩ = _ := g1.cell 2; have q3 : w1.frozen? ⟨w.heap.size + 1, 0, none⟩ = false := g1.frozen 0; have q5 : w1.frozen? ⟨w.heap.size + 1, 1, none⟩ = false := g1.frozen 1; have q6 : w1.frozen? ⟨w.heap.size + 1, 2, none⟩ = false := g1.frozen 2; have q4 : w.heap.size + 1 < w1.heap.size := g1.lt; have G1 := Lib.hid g1; have HB1 := Lib.hid hbw; clear hb1 hbw g1; obtain ⟨d0, d1, d2, d3⟩ := HD2.out _ HB1.out))
        refine bodyPost_ret (res_ty rfl _ _ (w.heap.size + 1) _ _ _ rfl ((((G1.out.set_ 0 _).set_ 1 _).set_ 2 _).alloc _)) rfl ⟨rfl, ?_⟩
        exact al (below_set (below_set (below_set HB1.out (by omega) _ _) (by omega) _ _) (by omega) _ _) _
      · have g2 : (o2 == 1) = false := by simp [g1]
        clear g g1
        go_enter Try.func45, Try.ntmps45
        go_wp2_with (first
          | (go_at_call 64; rw [HWW.out]; (with_reducible refine HSU.out.mono ?_); rintro e w1 ⟨rfl, hb1⟩; obtain ⟨⟨p0, p1, p2, p3⟩, g1, hbw, hsz⟩ := HX.out _ (hb1.mono (by omega)); have q0 : w1.cell? ⟨w.heap.size + 1, 0, none⟩ = _ := g1.cell 0; have q1 : w1.cell? ⟨w.heap.size + 1, 1, none⟩ = _ := g1.cell 1; have q2 : w1.cell? ⟨w.heap.size + 1, 2, none⟩ = _ := g1.cell 2; have q3 : w1.frozen? ⟨w.heap.size + 1, 0, none⟩ = false := g1.frozen 0; have q5 : w1.frozen? ⟨w.heap.size + 1, 1, none⟩ = false := g1.frozen 1; have q6 : w1.frozen? ⟨w.heap.size + 1, 2, none⟩ = false := g1.frozen 2; have q4 : w.heap.size + 1 < w1.heap.size := g1.lt; have G1 := Lib.hid g1; have HB1 := Lib.hid hbw; clear hb1 hbw g1; obtain ⟨d0, d1, d2, d3⟩ := HD2.out _ HB1.out))
        refine bodyPost_ret (res_ty rfl _ _ (w.heap.size + 1) _ _ _ rfl ((((G1.out.set_ 0 _).set_ 1 _).set_ 2 _).alloc _)) rfl ⟨rfl, ?_⟩
        exact al (below_set (below_set (below_set HB1.out (by omega) _ _) (by omega) _ _) (by omega) _ _) _
  rw [if_neg o17] at hRs
  by_cases o18 : o = 18
  · subst o18
    rw [if_pos rfl] at hRs
    have hlen : l.length = 3 := f3 rfl
    obtain ⟨b, f, rfl, hbl, hd0⟩ := HD.out 1 (by omega)
    obtain ⟨b', f', e', _, hd1⟩ := HD.out 2 (by omega)
    obtain ⟨rfl, rfl⟩ : b = b' ∧ f = f' := by simpa using e'
    have HD0 := Lib.hid hd0
    have HD1 := Lib.hid hd1
    rw [hlen]
    rw [hlen] at HSU
    clear f1 f2 f3 hd0 hd1 e' hlen
    generalize ty l 1 = y0 at *
    generalize ty l 2 = y1 at *
    obtain ⟨y0b, y0l, y0h⟩ := y0
    obtain ⟨y1b, y1l, y1h⟩ := y1
    dsimp only at hRs
    cases y0b
    · rw [if_neg (by decide)] at hRs
      have HS := Lib.hid (fun w => pr_span (min y0l y1l) (max y0h y1h) w)
      rw [hRs] at HS
      clear hRs
      obtain ⟨⟨yb, yl, yh⟩, ye⟩ := R
      go_enter Try.func45, Try.ntmps45
      go_wp2_with (first
        | (go_at_call 64; rw [HWW.out]; (with_reducible refine HSU.out.mono ?_); rintro e w1 ⟨rfl, hb1⟩; obtain ⟨⟨p0, p1, p2, p3⟩, g1, hbw, hsz⟩ := HX.out _ (hb1.mono (by omega)); have q0 : w1.cell? ⟨w.heap.size + 1, 0, none⟩ = _ := g1.cell 0; have q1 : w1.cell? ⟨w.heap.size + 1, 1, none⟩ = _ := g1.cell 1; have q2 : w1.cell? ⟨w.heap.size + 1, 2, none⟩ = _ := g1.cell 2; have q3 : w1.frozen? ⟨w.heap.size + 1, 0, none⟩ = false := g1.frozen 0; have q5 : w1.frozen? ⟨w.heap.size + 1, 1, none⟩ = false := g1.frozen 1; have q6 : w1.frozen? ⟨w.heap.size + 1, 2, none⟩ = false := g1.frozen 2; have q4 : w.heap.size + 1 < w1.heap.size := g1.lt; have G1 := Lib.hid g1; have HB1 := Lib.hid hbw; clear hb1 hbw g1; obtain ⟨d0, d1, d2⟩ := HD0.out _ HB1.out; obtain ⟨d3, d4, d5⟩ := HD1.out _ HB1.out; simp only [Nat.one_mul, Nat.reduceMul] at d0 d1 d2 d3 d4 d5))
      have hne : ¬ b = w.heap.size + 1 := by omega
      go_region_held3 (fun wx => wx.cell? ⟨b, f + 3 + 1, none⟩ = some (.int .i64 y0l) ∧ wx.cell? ⟨b, f + 3 + 2, none⟩ = some (.int .i64 y0h) ∧ wx.cell? ⟨b, f + 6 + 1, none⟩ = some (.int .i64 y1l) ∧ wx.cell? ⟨b, f + 6 + 2, none⟩ = some (.int .i64 y1h)) (first | exact ⟨d1, d2, d4, d5⟩ | exact ⟨e1, e2, e4, e5⟩ | exact ⟨(cell3 hne _ _ _ _).trans e1, (cell3 hne _ _ _ _).trans e2, (cell3 hne _ _ _ _).trans e4, (cell3 hne _ _ _ _).trans e5⟩ | go_keep) (first
        | (go_at_call 65; (with_reducible refine (HS.out _).mono ?_); rintro e w2 ⟨rfl, hb2⟩; have g2 := Blk.below (w := w1.drew) G1.out hb2 (by simp; omega); have HBx := Lib.hid (HB1.out.drew.trans (hb2.mono (by simp; omega))); obtain ⟨e0, e1, e2⟩ := HD0.out _ HBx.out; obtain ⟨e3, e4, e5⟩ := HD1.out _ HBx.out; simp only [Nat.one_mul, Nat.reduceMul] at e0 e1 e2 e3 e4 e5; have r0 : w2.cell? ⟨w.heap.size + 1, 0, none⟩ = _ := g2.cell 0; have r1 : w2.cell? ⟨w.heap.size + 1, 1, none⟩ = _ := g2.cell 1; have r2 : w2.cell? ⟨w.heap.size + 1, 2, none⟩ = _ := g2.cell 2; have r3 : w2.frozen? ⟨w.heap.size + 1, 0, none⟩ = false := g2.frozen 0; have r5 : w2.frozen? ⟨w.heap.size + 1, 1, none⟩ = false := g2.frozen 1; have r6 : w2.frozen? ⟨w.heap.size + 1, 2, none⟩ = false := g2.frozen 2; have r4 : w.heap.size + 1 < w2.heap.size := g2.lt; have G2 := Lib.hid g2; have HB2 := Lib.hid (HB1.out.drew.trans (hb2.mono (by simp; omega))); clear hb2 g2))
      all_goals
        go_wp2
        refine bodyPost_ret (res_ty rfl _ _ (w.heap.size + 1) _ _ _ rfl (((G2.out.set_ 0 _).set_ 1 _).set_ 2 _)) rfl ⟨rfl, ?_⟩
        exact below_set (below_set (below_set HB2.out (by omega) _ _) (by omega) _ _) (by omega) _ _
    · rw [if_pos rfl] at hRs
      have X := Lib.hid hRs.symm
      rw [X.out]
      clear hRs
      go_enter Try.func45, Try.ntmps45
      go_wp2_with (first
        | (go_at_call 64; rw [HWW.out]; (with_reducible refine HSU.out.mono ?_); rintro e w1 ⟨rfl, hb1⟩; obtain ⟨⟨p0, p1, p2, p3⟩, g1, hbw, hsz⟩ := HX.out _ (hb1.mono (by omega)); have q0 : w1.cell? ⟨w.heap.size + 1, 0, none⟩ = _ := g1.cell 0; have q1 : w1.cell? ⟨w.heap.size + 1, 1, none⟩ = _ := g1.cell 1; have q2 : w1.cell? ⟨w.heap.size + 1, 2, none⟩ = _ := g1.cell 2; have q3 : w1.frozen? ⟨w.heap.size + 1, 0, none⟩ = false := g1.frozen 0; have q5 : w1.frozen? ⟨w.heap.size + 1, 1, none⟩ = false := g1.frozen 1; have q6 : w1.frozen? ⟨w.heap.size + 1, 2, none⟩ = false := g1.frozen 2; have q4 : w.heap.size + 1 < w1.heap.size := g1.lt; have G1 := Lib.hid g1; have HB1 := Lib.hid hbw; clear hb1 hbw g1; obtain ⟨d0, d1, d2⟩ := HD0.out _ HB1.out; simp only [Nat.one_mul] at d0 d1 d2))
      refine bodyPost_ret (res_ty rfl _ _ (w.heap.size + 1) _ _ _ rfl (((G1.out.set_ 0 _).set_ 1 _).set_ 2 _)) rfl ⟨rfl, ?_⟩
      exact below_set (below_set (below_set HB1.out (by omega) _ _) (by omega) _ _) (by omega) _ _
  rw [if_neg o18] at hRs
  have X := Lib.hid hRs.symm
  rw [X.out]
  have e1 : (o == 1) = false := by simp [o1]
  have e14 : (o == 14) = false := by simp [o14]
  have e15 : (o == 15) = false := by simp [o15]
  have e16 : (o == 16) = false := by simp [o16]
  have e17 : (o == 17) = false := by simp [o17]
  have e18 : (o == 18) = false := by simp [o18]
  clear hRs f1 f2 f3 o1 o14 o15 o16 o17 o18
  go_enter Try.func45, Try.ntmps45
  go_wp2_with (first
    | (go_at_call 64; rw [HWW.out]; (with_reducible refine HSU.out.mono ?_); rintro e w1 ⟨rfl, hb1⟩; obtain ⟨⟨p0, p1, p2, p3⟩, g1, hbw, hsz⟩ := HX.out _ (hb1.mono (by omega)); have q0 : w1.cell? ⟨w.heap.size + 1, 0, none⟩ = _ := g1.cell 0; have q1 : w1.cell? ⟨w.heap.size + 1, 1, none⟩ = _ := g1.cell 1; have q2 : w1.cell? ⟨w.heap.size + 1, 2, none⟩ = _ := g1.cell 2; have q3 : w1.frozen? ⟨w.heap.size + 1, 0, none⟩ = false := g1.frozen 0; have q5 : w1.frozen? ⟨w.heap.size + 1, 1, none⟩ = false := g1.frozen 1; have q6 : w1.frozen? ⟨w.heap.size + 1, 2, none⟩ = false := g1.frozen 2; have q4 : w.heap.size + 1 < w1.heap.size := g1.lt; have G1 := Lib.hid g1; have HB1 := Lib.hid hbw; clear hb1 hbw g1))
  refine bodyPost_ret (res_ty rfl _ _ (w.heap.size + 1) _ _ _ rfl (((G1.out.set_ 0 _).set_ 1 _).set_ 2 _)) rfl ⟨rfl, ?_⟩
  exact below_set (below_set (below_set HB1.out (by omega) _ _) (by omega) _ _) (by omega) _ _
end Go.Proofs.Ytcdpjodnbegepaa
