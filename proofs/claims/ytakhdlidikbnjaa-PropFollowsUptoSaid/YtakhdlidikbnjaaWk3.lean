/- PropFollows's walk; layer 6 (prop). -/
import Derived.Test.YtakhdlidikbnjaaFnU
namespace Go.Proofs.Ytakhdlidikbnjaa
open Go.RowKit Go.PlainAid

/-- What the two boxes hold. -/
def Box (G H : Nat) (a : Ex) (Aa : Option Addr) (ca : Nat) (b : Ex) (Ab : Option Addr) (cb : Nat) (wx : World) : Prop :=
  (wx.cell? ⟨G, 0, none⟩ = some (.int .i64 a.op) ∧ wx.cell? ⟨G, 1, none⟩ = some (.int .i64 a.vr) ∧ wx.cell? ⟨G, 2, none⟩ = some (.slice Aa a.ks.length ca)) ∧
  wx.cell? ⟨H, 0, none⟩ = some (.int .i64 b.op) ∧ wx.cell? ⟨H, 1, none⟩ = some (.int .i64 b.vr) ∧ wx.cell? ⟨H, 2, none⟩ = some (.slice Ab b.ks.length cb)
def Wd (a : Ex) (Aa : Option Addr) (b : Ex) (Ab : Option Addr) (L : Option Addr) (l : List Bool) (wx : World) : Prop := Rep wx.heap.size wx Aa a ∧ Rep wx.heap.size wx Ab b ∧ RB wx wx.heap.size L l
theorem Wd.step {a : Ex} {Aa : Option Addr} {b : Ex} {Ab : Option Addr} {L : Option Addr} {l : List Bool} {w w' : World} (h : Wd a Aa b Ab L l w) (hb : Below w.heap.size w w') : Wd a Aa b Ab L l w' :=
  ⟨h.1.step hb, h.2.1.step hb, fun hl => by obtain ⟨g, o, e, h1, h2⟩ := h.2.2 hl; exact ⟨g, o, e, Nat.lt_of_lt_of_le h1 hb.size, fun i hi => (hb.cell (p := ⟨g, o + i, none⟩) h1).trans (h2 i hi)⟩⟩
set_option maxRecDepth 100000 in
set_option maxHeartbeats 8000000 in
theorem propFollows_walk (a : Ex) (Aa : Option Addr) (ca : Nat) (b : Ex) (Ab : Option Addr) (cb : Nat) (L : Option Addr) (cl : Nat) (l : List Bool) (v : Int) (w : World) (hRa : Rep w.heap.size w Aa a) (sa : a.sz ≤ 1048576) (hRb : Rep w.heap.size w Ab b) (sb : b.sz ≤ 1048576)
    (hL : RB w w.heap.size L l) (hll : l.length ≤ maxLen) (hv : (Lit.int .u8 v).wf = true) : Calls Try.prog 6 #[exV a Aa ca, exV b Ab cb, .slice L l.length cl, .int .u8 v] w (RetT w) := by
  obtain ⟨v0, v1⟩ : 0 ≤ v ∧ v ≤ 255 := by simpa [Lit.wf, IntKind.min, IntKind.max, IntKind.signed, IntKind.bits] using hv
  unfold maxLen at hll
  clear hv
  obtain ⟨kv, rfl⟩ : ∃ kv : Nat, v = kv := ⟨v.toNat, by omega⟩
  obtain ⟨W1, hW1⟩ : ∃ W1, w.alloc (.cells (exC a Aa ca) 24) = W1 := ⟨_, rfl⟩
  obtain ⟨W0, hW0⟩ : ∃ W0, W1.alloc (.cells (exC b Ab cb) 24) = W0 := ⟨_, rfl⟩
  have hb1 : Below w.heap.size w W1 := by rw [← hW1]; exact bal _ _
  have hb0 : Below W1.heap.size W1 W0 := by rw [← hW0]; exact bal _ _
  have hz1 : W1.heap.size = w.heap.size + 1 := by rw [← hW1]; simp
  have hk1 : Blk W1 w.heap.size 24 (exC a Aa ca) := by rw [← hW1]; exact Blk.new _ _ _
  have hk2 : Blk W0 (w.heap.size + 1) 24 (exC b Ab cb) := by rw [← hW0, ← hz1]; exact Blk.new _ _ _
  have hU : ∀ wx, Below W0.heap.size W0 wx → Box w.heap.size (w.heap.size + 1) a Aa ca b Ab cb wx ∧ Wd a Aa b Ab L l wx ∧ Below w.heap.size w wx := fun wx hb => by
    have p1 := (hk1.below hb0 hk1.lt).below hb (Nat.lt_of_lt_of_le hk1.lt hb0.size)
    have p2 := hk2.below hb hk2.lt
    have hw := bt hb1 (bt hb0 hb)
    exact ⟨⟨⟨p1.cell 0, p1.cell 1, p1.cell 2⟩, p2.cell 0, p2.cell 1, p2.cell 2⟩, Wd.step ⟨hRa, hRb, hL⟩ hw, hw⟩
  obtain ⟨G, hG⟩ : ∃ G, w.heap.size = G := ⟨_, rfl⟩
  have hGl : G + 1 < W0.heap.size := by rw [← hG, ← hz1, ← hW0]; simp
  have HW : Hid ((w.alloc (.cells (exC a Aa ca) 24)).alloc (.cells (exC b Ab cb) 24) = W0) := Lib.hid (by rw [hW1, hW0])
  have HG := Lib.hid hG
  rw [hG] at hU
  have HU := Lib.hid hU
  obtain ⟨B1, hB1⟩ : ∃ B, lightB a = B := ⟨_, rfl⟩
  obtain ⟨B2, hB2⟩ : ∃ B, lightB b = B := ⟨_, rfl⟩
  obtain ⟨C1, hC1⟩ : ∃ B, chkE a = B := ⟨_, rfl⟩
  obtain ⟨C2, hC2⟩ : ∃ B, chkE b = B := ⟨_, rfl⟩
  obtain ⟨D1, hD1⟩ : ∃ B, (meaS a).2 = B := ⟨_, rfl⟩
  obtain ⟨D2, hD2⟩ : ∃ B, (meaS b).2 = B := ⟨_, rfl⟩
  have P7a : Hid (∀ wx, Below W0.heap.size W0 wx → Calls Try.prog 7 #[.agg #[.int .i64 a.op, .int .i64 a.vr, .slice Aa a.ks.length ca]] wx (ValP wx B1)) := Lib.hid (fun wx hb => by rw [← hB1]; exact law_Light a Aa ca wx (by omega) (hU wx hb).2.1.1)
  have P7b : Hid (∀ wx, Below W0.heap.size W0 wx → Calls Try.prog 7 #[.agg #[.int .i64 b.op, .int .i64 b.vr, .slice Ab b.ks.length cb]] wx (ValP wx B2)) := Lib.hid (fun wx hb => by rw [← hB2]; exact law_Light b Ab cb wx (by omega) (hU wx hb).2.1.2.1)
  have P11a : Hid (∀ wx, Below W0.heap.size W0 wx → Calls Try.prog 11 #[.agg #[.int .i64 a.op, .int .i64 a.vr, .slice Aa a.ks.length ca]] wx fun e w' => e = .returned (.int .i64 C1) ∧ Below wx.heap.size wx w') := Lib.hid (fun wx hb => by rw [← hC1]; exact pr_Check a Aa ca wx (by omega) (hU wx hb).2.1.1)
  have P11b : Hid (∀ wx, Below W0.heap.size W0 wx → Calls Try.prog 11 #[.agg #[.int .i64 b.op, .int .i64 b.vr, .slice Ab b.ks.length cb]] wx fun e w' => e = .returned (.int .i64 C2) ∧ Below wx.heap.size wx w') := Lib.hid (fun wx hb => by rw [← hC2]; exact pr_Check b Ab cb wx (by omega) (hU wx hb).2.1.2.1)
  have P16a : Hid (∀ wx, Below W0.heap.size W0 wx → Calls Try.prog 16 #[.agg #[.int .i64 a.op, .int .i64 a.vr, .slice Aa a.ks.length ca]] wx fun e w' => e = .returned (.int .i64 D1) ∧ Below wx.heap.size wx w') := Lib.hid (fun wx hb => by rw [← hD1]; exact pr_Deep a Aa ca wx (by omega) (hU wx hb).2.1.1)
  have P16b : Hid (∀ wx, Below W0.heap.size W0 wx → Calls Try.prog 16 #[.agg #[.int .i64 b.op, .int .i64 b.vr, .slice Ab b.ks.length cb]] wx fun e w' => e = .returned (.int .i64 D2) ∧ Below wx.heap.size wx w') := Lib.hid (fun wx hb => by rw [← hD2]; exact pr_Deep b Ab cb wx (by omega) (hU wx hb).2.1.2.1)
  have P8 : Hid (∀ wx, Calls Try.prog 8 #[] wx (RetT wx)) := Lib.hid law_lives
  have HM : Hid (B1 = true → B2 = true → C1 = 0 → C2 = 0 → D1 ≤ 60 → D2 ≤ 60 → Fit a ∧ Fit b) := Lib.hid (by
    intro h1 h2 h3 h4 h5 h6
    subst h1 h2 h3 h4
    have f : ∀ t, lightB t = true → chkE t = 0 → (meaS t).2 ≤ 60 → Fit t := fun t h1 h2 h3 => by
      unfold lightB at h1
      simp only [Bool.and_eq_true, decide_eq_true_eq] at h1
      unfold meaS at h3
      rw [if_pos h2] at h3
      refine ⟨shp_of t 1 0 h2, h1.1, by simp at h3; omega⟩
    exact ⟨f a hB1 hC1 (by omega), f b hB2 hC2 (by omega)⟩)
  have HB0 : Hid (Below W0.heap.size W0 W0) := Lib.hid (Below.refl _ _)
  have hor : B1 = false ∨ (B1 = true ∧ B2 = false) ∨ (B1 = true ∧ B2 = true ∧ (100 : Int) < (l.length : Int)) ∨ (B1 = true ∧ B2 = true ∧ ¬ (100 : Int) < (l.length : Int) ∧ (C1 != 0) = true) ∨ (B1 = true ∧ B2 = true ∧ ¬ (100 : Int) < (l.length : Int) ∧ (C1 != 0) = false ∧ (C2 != 0) = true) ∨
      (B1 = true ∧ B2 = true ∧ ¬ (100 : Int) < (l.length : Int) ∧ (C1 != 0) = false ∧ (C2 != 0) = false ∧ 60 < D1) ∨ (B1 = true ∧ B2 = true ∧ ¬ (100 : Int) < (l.length : Int) ∧ (C1 != 0) = false ∧ (C2 != 0) = false ∧ ¬ 60 < D1 ∧ 60 < D2) ∨
      (B1 = true ∧ B2 = true ∧ ¬ (100 : Int) < (l.length : Int) ∧ (C1 != 0) = false ∧ (C2 != 0) = false ∧ ¬ 60 < D1 ∧ ¬ 60 < D2) := by
    cases B1 <;> cases B2 <;> simp <;> omega
  obtain ⟨⟨e0, e1, e2⟩, e3, e4, e5⟩ := (hU W0 (Below.refl _ _)).1
  clear hRa hRb hL hW1 hW0 hb1 hb0 hz1 hk1 hk2 hU hB1 hB2 hC1 hC2 hD1 hD2 sa sb hG
  go_enter Try.func6, Try.ntmps6
  go_upto_region 1 with (fail)
  rw [HW.out, HG.out]
  clear HW
  rcases hor with rfl | ⟨rfl, rfl⟩ | ⟨rfl, rfl, hl⟩ | ⟨rfl, rfl, hl, hc1⟩ | ⟨rfl, rfl, hl, hc1, hc2⟩ | ⟨rfl, rfl, hl, hc1, hc2, hd1⟩ | ⟨rfl, rfl, hl, hc1, hc2, hd1, hd2⟩ | ⟨rfl, rfl, hl, hc1, hc2, hd1, hd2⟩
  case inr.inr.inr.inr.inr.inr.inr =>
    go_upto_region 3 with (first
      | (go_at_call 8; (with_reducible refine (P8.out _).mono ?_); rintro e y8 ⟨rfl, hb⟩; first | (have HE := Lib.hid (bt HC6.out hb)) | (have HE := Lib.hid (bt HC5.out hb)) | (have HE := Lib.hid (bt HC4.out hb)) | (have HE := Lib.hid (bt HC3.out hb)) | (have HE := Lib.hid (bt HC2.out hb)) | (have HE := Lib.hid (bt HC1.out hb)); clear hb)
      | (go_at_call 16; (with_reducible refine (P16b.out _ HC5.out).mono ?_); rintro e y6 ⟨rfl, hb⟩; have HC6 := Lib.hid (bt HC5.out hb); clear hb e0 e1 e2 e3 e4 e5; obtain ⟨⟨e0, e1, e2⟩, e3, e4, e5⟩ := (HU.out _ HC6.out).1)
      | (go_at_call 16; (with_reducible refine (P16a.out _ HC4.out).mono ?_); rintro e y5 ⟨rfl, hb⟩; have HC5 := Lib.hid (bt HC4.out hb); clear hb e0 e1 e2 e3 e4 e5; obtain ⟨⟨e0, e1, e2⟩, e3, e4, e5⟩ := (HU.out _ HC5.out).1)
      | (go_at_call 11; (with_reducible refine (P11b.out _ HC3.out).mono ?_); rintro e y4 ⟨rfl, hb⟩; have HC4 := Lib.hid (bt HC3.out hb); clear hb e0 e1 e2 e3 e4 e5; obtain ⟨⟨e0, e1, e2⟩, e3, e4, e5⟩ := (HU.out _ HC4.out).1)
      | (go_at_call 11; (with_reducible refine (P11a.out _ HC2.out).mono ?_); rintro e y3 ⟨rfl, hb⟩; have HC3 := Lib.hid (bt HC2.out hb); clear hb e0 e1 e2 e3 e4 e5; obtain ⟨⟨e0, e1, e2⟩, e3, e4, e5⟩ := (HU.out _ HC3.out).1)
      | (go_at_call 7; (with_reducible refine (P7b.out _ HC1.out).mono ?_); rintro e y2 ⟨rfl, hb⟩; have HC2 := Lib.hid (bt HC1.out hb); clear hb e0 e1 e2 e3 e4 e5; obtain ⟨⟨e0, e1, e2⟩, e3, e4, e5⟩ := (HU.out _ HC2.out).1)
      | (go_at_call 7; (with_reducible refine (P7a.out _ HB0.out).mono ?_); rintro e y1 ⟨rfl, hb⟩; have HC1 := Lib.hid (bt HB0.out hb); clear hb e0 e1 e2 e3 e4 e5; obtain ⟨⟨e0, e1, e2⟩, e3, e4, e5⟩ := (HU.out _ HC1.out).1))
    obtain ⟨hfa, hfb⟩ := HM.out (by first | rfl | trivial) (by first | rfl | trivial) (by simpa using hc1) (by simpa using hc2) (by omega) (by omega)
    have hl100 : l.length ≤ 100 := by omega
    obtain ⟨x, hx⟩ : ∃ x, val l a = x := ⟨_, rfl⟩
    obtain ⟨y, hy⟩ : ∃ y, val l b = y := ⟨_, rfl⟩
    have fa : shp a ∧ a.dp ≤ 64 ∧ a.sz ≤ 4096 := ⟨hfa.1, by have := hfa.2.2; omega, by have := hfa.2.1; omega⟩
    have fb : shp b ∧ b.dp ≤ 64 ∧ b.sz ≤ 4096 := ⟨hfb.1, by have := hfb.2.2; omega, by have := hfb.2.1; omega⟩
    have Pa : Hid (∀ wx, Below W0.heap.size W0 wx → Calls Try.prog 23 #[.agg #[.int .i64 a.op, .int .i64 a.vr, .slice Aa a.ks.length ca], .slice L l.length cl] wx (ValP wx x)) := Lib.hid (fun wx hb => c_ev a Aa ca L cl l x wx fa hx hl100 (HU.out wx hb).2.1.1 (HU.out wx hb).2.1.2.2)
    have Pb : Hid (∀ wx, Below W0.heap.size W0 wx → Calls Try.prog 23 #[.agg #[.int .i64 b.op, .int .i64 b.vr, .slice Ab b.ks.length cb], .slice L l.length cl] wx (ValP wx y)) := Lib.hid (fun wx hb => c_ev b Ab cb L cl l y wx fb hy hl100 (HU.out wx hb).2.1.2.1 (HU.out wx hb).2.1.2.2)
    have HFA := Lib.hid hfa
    have HFB := Lib.hid hfb
    have HX := Lib.hid hx
    have HY := Lib.hid hy
    have HC6d : Hid (Below W0.heap.size W0 y6.drew) := Lib.hid (HC6.out.drew)
    have HL := Lib.hid hl100
    have HGL := Lib.hid hGl
    clear HM P7a P7b P11a P11b P16a P16b HB0 HC1 HC2 HC3 HC4 HC5 hfa hfb fa fb hx hy hl100 hc1 hc2 hd1 hd2 hl hGl hll
    go_region_held3 (fun wx => (wx.cell? ⟨G, 0, none⟩ = some (.int .i64 a.op) ∧ wx.cell? ⟨G, 1, none⟩ = some (.int .i64 a.vr) ∧ wx.cell? ⟨G, 2, none⟩ = some (.slice Aa a.ks.length ca)) ∧ wx.cell? ⟨G + 1, 0, none⟩ = some (.int .i64 b.op) ∧ wx.cell? ⟨G + 1, 1, none⟩ = some (.int .i64 b.vr) ∧ wx.cell? ⟨G + 1, 2, none⟩ = some (.slice Ab b.ks.length cb)) (first
      | exact (HU.out _ HC8.out).1
      | exact (HU.out _ HC7.out).1
      | exact (HU.out _ HC6d.out).1) (first
      | (go_at_call 23; (with_reducible refine (Pb.out _ HC7.out).mono ?_); rintro e y8 ⟨rfl, hb⟩; have HC8 := Lib.hid (bt HC7.out hb); clear hb)
      | (go_at_call 23; (with_reducible refine (Pa.out _ HC6d.out).mono ?_); rintro e y7 ⟨rfl, hb⟩; have HC7 := Lib.hid (bt HC6d.out hb); clear hb))
    clear e0 e1 e2 e3 e4 e5
    obtain ⟨⟨e0, e1, e2⟩, e3, e4, e5⟩ := (HU.out _ HC8.out).1
    have g1 : G < y8.heap.size := by have := HGL.out; have := HC8.out.size; omega
    have g2 : G + 1 < y8.heap.size := by have := HGL.out; have := HC8.out.size; omega
    go_upto_region 5 with (fail)
    have hv9 := var_of y8 #[.int .i64 a.op, .int .i64 a.vr, .slice Aa a.ks.length ca, .int .i64 b.op, .int .i64 b.vr, .slice Ab b.ks.length cb] 2 8 (.mk 8 0 [a, b]) (two_in 8 a b Aa Ab ca cb y8 (HU.out _ HC8.out).2.1.1 (HU.out _ HC8.out).2.1.2.1)
    obtain ⟨y9, hy9⟩ : ∃ y9, (y8.alloc (.cells #[.int .i64 a.op, .int .i64 a.vr, .slice Aa a.ks.length ca, .int .i64 b.op, .int .i64 b.vr, .slice Ab b.ks.length cb] 24)).alloc (.cells #[.int .i64 8, .int .i64 0, .slice (some ⟨y8.heap.size, 0, none⟩) 2 2] 24) = y9 := ⟨_, rfl⟩
    rw [hy9] at hv9 ⊢
    obtain ⟨N8, hN8⟩ : ∃ N, y8.heap.size = N := ⟨_, rfl⟩
    have HC9 : Hid (Below W0.heap.size W0 y9) := Lib.hid (bt HC8.out hv9.2.1)
    have hk9 := hv9.2.1
    rw [hN8] at hv9 ⊢
    have HV9 := Lib.hid hv9.1
    have HK9 := Lib.hid hk9
    clear hk9 hv9 hy9 hN8 e0 e1 e2 e3 e4 e5 g1 g2
    obtain ⟨⟨e0, e1, e2⟩, e3, e4, e5⟩ := (HU.out _ HC9.out).1
    have g1 : G < y9.heap.size := by have := HGL.out; have := HC9.out.size; omega
    have g2 : G + 1 < y9.heap.size := by have := HGL.out; have := HC9.out.size; omega
    go_upto_region 6 with (fail)
    have hv10 := var_of y9 #[.int .i64 a.op, .int .i64 a.vr, .slice Aa a.ks.length ca, .int .i64 b.op, .int .i64 b.vr, .slice Ab b.ks.length cb] 2 9 (.mk 9 0 [a, b]) (two_in 9 a b Aa Ab ca cb y9 (HU.out _ HC9.out).2.1.1 (HU.out _ HC9.out).2.1.2.1)
    obtain ⟨y10, hy10⟩ : ∃ y10, (y9.alloc (.cells #[.int .i64 a.op, .int .i64 a.vr, .slice Aa a.ks.length ca, .int .i64 b.op, .int .i64 b.vr, .slice Ab b.ks.length cb] 24)).alloc (.cells #[.int .i64 9, .int .i64 0, .slice (some ⟨y9.heap.size, 0, none⟩) 2 2] 24) = y10 := ⟨_, rfl⟩
    rw [hy10] at hv10 ⊢
    obtain ⟨N9, hN9⟩ : ∃ N, y9.heap.size = N := ⟨_, rfl⟩
    have HC10 : Hid (Below W0.heap.size W0 y10) := Lib.hid (bt HC9.out hv10.2.1)
    have hk10 := hv10.2.1
    rw [hN9] at hv10 ⊢
    have HV10 := Lib.hid hv10.1
    have HK10 := Lib.hid hk10
    clear hk10 hv10 hy10 hN9 e0 e1 e2 e3 e4 e5 g1 g2
    obtain ⟨⟨e0, e1, e2⟩, e3, e4, e5⟩ := (HU.out _ HC10.out).1
    have g1 : G < y10.heap.size := by have := HGL.out; have := HC10.out.size; omega
    have g2 : G + 1 < y10.heap.size := by have := HGL.out; have := HC10.out.size; omega
    go_upto_region 7 with (fail)
    have hv11 := var_of y10 #[.int .i64 a.op, .int .i64 a.vr, .slice Aa a.ks.length ca, .int .i64 b.op, .int .i64 b.vr, .slice Ab b.ks.length cb] 2 7 (.mk 7 0 [a, b]) (two_in 7 a b Aa Ab ca cb y10 (HU.out _ HC10.out).2.1.1 (HU.out _ HC10.out).2.1.2.1)
    obtain ⟨y11, hy11⟩ : ∃ y11, (y10.alloc (.cells #[.int .i64 a.op, .int .i64 a.vr, .slice Aa a.ks.length ca, .int .i64 b.op, .int .i64 b.vr, .slice Ab b.ks.length cb] 24)).alloc (.cells #[.int .i64 7, .int .i64 0, .slice (some ⟨y10.heap.size, 0, none⟩) 2 2] 24) = y11 := ⟨_, rfl⟩
    rw [hy11] at hv11 ⊢
    obtain ⟨N10, hN10⟩ : ∃ N, y10.heap.size = N := ⟨_, rfl⟩
    have HC11 : Hid (Below W0.heap.size W0 y11) := Lib.hid (bt HC10.out hv11.2.1)
    have hk11 := hv11.2.1
    rw [hN10] at hv11 ⊢
    have HV11 := Lib.hid hv11.1
    have HK11 := Lib.hid hk11
    clear hk11 hv11 hy11 hN10 e0 e1 e2 e3 e4 e5 g1 g2
    obtain ⟨⟨e0, e1, e2⟩, e3, e4, e5⟩ := (HU.out _ HC11.out).1
    have g1 : G < y11.heap.size := by have := HGL.out; have := HC11.out.size; omega
    have g2 : G + 1 < y11.heap.size := by have := HGL.out; have := HC11.out.size; omega
    go_upto_region 8 with (fail)
    have hv12 := var_of y11 #[.int .i64 a.op, .int .i64 a.vr, .slice Aa a.ks.length ca, .int .i64 b.op, .int .i64 b.vr, .slice Ab b.ks.length cb, .int .i64 b.op, .int .i64 b.vr, .slice Ab b.ks.length cb] 3 10 (.mk 10 0 [a, b, b]) (three_in 10 a b Aa Ab ca cb y11 (HU.out _ HC11.out).2.1.1 (HU.out _ HC11.out).2.1.2.1)
    obtain ⟨y12, hy12⟩ : ∃ y12, (y11.alloc (.cells #[.int .i64 a.op, .int .i64 a.vr, .slice Aa a.ks.length ca, .int .i64 b.op, .int .i64 b.vr, .slice Ab b.ks.length cb, .int .i64 b.op, .int .i64 b.vr, .slice Ab b.ks.length cb] 24)).alloc (.cells #[.int .i64 10, .int .i64 0, .slice (some ⟨y11.heap.size, 0, none⟩) 3 3] 24) = y12 := ⟨_, rfl⟩
    rw [hy12] at hv12 ⊢
    obtain ⟨N11, hN11⟩ : ∃ N, y11.heap.size = N := ⟨_, rfl⟩
    have HC12 : Hid (Below W0.heap.size W0 y12) := Lib.hid (bt HC11.out hv12.2.1)
    have hk12 := hv12.2.1
    rw [hN11] at hv12 ⊢
    have HV12 := Lib.hid hv12.1
    have HK12 := Lib.hid hk12
    clear hk12 hv12 hy12 hN11 e0 e1 e2 e3 e4 e5 g1 g2
    obtain ⟨⟨e0, e1, e2⟩, e3, e4, e5⟩ := (HU.out _ HC12.out).1
    have g1 : G < y12.heap.size := by have := HGL.out; have := HC12.out.size; omega
    have g2 : G + 1 < y12.heap.size := by have := HGL.out; have := HC12.out.size; omega
    have hVV : ∀ wx, Below y12.heap.size y12 wx → (((wx.cell? ⟨G, 0, none⟩ = some (.int .i64 a.op) ∧ wx.cell? ⟨G, 1, none⟩ = some (.int .i64 a.vr) ∧ wx.cell? ⟨G, 2, none⟩ = some (.slice Aa a.ks.length ca)) ∧ wx.cell? ⟨G + 1, 0, none⟩ = some (.int .i64 b.op) ∧ wx.cell? ⟨G + 1, 1, none⟩ = some (.int .i64 b.vr) ∧ wx.cell? ⟨G + 1, 2, none⟩ = some (.slice Ab b.ks.length cb)) ∧ (wx.cell? ⟨N8 + 1, 0, none⟩ = some (.int .i64 8) ∧ wx.cell? ⟨N8 + 1, 1, none⟩ = some (.int .i64 0) ∧ wx.cell? ⟨N8 + 1, 2, none⟩ = some (.slice (some ⟨N8, 0, none⟩) 2 2)) ∧ (wx.cell? ⟨N9 + 1, 0, none⟩ = some (.int .i64 9) ∧ wx.cell? ⟨N9 + 1, 1, none⟩ = some (.int .i64 0) ∧ wx.cell? ⟨N9 + 1, 2, none⟩ = some (.slice (some ⟨N9, 0, none⟩) 2 2)) ∧ (wx.cell? ⟨N10 + 1, 0, none⟩ = some (.int .i64 7) ∧ wx.cell? ⟨N10 + 1, 1, none⟩ = some (.int .i64 0) ∧ wx.cell? ⟨N10 + 1, 2, none⟩ = some (.slice (some ⟨N10, 0, none⟩) 2 2)) ∧ (wx.cell? ⟨N11 + 1, 0, none⟩ = some (.int .i64 10) ∧ wx.cell? ⟨N11 + 1, 1, none⟩ = some (.int .i64 0) ∧ wx.cell? ⟨N11 + 1, 2, none⟩ = some (.slice (some ⟨N11, 0, none⟩) 3 3))) ∧ (Rep wx.heap.size wx (some ⟨N8, 0, none⟩) (.mk 8 0 [a, b]) ∧ Rep wx.heap.size wx (some ⟨N9, 0, none⟩) (.mk 9 0 [a, b]) ∧ Rep wx.heap.size wx (some ⟨N10, 0, none⟩) (.mk 7 0 [a, b]) ∧ Rep wx.heap.size wx (some ⟨N11, 0, none⟩) (.mk 10 0 [a, b, b])) ∧ Wd a Aa b Ab L l wx ∧ Below W0.heap.size W0 wx := fun wx hb => by
      have q := bt HC12.out hb
      have v9 := (((HV9.out.step HK10.out).step HK11.out).step HK12.out).step hb
      have v10 := ((HV10.out.step HK11.out).step HK12.out).step hb
      have v11 := (HV11.out.step HK12.out).step hb
      have v12 := HV12.out.step hb
      exact ⟨⟨(HU.out _ q).1, v9.1, v10.1, v11.1, v12.1⟩, ⟨v9.2.1, v10.2.1, v11.2.1, v12.2.1⟩, (HU.out _ q).2.1, q⟩
    have HVV := Lib.hid hVV
    have Pnot : Hid (∀ wx, Below y12.heap.size y12 wx → Calls Try.prog 20 #[.agg #[.int .i64 a.op, .int .i64 a.vr, .slice Aa a.ks.length ca]] wx (MadeP wx (.mk 4 0 [a]) 1 4)) := Lib.hid (fun wx hb => c_not a Aa ca wx (by have := HFA.out.2.1; omega) (hVV wx hb).2.2.1.1)
    have Pand : Hid (∀ wx, Below y12.heap.size y12 wx → Calls Try.prog 17 #[.slice (some ⟨wx.heap.size, 0, none⟩) 2 2] (wx.alloc (.cells #[.int .i64 a.op, .int .i64 a.vr, .slice Aa a.ks.length ca, .int .i64 b.op, .int .i64 b.vr, .slice Ab b.ks.length cb] 24)) (MadeP wx (.mk 5 0 [a, b]) 2 5)) := Lib.hid (fun wx hb => c_and a b Aa Ab ca cb wx (hVV wx hb).2.2.1.1 (hVV wx hb).2.2.1.2.1 (by have := HFA.out.2.1; omega) (by have := HFB.out.2.1; omega))
    have Por : Hid (∀ wx, Below y12.heap.size y12 wx → Calls Try.prog 18 #[.slice (some ⟨wx.heap.size, 0, none⟩) 2 2] (wx.alloc (.cells #[.int .i64 a.op, .int .i64 a.vr, .slice Aa a.ks.length ca, .int .i64 b.op, .int .i64 b.vr, .slice Ab b.ks.length cb] 24)) (MadeP wx (.mk 6 0 [a, b]) 2 6)) := Lib.hid (fun wx hb => c_or a b Aa Ab ca cb wx (hVV wx hb).2.2.1.1 (hVV wx hb).2.2.1.2.1 (by have := HFA.out.2.1; omega) (by have := HFB.out.2.1; omega))
    have Pnor : Hid (∀ wx A c, Below y12.heap.size y12 wx → Rep wx.heap.size wx A (.mk 4 0 [a]) → Calls Try.prog 18 #[.slice (some ⟨wx.heap.size, 0, none⟩) 2 2] (wx.alloc (.cells #[.int .i64 4, .int .i64 0, .slice A 1 c, .int .i64 b.op, .int .i64 b.vr, .slice Ab b.ks.length cb] 24)) (MadeP wx (.mk 6 0 [.mk 4 0 [a], b]) 2 6)) := Lib.hid (fun wx A c hb hr => c_or (.mk 4 0 [a]) b A Ab c cb wx hr (hVV wx hb).2.2.1.2.1 (by have := HFA.out.not.2.2; omega) (by have := HFB.out.2.1; omega))
    have hn4 : shp (.mk 4 0 [a]) ∧ (Ex.mk 4 0 [a]).dp ≤ 64 ∧ (Ex.mk 4 0 [a]).sz ≤ 4096 := ⟨HFA.out.not.1, by have := HFA.out.not.2.1; omega, by have := HFA.out.not.2.2; omega⟩
    have Pen : Hid (∀ wx (A : Option Addr) (c : Nat), Below y12.heap.size y12 wx → Rep wx.heap.size wx A (.mk 4 0 [a]) → Calls Try.prog 23 #[.agg #[.int .i64 4, .int .i64 0, .slice A 1 c], .slice L l.length cl] wx (ValP wx (!x))) := Lib.hid (fun wx A c hb hr => c_ev (.mk 4 0 [a]) A c L cl l _ wx hn4 (by rw [val_not, HX.out]) HL.out hr (hVV wx hb).2.2.1.2.2)
    have Pea : Hid (∀ wx (A : Option Addr) (c : Nat), Below y12.heap.size y12 wx → Rep wx.heap.size wx A (.mk 5 0 [a, b]) → Calls Try.prog 23 #[.agg #[.int .i64 5, .int .i64 0, .slice A 2 c], .slice L l.length cl] wx (ValP wx (x && y))) := Lib.hid (fun wx A c hb hr => c_ev (.mk 5 0 [a, b]) A c L cl l _ wx (two_fit (.inl rfl) HFA.out.up HFB.out) (by rw [val_and, HX.out, HY.out]) HL.out hr (hVV wx hb).2.2.1.2.2)
    have Peo : Hid (∀ wx (A : Option Addr) (c : Nat), Below y12.heap.size y12 wx → Rep wx.heap.size wx A (.mk 6 0 [a, b]) → Calls Try.prog 23 #[.agg #[.int .i64 6, .int .i64 0, .slice A 2 c], .slice L l.length cl] wx (ValP wx (x || y))) := Lib.hid (fun wx A c hb hr => c_ev (.mk 6 0 [a, b]) A c L cl l _ wx (two_fit (.inr (.inl rfl)) HFA.out.up HFB.out) (by rw [val_or, HX.out, HY.out]) HL.out hr (hVV wx hb).2.2.1.2.2)
    have Peno : Hid (∀ wx (A : Option Addr) (c : Nat), Below y12.heap.size y12 wx → Rep wx.heap.size wx A (.mk 6 0 [.mk 4 0 [a], b]) → Calls Try.prog 23 #[.agg #[.int .i64 6, .int .i64 0, .slice A 2 c], .slice L l.length cl] wx (ValP wx (!x || y))) := Lib.hid (fun wx A c hb hr => c_ev (.mk 6 0 [.mk 4 0 [a], b]) A c L cl l _ wx (two_fit (.inr (.inl rfl)) HFA.out.not HFB.out) (by rw [val_or, val_not, HX.out, HY.out]) HL.out hr (hVV wx hb).2.2.1.2.2)
    have Peimp : Hid (∀ wx, Below y12.heap.size y12 wx → Calls Try.prog 23 #[.agg #[.int .i64 8, .int .i64 0, .slice (some ⟨N8, 0, none⟩) 2 2], .slice L l.length cl] wx (ValP wx (!x || y))) := Lib.hid (fun wx hb => c_ev (.mk 8 0 [a, b]) (some ⟨N8, 0, none⟩) 2 L cl l _ wx (two_fit (.inr (.inr (.inr (.inl rfl)))) HFA.out.up HFB.out) (by rw [val_imp, HX.out, HY.out]) HL.out (hVV wx hb).2.1.1 (hVV wx hb).2.2.1.2.2)
    have Peiff : Hid (∀ wx, Below y12.heap.size y12 wx → Calls Try.prog 23 #[.agg #[.int .i64 9, .int .i64 0, .slice (some ⟨N9, 0, none⟩) 2 2], .slice L l.length cl] wx (ValP wx (x == y))) := Lib.hid (fun wx hb => c_ev (.mk 9 0 [a, b]) (some ⟨N9, 0, none⟩) 2 L cl l _ wx (two_fit (.inr (.inr (.inr (.inr rfl)))) HFA.out.up HFB.out) (by rw [val_iff, HX.out, HY.out]) HL.out (hVV wx hb).2.1.2.1 (hVV wx hb).2.2.1.2.2)
    have Pexor : Hid (∀ wx, Below y12.heap.size y12 wx → Calls Try.prog 23 #[.agg #[.int .i64 7, .int .i64 0, .slice (some ⟨N10, 0, none⟩) 2 2], .slice L l.length cl] wx (ValP wx (x != y))) := Lib.hid (fun wx hb => c_ev (.mk 7 0 [a, b]) (some ⟨N10, 0, none⟩) 2 L cl l _ wx (two_fit (.inr (.inr (.inl rfl))) HFA.out.up HFB.out) (by rw [val_xor, HX.out, HY.out]) HL.out (hVV wx hb).2.1.2.2.1 (hVV wx hb).2.2.1.2.2)
    have Peite : Hid (∀ wx, Below y12.heap.size y12 wx → Calls Try.prog 23 #[.agg #[.int .i64 10, .int .i64 0, .slice (some ⟨N11, 0, none⟩) 3 3], .slice L l.length cl] wx (ValP wx (y))) := Lib.hid (fun wx hb => c_ev (.mk 10 0 [a, b, b]) (some ⟨N11, 0, none⟩) 3 L cl l _ wx (ite_fit HFA.out HFB.out) (by rw [val_ite, HY.out]) HL.out (hVV wx hb).2.1.2.2.2 (hVV wx hb).2.2.1.2.2)
    have HD0 : Hid (Below y12.heap.size y12 y12) := Lib.hid (Below.refl _ _)
    clear hVV hn4 Pa Pb HC7 HC8 HC9 HC10 HC11 HK9 HK10 HK11 HK12 HV9 HV10 HV11 HV12 HFB HY g1 g2
    have Pflip : Hid (∀ wx g cap b, ¬ (kv : Int) ∈ varS a → Below y12.heap.size y12 wx → RB wx wx.heap.size (some ⟨g, 0, none⟩) (l.set kv b) → Calls Try.prog 23 #[.agg #[.int .i64 a.op, .int .i64 a.vr, .slice Aa a.ks.length ca], .slice (some ⟨g, 0, none⟩) l.length cap] wx (ValP wx x)) := Lib.hid (fun wx g cap b hm hb hr => by
      have fa : shp a ∧ a.dp ≤ 64 ∧ a.sz ≤ 4096 := ⟨HFA.out.1, by have := HFA.out.2.2; omega, by have := HFA.out.2.1; omega⟩
      have hck : chkE a = 0 := chkE_ok fa.1 fa.2.1 fa.2.2
      have h := c_ev a Aa ca (some ⟨g, 0, none⟩) cap (l.set kv b) x wx fa (by rw [val_flip l (l.set kv b) (by simp) kv (flip_get l kv b) a fa.1 (fun e => hm ((mem_varS hck _).2 e)), HX.out]) (by rw [List.length_set]; exact HL.out) (HVV.out wx hb).2.2.1.1 hr
      rwa [List.length_set] at h)
    have P13 : Hid (∀ wx, Below y12.heap.size y12 wx → Calls Try.prog 13 #[.agg #[.int .i64 a.op, .int .i64 a.vr, .slice Aa a.ks.length ca]] wx (Gives wx (varS a))) := Lib.hid (fun wx hb => pr_Vars a Aa ca wx (by have := HFA.out.2.1; omega) (HVV.out wx hb).2.2.1.1)
    obtain ⟨M, hM⟩ : ∃ M, decide ((kv : Int) ∈ varS a) = M := ⟨_, rfl⟩
    have hvs : (varS a).length ≤ 1000000 := by have := HFA.out.2.1; unfold varS; have q := vrs_le a; have q2 := set_le (vrs a); split <;> simp <;> omega
    have P24 : Hid (∀ wx A c, RI wx wx.heap.size A (varS a) → Calls Try.prog 24 #[.slice A (varS a).length c, .int .i64 kv] wx fun e w' => e = .returned (.bool M) ∧ wx = w') := Lib.hid (fun wx A c hr => by rw [← hM]; exact ref_Has A c (varS a) kv wx hr (by omega))
    have HMM := Lib.hid hM
    clear hM hvs
    generalize varS a = vs at *
    cases x <;> cases y
    all_goals
      go_upto_region 10 with (first
      | (go_at_call 23; (with_reducible refine (Peo.out z5 A5 c5 HD5.out HR5.out).mono ?_); rintro e z6 ⟨rfl, hb⟩; have HD6 := Lib.hid (bt HD5.out hb); clear hb e0 e1 e2 e3 e4 e5; obtain ⟨⟨e0, e1, e2⟩, e3, e4, e5⟩ := (HVV.out _ HD6.out).1.1)
      | (go_at_call 18; (with_reducible refine (Por.out z4 HD4.out).mono ?_); rintro e z5 ⟨A5, c5, rfl, hr, hb⟩; have HD5 := Lib.hid (bt HD4.out hb); have HR5 := Lib.hid hr; clear hr; clear hb e0 e1 e2 e3 e4 e5; obtain ⟨⟨e0, e1, e2⟩, e3, e4, e5⟩ := (HVV.out _ HD5.out).1.1)
      | (go_at_call 23; (with_reducible refine (Pea.out z3 A3 c3 HD3.out HR3.out).mono ?_); rintro e z4 ⟨rfl, hb⟩; have HD4 := Lib.hid (bt HD3.out hb); clear hb e0 e1 e2 e3 e4 e5; obtain ⟨⟨e0, e1, e2⟩, e3, e4, e5⟩ := (HVV.out _ HD4.out).1.1)
      | (go_at_call 17; (with_reducible refine (Pand.out z2 HD2.out).mono ?_); rintro e z3 ⟨A3, c3, rfl, hr, hb⟩; have HD3 := Lib.hid (bt HD2.out hb); have HR3 := Lib.hid hr; clear hr; clear hb e0 e1 e2 e3 e4 e5; obtain ⟨⟨e0, e1, e2⟩, e3, e4, e5⟩ := (HVV.out _ HD3.out).1.1)
      | (go_at_call 23; (with_reducible refine (Pen.out z1 A1 c1 HD1.out HR1.out).mono ?_); rintro e z2 ⟨rfl, hb⟩; have HD2 := Lib.hid (bt HD1.out hb); clear hb e0 e1 e2 e3 e4 e5; obtain ⟨⟨e0, e1, e2⟩, e3, e4, e5⟩ := (HVV.out _ HD2.out).1.1)
      | (go_at_call 20; (with_reducible refine (Pnot.out y12 HD0.out).mono ?_); rintro e z1 ⟨A1, c1, rfl, hr, hb⟩; have HD1 := Lib.hid (bt HD0.out hb); have HR1 := Lib.hid hr; clear hr; clear hb e0 e1 e2 e3 e4 e5; obtain ⟨⟨e0, e1, e2⟩, e3, e4, e5⟩ := (HVV.out _ HD1.out).1.1))
      have HD6d := Lib.hid (HD6.out.drew)
      go_region_held3 (fun wx => ((wx.cell? ⟨G, 0, none⟩ = some (.int .i64 a.op) ∧ wx.cell? ⟨G, 1, none⟩ = some (.int .i64 a.vr) ∧ wx.cell? ⟨G, 2, none⟩ = some (.slice Aa a.ks.length ca)) ∧ wx.cell? ⟨G + 1, 0, none⟩ = some (.int .i64 b.op) ∧ wx.cell? ⟨G + 1, 1, none⟩ = some (.int .i64 b.vr) ∧ wx.cell? ⟨G + 1, 2, none⟩ = some (.slice Ab b.ks.length cb)) ∧ (wx.cell? ⟨N8 + 1, 0, none⟩ = some (.int .i64 8) ∧ wx.cell? ⟨N8 + 1, 1, none⟩ = some (.int .i64 0) ∧ wx.cell? ⟨N8 + 1, 2, none⟩ = some (.slice (some ⟨N8, 0, none⟩) 2 2)) ∧ (wx.cell? ⟨N9 + 1, 0, none⟩ = some (.int .i64 9) ∧ wx.cell? ⟨N9 + 1, 1, none⟩ = some (.int .i64 0) ∧ wx.cell? ⟨N9 + 1, 2, none⟩ = some (.slice (some ⟨N9, 0, none⟩) 2 2)) ∧ (wx.cell? ⟨N10 + 1, 0, none⟩ = some (.int .i64 7) ∧ wx.cell? ⟨N10 + 1, 1, none⟩ = some (.int .i64 0) ∧ wx.cell? ⟨N10 + 1, 2, none⟩ = some (.slice (some ⟨N10, 0, none⟩) 2 2)) ∧ (wx.cell? ⟨N11 + 1, 0, none⟩ = some (.int .i64 10) ∧ wx.cell? ⟨N11 + 1, 1, none⟩ = some (.int .i64 0) ∧ wx.cell? ⟨N11 + 1, 2, none⟩ = some (.slice (some ⟨N11, 0, none⟩) 3 3))) (first
        | exact (HVV.out _ HU7.out).1
        | exact (HVV.out _ HU6.out).1
        | exact (HVV.out _ HU5.out).1
        | exact (HVV.out _ HU4.out).1
        | exact (HVV.out _ HU3.out).1
        | exact (HVV.out _ HU2.out).1
        | exact (HVV.out _ (bt HU2.out (bal _ _))).1
        | exact (HVV.out _ HU1.out).1
        | exact (HVV.out _ HD6d.out).1) (first
        | (go_at_call 23; (with_reducible refine (Peite.out u6 HU6.out).mono ?_); rintro e u7 ⟨rfl, hb⟩; have HU7 := Lib.hid (bt HU6.out hb); clear hb)
        | (go_at_call 23; (with_reducible refine (Pexor.out u5 HU5.out).mono ?_); rintro e u6 ⟨rfl, hb⟩; have HU6 := Lib.hid (bt HU5.out hb); clear hb)
        | (go_at_call 23; (with_reducible refine (Peiff.out u4 HU4.out).mono ?_); rintro e u5 ⟨rfl, hb⟩; have HU5 := Lib.hid (bt HU4.out hb); clear hb)
        | (go_at_call 23; (with_reducible refine (Peno.out u3 Ax cx HU3.out HRx.out).mono ?_); rintro e u4 ⟨rfl, hb⟩; have HU4 := Lib.hid (bt HU3.out hb); clear hb)
        | (go_at_call 18; (with_reducible refine (Pnor.out u2 An cn HU2.out HRn.out).mono ?_); rintro e u3 ⟨Ax, cx, rfl, hr, hb⟩; have HU3 := Lib.hid (bt HU2.out hb); have HRx := Lib.hid hr; clear hr hb)
        | (go_at_call 20; (with_reducible refine (Pnot.out u1 HU1.out).mono ?_); rintro e u2 ⟨An, cn, rfl, hr, hb⟩; have HU2 := Lib.hid (bt HU1.out hb); have HRn := Lib.hid hr; clear hr hb)
        | (go_at_call 23; (with_reducible refine (Peimp.out z6.drew HD6d.out).mono ?_); rintro e u1 ⟨rfl, hb⟩; have HU1 := Lib.hid (bt HD6d.out hb); clear hb))
      clear e0 e1 e2 e3 e4 e5 HD6d HU1 HU2 HU3 HU4 HU5 HU6 HRx HRn Pnot Pand Por Pnor Pen Pea Peo Peno Peimp Peiff Pexor Peite
      obtain ⟨⟨e0, e1, e2⟩, e3, e4, e5⟩ := (HVV.out _ HU7.out).1.1
      by_cases hvl : (kv : Int) < (l.length : Int)
      · cases M
        · have hnm : ¬ (kv : Int) ∈ vs := by have := HMM.out; simpa using this
          have hpl : 0 < l.length := by omega
          obtain ⟨gl, ol, rfl, hgl, hcl⟩ := (HVV.out _ HU7.out).2.2.1.2.2 hpl
          have HNM := Lib.hid hnm
          clear hnm hgl hcl
          go_upto_region 15 with (first
            | (at_builtin; refine wpList_copy_bools rfl _ _ rfl u8 l gl ol cl rfl rfl (HVV.out _ HU8.out).2.2.1.2.2 hpl (by have := HL.out; omega) ?_; intro g9 cap9 cur9 u9 hB9 ht9 hg9 hb9; have HB9 := Lib.hid hB9; have HT9 := Lib.hid ht9; have HG9 := Lib.hid hg9; have HU9 := Lib.hid hb9; clear hB9 ht9 hg9 hb9)
            | (go_at_call 24; (with_reducible refine (P24.out u8 A8 c8 HI8.out).mono ?_); rintro e u8' ⟨rfl, rfl⟩)
            | (go_at_call 13; (with_reducible refine (P13.out u7 HU7.out).mono ?_); rintro e u8 ⟨A8, c8, rfl, hri, _, hb⟩; have HI8 := Lib.hid hri; have HU8 := Lib.hid (bt HU7.out hb); clear hri hb))
          have hkl : kv < l.length := by omega
          have d0 := row_at HB9.out HT9.out hkl
          have d1 := HB9.out.frozen kv
          have d2 := HB9.out.lt
          have hkv0 : (0 : Int) ≤ (kv : Int) := by omega
          have HS9 := Lib.hid (set_rb HB9.out HT9.out hkl (!(lb l kv)))
          have hb10 : Below u8.heap.size u8 (u9.setCell ⟨g9, kv, none⟩ (.bool (!(lb l kv)))) := HU9.out.setCell HG9.out _
          have HU10 := Lib.hid (bt HU8.out hb10)
          clear hb10
          generalize lb l kv = q9 at *
          go_upto_region 16 with (fail)
          generalize u9.setCell ⟨g9, kv, none⟩ (.bool (!q9)) = u10 at *
          clear d0 d1 d2 e0 e1 e2 e3 e4 e5
          obtain ⟨⟨e0, e1, e2⟩, e3, e4, e5⟩ := (HVV.out _ HU10.out).1.1
          go_wp2_with (first
            | (go_at_call 8; (with_reducible refine (P8.out _).mono ?_); rintro e v9 ⟨rfl, hb⟩; have HE := Lib.hid (bt HU11.out hb); clear hb)
            | (go_at_call 23; (with_reducible refine (Pflip.out u10 g9 cap9 _ HNM.out HU10.out HS9.out).mono ?_); rintro e u11 ⟨rfl, hb⟩; have HU11 := Lib.hid (bt HU10.out hb); clear hb))
          go_ret
          exact ⟨rfl, by rw [HG.out]; exact (HU.out _ (HVV.out _ HE.out).2.2.2).2.2⟩
        · go_wp2_with (first
            | (go_at_call 8; (with_reducible refine (P8.out _).mono ?_); rintro e v9 ⟨rfl, hb⟩; first | (have HE := Lib.hid (bt HU8.out hb)) | (have HE := Lib.hid (bt HU7.out hb)); clear hb)
            | (go_at_call 24; (with_reducible refine (P24.out u8 A8 c8 HI8.out).mono ?_); rintro e u8' ⟨rfl, rfl⟩)
            | (go_at_call 13; (with_reducible refine (P13.out u7 HU7.out).mono ?_); rintro e u8 ⟨A8, c8, rfl, hri, _, hb⟩; have HI8 := Lib.hid hri; have HU8 := Lib.hid (bt HU7.out hb); clear hri hb))
          go_ret
          exact ⟨rfl, by rw [HG.out]; exact (HU.out _ (HVV.out _ HE.out).2.2.2).2.2⟩
      · go_wp2_with (first
            | (go_at_call 8; (with_reducible refine (P8.out _).mono ?_); rintro e v9 ⟨rfl, hb⟩; first | (have HE := Lib.hid (bt HU8.out hb)) | (have HE := Lib.hid (bt HU7.out hb)); clear hb)
            | (go_at_call 24; (with_reducible refine (P24.out u8 A8 c8 HI8.out).mono ?_); rintro e u8' ⟨rfl, rfl⟩)
            | (go_at_call 13; (with_reducible refine (P13.out u7 HU7.out).mono ?_); rintro e u8 ⟨A8, c8, rfl, hri, _, hb⟩; have HI8 := Lib.hid hri; have HU8 := Lib.hid (bt HU7.out hb); clear hri hb))
        go_ret
        exact ⟨rfl, by rw [HG.out]; exact (HU.out _ (HVV.out _ HE.out).2.2.2).2.2⟩
  all_goals
    go_wp2_with (first
      | (go_at_call 8; (with_reducible refine (P8.out _).mono ?_); rintro e y8 ⟨rfl, hb⟩; first | (have HE := Lib.hid (bt HC6.out hb)) | (have HE := Lib.hid (bt HC5.out hb)) | (have HE := Lib.hid (bt HC4.out hb)) | (have HE := Lib.hid (bt HC3.out hb)) | (have HE := Lib.hid (bt HC2.out hb)) | (have HE := Lib.hid (bt HC1.out hb)); clear hb)
      | (go_at_call 16; (with_reducible refine (P16b.out _ HC5.out).mono ?_); rintro e y6 ⟨rfl, hb⟩; have HC6 := Lib.hid (bt HC5.out hb); clear hb e0 e1 e2 e3 e4 e5; obtain ⟨⟨e0, e1, e2⟩, e3, e4, e5⟩ := (HU.out _ HC6.out).1)
      | (go_at_call 16; (with_reducible refine (P16a.out _ HC4.out).mono ?_); rintro e y5 ⟨rfl, hb⟩; have HC5 := Lib.hid (bt HC4.out hb); clear hb e0 e1 e2 e3 e4 e5; obtain ⟨⟨e0, e1, e2⟩, e3, e4, e5⟩ := (HU.out _ HC5.out).1)
      | (go_at_call 11; (with_reducible refine (P11b.out _ HC3.out).mono ?_); rintro e y4 ⟨rfl, hb⟩; have HC4 := Lib.hid (bt HC3.out hb); clear hb e0 e1 e2 e3 e4 e5; obtain ⟨⟨e0, e1, e2⟩, e3, e4, e5⟩ := (HU.out _ HC4.out).1)
      | (go_at_call 11; (with_reducible refine (P11a.out _ HC2.out).mono ?_); rintro e y3 ⟨rfl, hb⟩; have HC3 := Lib.hid (bt HC2.out hb); clear hb e0 e1 e2 e3 e4 e5; obtain ⟨⟨e0, e1, e2⟩, e3, e4, e5⟩ := (HU.out _ HC3.out).1)
      | (go_at_call 7; (with_reducible refine (P7b.out _ HC1.out).mono ?_); rintro e y2 ⟨rfl, hb⟩; have HC2 := Lib.hid (bt HC1.out hb); clear hb e0 e1 e2 e3 e4 e5; obtain ⟨⟨e0, e1, e2⟩, e3, e4, e5⟩ := (HU.out _ HC2.out).1)
      | (go_at_call 7; (with_reducible refine (P7a.out _ HB0.out).mono ?_); rintro e y1 ⟨rfl, hb⟩; have HC1 := Lib.hid (bt HB0.out hb); clear hb e0 e1 e2 e3 e4 e5; obtain ⟨⟨e0, e1, e2⟩, e3, e4, e5⟩ := (HU.out _ HC1.out).1))
    go_ret
    exact ⟨rfl, by rw [HG.out]; exact (HU.out _ HE.out).2.2⟩
end Go.Proofs.Ytakhdlidikbnjaa
