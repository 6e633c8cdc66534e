/- PtextReads's and PtextShows's walks; layer 7 (ptext). -/
import Derived.Test.YtipapemcedkinaaL1
import Derived.Test.YtipapemcedkinaaFnX
namespace Go.Proofs.Ytipapemcedkinaa
open Go.RowKit Go.PlainAid

theorem parsR_sz (s : ByteArray) : (parsR s).1.sz ≤ 70000 := by
  have h0 : ex0.sz = 1 := rfl
  unfold parsR
  by_cases h : 65536 < s.size
  · rw [if_pos h]; show ex0.sz ≤ _; omega
  · rw [if_neg h]
    have hin := (xr_in s (2 * s.size + 2)).1 0 (Nat.zero_le _)
    cases hX : exprF s (2 * s.size + 2) 0 with
    | bad a => show ex0.sz ≤ _; omega
    | ok t a =>
      rw [hX] at hin
      have h1 := hin.2.1
      have h2 := hin.2.2
      show (if a < s.size then (ex0, (a : Int), (3 : Int)) else if chkE t = 0 then (t, (s.size : Int), 0) else (ex0, 0, chkE t)).1.sz ≤ _
      (repeat' split) <;> (simp only []; omega)
/-- An expression in a box of the call's own. -/
theorem box_new {w w1 : World} {t : Ex} {A : Option Addr} {c : Nat} (hb : Below w.heap.size w w1) (hR : Rep w1.heap.size w1 A t) {W : World} (hW : w1.alloc (.cells (exC t A c) 25) = W) :
    Below w.heap.size w W ∧ Below w1.heap.size w1 W ∧ Rep W.heap.size W A t ∧ Blk W w1.heap.size 25 (exC t A c) := by
  subst hW
  exact ⟨al hb _, balw _ _, hR.step (balw _ _), Blk.new _ _ _⟩
set_option maxRecDepth 100000 in
set_option maxHeartbeats 4000000 in
theorem ptextReads_walk (s : ByteArray) (w : World) (hl : s.size ≤ maxLen) : Calls Try.prog 3 #[.string s] w fun e w' => e = .returned (.bool true) ∧ Below w.heap.size w w' := by
  have hs : s.size ≤ 9223372036854775807 := by unfold maxLen at hl; omega
  clear hl
  have HL := Lib.hid l_lives
  by_cases h1 : 3000 < s.size ∧ s.size ≤ 65536
  · have g1 : (3000 : Int) < (s.size : Int) := by omega
    have g2 : (s.size : Int) ≤ 65536 := by omega
    go_enter Try.func3, Try.ntmps3
    go_wp2_with (go_at_call 7; (refine (HL.out _).mono ?_); rintro e w1 ⟨rfl, hb⟩)
    go_ret
    exact ⟨rfl, hb⟩
  · have hfork : ¬ 3000 < s.size ∨ (3000 < s.size ∧ ¬ s.size ≤ 65536) := by omega
    have HP := Lib.hid (p_Parse s w hs)
    have HQ := Lib.hid (fun w2 => r_Parse s w2 hs)
    have hz := parsR_sz s
    generalize parsR s = R at *
    obtain ⟨t, a, e⟩ := R
    have hz : t.sz ≤ 70000 := hz
    have hS := fun A B c d w2 h2 h3 => rf_Same t.sz t (Nat.le_refl _) (by omega) t (by omega) A B c d w2 h2 h3
    rw [sm_refl] at hS
    have HS := Lib.hid hS
    clear hS h1
    rcases hfork with hf | ⟨hf, hg⟩
    · have g1 : ¬ (3000 : Int) < (s.size : Int) := by omega
      go_enter Try.func3, Try.ntmps3
      go_upto_region 4 with (go_at_call 8; (refine HP.out.mono ?_); rintro e w1 ⟨A, c, rfl, hb1, hR1⟩; have HB1 := Lib.hid hb1; have HR1 := Lib.hid hR1; clear hb1 hR1)
      obtain ⟨W2, hW2⟩ : ∃ W, w1.alloc (.cells (exC t A c) 25) = W := ⟨_, rfl⟩
      obtain ⟨hb2, h12, hR2, hx2⟩ := box_new HB1.out HR1.out hW2
      have hw2 : w1.alloc (.cells #[.int .i64 t.op, .int .i64 t.vr, .slice A t.ks.length c] 25) = W2 := hW2
      try rw [hw2]
      have HB2 := Lib.hid hb2
      have HR2 := Lib.hid hR2
      have HX2 := Lib.hid hx2
      clear hW2 hb2 h12 hR2 hx2
      go_upto_region 5 with (go_at_call 9; (refine (HQ.out _).mono ?_); rintro e w3 ⟨B, d, rfl, hb3, hR3⟩; have HB3 := Lib.hid hb3; have HR3 := Lib.hid hR3; clear hb3 hR3)
      clear hw2
      obtain ⟨W4, hW4⟩ : ∃ W, w3.alloc (.cells (exC t B d) 25) = W := ⟨_, rfl⟩
      obtain ⟨hb4, h34, hR4, hx4⟩ := box_new HB3.out HR3.out hW4
      have hw4 : w3.alloc (.cells #[.int .i64 t.op, .int .i64 t.vr, .slice B t.ks.length d] 25) = W4 := hW4
      try rw [hw4]
      have hx24 := HX2.out.below hb4 HX2.out.lt
      obtain ⟨z0, z1, z2, z3, _, _, _⟩ := box_cells hx24
      obtain ⟨y0, y1, y2, y3, _, _, _⟩ := box_cells hx4
      have HB4 := Lib.hid (HB2.out.trans (hb4.mono HB2.out.size))
      have HCS := Lib.hid (HS.out A B c d W4 (HR2.out.step hb4) hR4)
      clear hW4 hw4 hb4 h34 hR4 hx4 hx24
      go_wp2_with (first
        | (go_at_call 7; (refine (HL.out _).mono ?_); rintro e w6 ⟨rfl, hb6⟩)
        | (go_at_call 10; (refine HCS.out.mono ?_); rintro e w5 ⟨rfl, hb5⟩; have HB5 := Lib.hid (HB4.out.trans (hb5.mono HB4.out.size)); clear hb5))
      go_ret
      exact ⟨rfl, HB5.out.trans (hb6.mono HB5.out.size)⟩
    · have g1 : (3000 : Int) < (s.size : Int) := by omega
      have g2 : ¬ (s.size : Int) ≤ 65536 := by omega
      go_enter Try.func3, Try.ntmps3
      go_upto_region 4 with (go_at_call 8; (refine HP.out.mono ?_); rintro e w1 ⟨A, c, rfl, hb1, hR1⟩; have HB1 := Lib.hid hb1; have HR1 := Lib.hid hR1; clear hb1 hR1)
      obtain ⟨W2, hW2⟩ : ∃ W, w1.alloc (.cells (exC t A c) 25) = W := ⟨_, rfl⟩
      obtain ⟨hb2, h12, hR2, hx2⟩ := box_new HB1.out HR1.out hW2
      have hw2 : w1.alloc (.cells #[.int .i64 t.op, .int .i64 t.vr, .slice A t.ks.length c] 25) = W2 := hW2
      try rw [hw2]
      have HB2 := Lib.hid hb2
      have HR2 := Lib.hid hR2
      have HX2 := Lib.hid hx2
      clear hW2 hb2 h12 hR2 hx2
      go_upto_region 5 with (go_at_call 9; (refine (HQ.out _).mono ?_); rintro e w3 ⟨B, d, rfl, hb3, hR3⟩; have HB3 := Lib.hid hb3; have HR3 := Lib.hid hR3; clear hb3 hR3)
      clear hw2
      obtain ⟨W4, hW4⟩ : ∃ W, w3.alloc (.cells (exC t B d) 25) = W := ⟨_, rfl⟩
      obtain ⟨hb4, h34, hR4, hx4⟩ := box_new HB3.out HR3.out hW4
      have hw4 : w3.alloc (.cells #[.int .i64 t.op, .int .i64 t.vr, .slice B t.ks.length d] 25) = W4 := hW4
      try rw [hw4]
      have hx24 := HX2.out.below hb4 HX2.out.lt
      obtain ⟨z0, z1, z2, z3, _, _, _⟩ := box_cells hx24
      obtain ⟨y0, y1, y2, y3, _, _, _⟩ := box_cells hx4
      have HB4 := Lib.hid (HB2.out.trans (hb4.mono HB2.out.size))
      have HCS := Lib.hid (HS.out A B c d W4 (HR2.out.step hb4) hR4)
      clear hW4 hw4 hb4 h34 hR4 hx4 hx24
      go_wp2_with (first
        | (go_at_call 7; (refine (HL.out _).mono ?_); rintro e w6 ⟨rfl, hb6⟩)
        | (go_at_call 10; (refine HCS.out.mono ?_); rintro e w5 ⟨rfl, hb5⟩; have HB5 := Lib.hid (HB4.out.trans (hb5.mono HB4.out.size)); clear hb5))
      go_ret
      exact ⟨rfl, HB5.out.trans (hb6.mono HB5.out.size)⟩
set_option maxRecDepth 100000 in
set_option maxHeartbeats 4000000 in
theorem ptextShows_walk (t : Ex) (A : Option Addr) (c : Nat) (w : World) (hR : Rep w.heap.size w A t) (hs : t.sz ≤ 1048576) : Calls Try.prog 4 #[exV t A c] w fun e w' => e = .returned (.bool true) ∧ Below w.heap.size w w' := by
  have HL := Lib.hid l_lives
  obtain ⟨W0, hW0⟩ : ∃ W, w.alloc (.cells (exC t A c) 25) = W := ⟨_, rfl⟩
  obtain ⟨hb0, _, hR0, hx0⟩ := box_new (Below.refl _ _) hR hW0
  have hW1 : w.alloc (.cells #[.int .i64 t.op, .int .i64 t.vr, .slice A t.ks.length c] 25) = W0 := hW0
  have HB0 := Lib.hid hb0
  have HX0 := Lib.hid hx0
  have HR0 := Lib.hid hR0
  have HPT := Lib.hid (l_parts t.sz t (Nat.le_refl _) (by omega) A c 400 W0 (by omega) (by omega) hR0)
  have HSH := Lib.hid (fun w2 (h : Below W0.heap.size W0 w2) => p_Show t A c w2 (by omega) (hR0.step h))
  have HSR := Lib.hid (fun w2 (h : Below W0.heap.size W0 w2) => r_Show t A c w2 (by omega) (hR0.step h))
  obtain ⟨x, hx⟩ : ∃ x, prt t 400 = x := ⟨_, rfl⟩
  rw [hx] at HPT
  obtain ⟨R, hRR⟩ : ∃ R, shwR t = R := ⟨_, rfl⟩
  rw [hRR] at HSH HSR
  obtain ⟨S, e0⟩ := R
  unfold ShP at HSH HSR
  obtain ⟨T, hT⟩ : ∃ T, strOfNums S = T := ⟨_, rfl⟩
  simp only [hT] at HSH HSR
  have hTT : (T.toList == T.toList) = true := by simp
  obtain ⟨z0, z1, z2, z3, _, _, _⟩ := box_cells hx0
  clear hW0 hb0 hR0 hx0 hR hs hx hRR hT
  by_cases h4 : 400 < x
  · go_enter Try.func4, Try.ntmps4
    go_wp2_with (first
      | (go_at_call 7; (refine (HL.out _).mono ?_); rintro e w2 ⟨rfl, hb2⟩)
      | (go_at_call 11; (refine HPT.out.mono ?_); rintro e w1 ⟨rfl, hb1⟩; have HB1 := Lib.hid (HB0.out.trans (hb1.mono HB0.out.size)); clear hb1))
    go_ret
    exact ⟨rfl, HB1.out.trans (hb2.mono HB1.out.size)⟩
  · go_enter Try.func4, Try.ntmps4
    go_upto_region 3 with (go_at_call 11; (refine HPT.out.mono ?_); rintro e w1 ⟨rfl, hb1⟩; have HB1 := Lib.hid hb1; clear hb1)
    have hx1 := HX0.out.below HB1.out HX0.out.lt
    clear z0 z1 z2 z3
    obtain ⟨z0, z1, z2, z3, _, _, _⟩ := box_cells hx1
    clear hx1
    go_upto_region 4 with (go_at_call 12; (refine (HSH.out _ HB1.out).mono ?_); rintro e w2 ⟨rfl, hb2⟩; have HB2 := Lib.hid (HB1.out.trans (hb2.mono HB1.out.size)); clear hb2)
    have hx1 := HX0.out.below HB2.out HX0.out.lt
    clear z0 z1 z2 z3
    obtain ⟨z0, z1, z2, z3, _, _, _⟩ := box_cells hx1
    clear hx1
    go_wp2_with (first
      | (go_at_call 7; (refine (HL.out _).mono ?_); rintro e w6 ⟨rfl, hb6⟩)
      | (go_at_call 13; (refine (HSR.out _ HB2.out).mono ?_); rintro e w3 ⟨rfl, hb3⟩; have HB3 := Lib.hid (HB0.out.trans ((HB2.out.trans (hb3.mono HB2.out.size)).mono HB0.out.size)); clear hb3))
    go_ret
    exact ⟨rfl, HB3.out.trans (hb6.mono HB3.out.size)⟩
end Go.Proofs.Ytipapemcedkinaa
