/- PtextBack's walk; layer 7 (ptext). -/
import Derived.Test.YtipapemcedkinaaWk1
import Derived.Test.YtipapemcedkinaaM2
namespace Go.Proofs.Ytipapemcedkinaa
open Go.RowKit Go.PlainAid

set_option maxRecDepth 100000 in
set_option maxHeartbeats 8000000 in
theorem ptextBack_walk (t : Ex) (A : Option Addr) (c : Nat) (s : ByteArray) (w : World) (hR : Rep w.heap.size w A t) (hs : t.sz ≤ 1048576) (hl : s.size ≤ maxLen) : Calls Try.prog 5 #[exV t A c, .string s] w fun e w' => e = .returned (.bool true) ∧ Below w.heap.size w w' := by
  have hls : s.size ≤ 9223372036854775807 := by unfold maxLen at hl; omega
  clear hl
  have HL := Lib.hid l_lives
  obtain ⟨W0, hW0⟩ : ∃ W, w.alloc (.cells (exC t A c) 25) = W := ⟨_, rfl⟩
  obtain ⟨hb0, _, hR0, hx0⟩ := box_new (Below.refl _ _) hR hW0
  have hW1 : w.alloc (.cells #[.int .i64 t.op, .int .i64 t.vr, .slice A t.ks.length c] 25) = W0 := hW0
  have HB0 := Lib.hid hb0
  have HX0 := Lib.hid hx0
  have HR0 := Lib.hid hR0
  have HPT := Lib.hid (l_parts t.sz t (Nat.le_refl _) (by omega) A c 400 W0 (by omega) (by omega) hR0)
  have HSH0 := Lib.hid (fun w2 (h : Below W0.heap.size W0 w2) => p_Show t A c w2 (by omega) (hR0.step h))
  have hS := fun B d w2 h2 h3 => rf_Same t.sz t (Nat.le_refl _) (by omega) t (by omega) B A d c w2 h2 h3
  rw [sm_refl] at hS
  have HS := Lib.hid hS
  have HPS := Lib.hid (fun w2 => p_Parse s w2 hls)
  have hyz := parsR_sz s
  have hys := shw_pars (s := s)
  have HSY : Hid ((parsR s).2.2 = 0 → ∀ A5 c5 w5, Rep w5.heap.size w5 A5 (parsR s).1 → Calls Try.prog 12 #[exV (parsR s).1 A5 c5] w5 (ShP (intsOf s, 0) w5)) := Lib.hid (fun h A5 c5 w5 h5 => by
    have h1 := p_Show (parsR s).1 A5 c5 w5 (by omega) h5
    rwa [hys h] at h1)
  generalize parsR s = R2 at *
  obtain ⟨y, a2, e2⟩ := R2
  unfold ShP at HSY
  simp only [strOf_ints] at HSY
  obtain ⟨x, hx⟩ : ∃ x, prt t 400 = x := ⟨_, rfl⟩
  rw [hx] at HPT
  obtain ⟨z0, z1, z2, z3, _, _, _⟩ := box_cells hx0
  have HPB : Hid (chkE t = 0 → shwR t = (txt t, 0) ∧ parsR (strOfNums (txt t)) = (t, ((txt t).length : Int), 0) ∧ ((strOfNums (txt t)).size : Int) = ((txt t).length : Int)) := Lib.hid (fun h => ⟨by unfold shwR; rw [if_pos h], pars_txt h, by rw [strOfNums_size]⟩)
  have HPN : Hid (chkE t ≠ 0 → shwR t = ([], chkE t)) := Lib.hid (fun h => by unfold shwR; rw [if_neg h])
  have HTL : Hid (chkE t = 0 → (strOfNums (txt t)).size ≤ 9223372036854775807) := Lib.hid (fun h => by have h1 := txt_len t (chkE_shp h); have h2 := chkE_sz h; rw [strOfNums_size]; omega)
  clear hW0 hb0 hR0 hx0 hR hs hx hS hyz hys
  by_cases h4 : 400 < x
  · go_enter Try.func5, Try.ntmps5
    go_wp2_with (first
      | (go_at_call 7; (refine (HL.out _).mono ?_); rintro e w2 ⟨rfl, hb2⟩)
      | (go_at_call 11; (refine HPT.out.mono ?_); rintro e w1 ⟨rfl, hb1⟩; have HB1 := Lib.hid (HB0.out.trans (hb1.mono HB0.out.size)); clear hb1))
    go_ret
    exact ⟨rfl, HB1.out.trans (hb2.mono HB1.out.size)⟩
  · by_cases h5 : 3000 < s.size
    · have g5 : (3000 : Int) < (s.size : Int) := by omega
      go_enter Try.func5, Try.ntmps5
      go_wp2_with (first
        | (go_at_call 7; (refine (HL.out _).mono ?_); rintro e w2 ⟨rfl, hb2⟩)
        | (go_at_call 11; (refine HPT.out.mono ?_); rintro e w1 ⟨rfl, hb1⟩; have HB1 := Lib.hid (HB0.out.trans (hb1.mono HB0.out.size)); clear hb1))
      go_ret
      exact ⟨rfl, HB1.out.trans (hb2.mono HB1.out.size)⟩
    · have g5 : ¬ (3000 : Int) < (s.size : Int) := by omega
      by_cases hc : chkE t = 0
      · obtain ⟨k1, k2, k3⟩ := HPB.out hc
        have htl := HTL.out hc
        have HPP := Lib.hid (fun w2 => p_Parse (strOfNums (txt t)) w2 htl)
        rw [k1] at HSH0
        rw [k2] at HPP
        unfold ShP at HSH0
        simp only [] at HSH0
        generalize strOfNums (txt t) = T at *
        generalize ((txt t).length : Int) = n at *
        have k4 : ((T.size : Int) == n) = true := by simp [k3]
        have k5 : (n != (T.size : Int)) = false := by simp [k3]
        clear HPB HPN HTL k1 k2 hc
        go_enter Try.func5, Try.ntmps5
        go_upto_region 3 with (go_at_call 11; (refine HPT.out.mono ?_); rintro e w1 ⟨rfl, hb1⟩; have HB1 := Lib.hid hb1; clear hb1)
        have hx1 := HX0.out.below HB1.out HX0.out.lt
        clear z0 z1 z2 z3
        obtain ⟨z0, z1, z2, z3, _, _, _⟩ := box_cells hx1
        clear hx1
        go_upto_region 5 with (go_at_call 12; (refine (HSH0.out _ HB1.out).mono ?_); rintro e w2 ⟨rfl, hb2⟩; have HB2 := Lib.hid (HB1.out.trans (hb2.mono HB1.out.size)); clear hb2)
        go_upto_region 6 with (go_at_call 8; (refine (HPP.out _).mono ?_); rintro e w3 ⟨B, d, rfl, hb3, hR3⟩; have HB3 := Lib.hid (HB2.out.trans (hb3.mono HB2.out.size)); have HR3 := Lib.hid hR3; clear hb3 hR3)
        obtain ⟨W4, hW4⟩ : ∃ W, w3.alloc (.cells (exC t B d) 25) = W := ⟨_, rfl⟩
        obtain ⟨hb4, _, hR4, hx4⟩ := box_new HB3.out HR3.out hW4
        have hw4 : w3.alloc (.cells #[.int .i64 t.op, .int .i64 t.vr, .slice B t.ks.length d] 25) = W4 := hW4
        try rw [hw4]
        have hx04 := HX0.out.below hb4 HX0.out.lt
        clear z0 z1 z2 z3
        obtain ⟨z0, z1, z2, z3, _, _, _⟩ := box_cells hx04
        obtain ⟨y0, y1, y2, y3, _, _, _⟩ := box_cells hx4
        have HB4 := Lib.hid hb4
        have HCS := Lib.hid (HS.out B d W4 hR4 (HR0.out.step hb4))
        clear hW4 hw4 hb4 hR4 hx4 hx04
        go_upto_region 8 with (go_at_call 10; (refine HCS.out.mono ?_); rintro e w4 ⟨rfl, hb5⟩; have HBR := Lib.hid (HB0.out.trans ((HB4.out.trans (hb5.mono HB4.out.size)).mono HB0.out.size)); clear hb5)
        clear z0 z1 z2 z3 y0 y1 y2 y3
        go_upto_region 9 with (go_at_call 8; (refine (HPS.out _).mono ?_); rintro e w5 ⟨A5, c5, rfl, hb5, hR5⟩; have HB5 := Lib.hid (HBR.out.trans (hb5.mono HBR.out.size)); have HR5 := Lib.hid hR5; clear hb5 hR5)
        obtain ⟨W6, hW6⟩ : ∃ W, w5.alloc (.cells (exC y A5 c5) 25) = W := ⟨_, rfl⟩
        obtain ⟨hb6, _, hR6, hx6⟩ := box_new HB5.out HR5.out hW6
        have hw6 : w5.alloc (.cells #[.int .i64 y.op, .int .i64 y.vr, .slice A5 y.ks.length c5] 25) = W6 := hW6
        try rw [hw6]
        have hb56 := hb6
        obtain ⟨y0, y1, y2, y3, _, _, _⟩ := box_cells hx6
        have HB6 := Lib.hid hb6
        have HR6 := Lib.hid hR6
        clear hW6 hw6 hb6 hb56 hR6 hx6
        by_cases he2 : e2 = 0
        · have e2b : (e2 != 0) = false := by simp [he2]
          have HSH := Lib.hid (HSY.out he2 A5 c5 W6 HR6.out)
          unfold ShP at HSH
          have hss : (s.toList == s.toList) = true := by simp
          go_wp2_with (first
            | (go_at_call 7; (refine (HL.out _).mono ?_); rintro e w8 ⟨rfl, hb8⟩)
            | (go_at_call 12; (refine HSH.out.mono ?_); rintro e w7 ⟨rfl, hb7⟩; have HB7 := Lib.hid (HB6.out.trans (hb7.mono HB6.out.size)); clear hb7))
          go_ret
          exact ⟨rfl, HB7.out.trans (hb8.mono HB7.out.size)⟩
        · have e2b : (e2 != 0) = true := by simp [he2]
          go_wp2_with (go_at_call 7; (refine (HL.out _).mono ?_); rintro e w8 ⟨rfl, hb8⟩)
          go_ret
          exact ⟨rfl, HB6.out.trans (hb8.mono HB6.out.size)⟩
      · have k1 := HPN.out hc
        rw [k1] at HSH0
        unfold ShP at HSH0
        simp only [] at HSH0
        have hcb : (chkE t == 0) = false := by simp [hc]
        generalize chkE t = ck at *
        clear HPB HPN HTL k1 hc
        go_enter Try.func5, Try.ntmps5
        go_upto_region 3 with (go_at_call 11; (refine HPT.out.mono ?_); rintro e w1 ⟨rfl, hb1⟩; have HB1 := Lib.hid hb1; clear hb1)
        have hx1 := HX0.out.below HB1.out HX0.out.lt
        clear z0 z1 z2 z3
        obtain ⟨z0, z1, z2, z3, _, _, _⟩ := box_cells hx1
        clear hx1
        go_upto_region 8 with (go_at_call 12; (refine (HSH0.out _ HB1.out).mono ?_); rintro e w2 ⟨rfl, hb2⟩; have HBR := Lib.hid (HB0.out.trans ((HB1.out.trans (hb2.mono HB1.out.size)).mono HB0.out.size)); clear hb2)
        clear z0 z1 z2 z3
        go_upto_region 9 with (go_at_call 8; (refine (HPS.out _).mono ?_); rintro e w5 ⟨A5, c5, rfl, hb5, hR5⟩; have HB5 := Lib.hid (HBR.out.trans (hb5.mono HBR.out.size)); have HR5 := Lib.hid hR5; clear hb5 hR5)
        obtain ⟨W6, hW6⟩ : ∃ W, w5.alloc (.cells (exC y A5 c5) 25) = W := ⟨_, rfl⟩
        obtain ⟨hb6, _, hR6, hx6⟩ := box_new HB5.out HR5.out hW6
        have hw6 : w5.alloc (.cells #[.int .i64 y.op, .int .i64 y.vr, .slice A5 y.ks.length c5] 25) = W6 := hW6
        try rw [hw6]
        have hb56 := hb6
        obtain ⟨y0, y1, y2, y3, _, _, _⟩ := box_cells hx6
        have HB6 := Lib.hid hb6
        have HR6 := Lib.hid hR6
        clear hW6 hw6 hb6 hb56 hR6 hx6
        by_cases he2 : e2 = 0
        · have e2b : (e2 != 0) = false := by simp [he2]
          have HSH := Lib.hid (HSY.out he2 A5 c5 W6 HR6.out)
          unfold ShP at HSH
          have hss : (s.toList == s.toList) = true := by simp
          go_wp2_with (first
            | (go_at_call 7; (refine (HL.out _).mono ?_); rintro e w8 ⟨rfl, hb8⟩)
            | (go_at_call 12; (refine HSH.out.mono ?_); rintro e w7 ⟨rfl, hb7⟩; have HB7 := Lib.hid (HB6.out.trans (hb7.mono HB6.out.size)); clear hb7))
          go_ret
          exact ⟨rfl, HB7.out.trans (hb8.mono HB7.out.size)⟩
        · have e2b : (e2 != 0) = true := by simp [he2]
          go_wp2_with (go_at_call 7; (refine (HL.out _).mono ?_); rintro e w8 ⟨rfl, hb8⟩)
          go_ret
          exact ⟨rfl, HB6.out.trans (hb8.mono HB6.out.size)⟩
end Go.Proofs.Ytipapemcedkinaa
