/- PtextPlace's walk; layer 7 (ptext). -/
import Derived.Test.YtipapemcedkinaaWk1
import Derived.Test.YtipapemcedkinaaM3
import Derived.Deep.RegionLaw
namespace Go.Proofs.Ytipapemcedkinaa
open Go.RowKit Go.PlainAid

theorem parsR_place (s : ByteArray) : ∃ a : Nat, (parsR s).2.1 = (a : Int) ∧ a ≤ s.size := by
  unfold parsR
  by_cases h : 65536 < s.size
  · rw [if_pos h]; exact ⟨0, rfl, Nat.zero_le _⟩
  · rw [if_neg h]
    have hin := (xr_in s (2 * s.size + 2)).1 0 (Nat.zero_le _)
    cases hX : exprF s (2 * s.size + 2) 0 with
    | bad a => rw [hX] at hin; exact ⟨a, rfl, hin⟩
    | ok t a =>
      rw [hX] at hin
      show ∃ b : Nat, (if a < s.size then (ex0, (a : Int), (3 : Int)) else if chkE t = 0 then (t, (s.size : Int), 0) else (ex0, 0, chkE t)).2.1 = (b : Int) ∧ b ≤ s.size
      by_cases h1 : a < s.size
      · rw [if_pos h1]; exact ⟨a, rfl, by omega⟩
      · rw [if_neg h1]
        by_cases h2 : chkE t = 0
        · rw [if_pos h2]; exact ⟨s.size, rfl, Nat.le_refl _⟩
        · rw [if_neg h2]; exact ⟨0, rfl, Nat.zero_le _⟩
theorem bt_app_left {x y : ByteArray} {i : Nat} (h : i < x.size) : Go.PlainAid.bt (x ++ y) i = Go.PlainAid.bt x i := by
  unfold Go.PlainAid.bt
  rw [dif_pos (by rw [ByteArray.size_append]; omega), dif_pos h]
  rw [ByteArray.getElem_append_left h]
theorem bt_app_right {x y : ByteArray} {i : Nat} (h : i < y.size) : Go.PlainAid.bt (x ++ y) (x.size + i) = Go.PlainAid.bt y i := by
  unfold Go.PlainAid.bt
  rw [dif_pos (by rw [ByteArray.size_append]; omega), dif_pos h]
  rw [ByteArray.getElem_append_right (by omega)]
  simp
theorem box_keep {w w5 : World} (h : Below (w.alloc (.cells #[.int .i64 0, .int .i64 0, .slice none 0 0] 25)).heap.size (w.alloc (.cells #[.int .i64 0, .int .i64 0, .slice none 0 0] 25)) w5) : Blk w5 w.heap.size 25 #[.int .i64 0, .int .i64 0, .slice none 0 0] :=
  (Blk.new w 25 _).below h (by simp)
theorem box_keep2 {w w5 : World} (h : Below (w.alloc (.cells #[.int .i64 0, .int .i64 0, .slice none 0 0] 25)).drew.heap.size (w.alloc (.cells #[.int .i64 0, .int .i64 0, .slice none 0 0] 25)).drew w5) : Blk w5 w.heap.size 25 #[.int .i64 0, .int .i64 0, .slice none 0 0] :=
  (show Blk (w.alloc (.cells #[.int .i64 0, .int .i64 0, .slice none 0 0] 25)).drew w.heap.size 25 _ from Blk.new w 25 _).below h (by show w.heap.size < (w.alloc _).heap.size; simp)
set_option maxRecDepth 100000 in
set_option maxHeartbeats 8000000 in
theorem ptextPlace_walk (s : ByteArray) (tl : ByteArray) (w : World) (hl : s.size ≤ maxLen) (hl2 : tl.size ≤ maxLen) : Calls Try.prog 6 #[.string s, .string tl] w fun e w' => e = .returned (.bool true) ∧ Below w.heap.size w w' := by
  have hls : s.size ≤ 9223372036854775807 := by unfold maxLen at hl; omega
  have hls2 : tl.size ≤ 9223372036854775807 := by unfold maxLen at hl2; omega
  clear hl hl2
  have HL := Lib.hid l_lives
  by_cases h1 : 1000 < s.size
  · have g1 : (1000 : Int) < (s.size : Int) := by omega
    go_enter Try.func6, Try.ntmps6
    go_wp2_with (go_at_call 7; (refine (HL.out _).mono ?_); rintro e w2 ⟨rfl, hb2⟩)
    go_ret
    exact ⟨rfl, hb2⟩
  have g1 : ¬ (1000 : Int) < (s.size : Int) := by omega
  by_cases h2 : 1000 < tl.size
  · have g2 : (1000 : Int) < (tl.size : Int) := by omega
    go_enter Try.func6, Try.ntmps6
    go_wp2_with (go_at_call 7; (refine (HL.out _).mono ?_); rintro e w2 ⟨rfl, hb2⟩)
    go_ret
    exact ⟨rfl, hb2⟩
  have g2 : ¬ (1000 : Int) < (tl.size : Int) := by omega
  obtain ⟨a, hpa, hal⟩ := parsR_place s
  have HP := Lib.hid (p_Parse s w hls)
  have hst : (parsR s).2.2 = 3 → 0 < a → a < s.size → ((parsR (s.extract 0 a ++ s.extract a (a + 1) ++ tl)).2 = ((a : Int), 3) ∧ ((parsR (s.extract 0 a)).2.2 ≠ 3 ∨ (parsR (s.extract 0 a)).2.1 = (a : Int) ∨ (parsR (s.extract 0 a)).2.1 = 0)) := fun h3 h4 h5 => by
    have z1 : (s.extract 0 a).size = a := by rw [ByteArray.size_extract]; omega
    have z2 : (s.extract a (a + 1)).size = 1 := by rw [ByteArray.size_extract]; omega
    refine place_same (by omega) (by rw [ByteArray.size_append, ByteArray.size_append]; omega) h3 hpa h4 h5 (fun i hi => ?_) (by rw [ByteArray.size_append, ByteArray.size_append]; omega) (fun i hi => ?_) z1
    · rw [bt_app_left (by rw [ByteArray.size_append]; omega)]
      rcases Nat.lt_or_ge i a with hi2 | hi2
      · rw [bt_app_left (by omega), bt_sub (by omega) (by omega), Nat.zero_add]
      · obtain rfl : i = a := by omega
        have h6 : Go.PlainAid.bt (s.extract 0 i ++ s.extract i (i + 1)) i = Go.PlainAid.bt (s.extract i (i + 1)) 0 := by
          have h := bt_app_right (x := s.extract 0 i) (y := s.extract i (i + 1)) (i := 0) (by omega)
          rw [z1] at h
          exact h
        rw [h6, bt_sub (by omega) (by omega), Nat.add_zero]
    · rw [bt_sub (by omega) (by omega), Nat.zero_add]
  have HST := Lib.hid hst
  clear hst
  obtain ⟨R, hR⟩ : ∃ R, parsR s = R := ⟨_, rfl⟩
  rw [hR] at HP HST hpa
  obtain ⟨t, a', e0⟩ := R
  have hpa : a' = (a : Int) := hpa
  subst hpa
  have HST2 : Hid (e0 = 3 → 0 < a → a < s.size → _) := HST
  clear hR HST
  by_cases he : e0 = 3
  · by_cases h0 : a = 0
    · have c1 : (e0 != 3) = false := by simp [he]
      have c2 : ((a : Int) == 0) = true := by simp [h0]
      clear HST2 he h0
      go_enter Try.func6, Try.ntmps6
      go_wp2_with (first
        | (go_at_call 7; (refine (HL.out _).mono ?_); rintro e w2 ⟨rfl, hb2⟩)
        | (go_at_call 8; (refine HP.out.mono ?_); rintro e w1 ⟨A, c, rfl, hb1, hR1⟩; have HB1 := Lib.hid (al hb1 (.cells (exC t A c) 25)); clear hb1 hR1))
      go_ret
      exact ⟨rfl, HB1.out.trans (hb2.mono HB1.out.size)⟩
    · by_cases h5 : a = s.size
      · have c1 : (e0 != 3) = false := by simp [he]
        have c2 : ((a : Int) == 0) = false := by simp; omega
        have c3 : ((a : Int) == (s.size : Int)) = true := by simp [h5]
        clear HST2 he h0 h5
        go_enter Try.func6, Try.ntmps6
        go_wp2_with (first
          | (go_at_call 7; (refine (HL.out _).mono ?_); rintro e w2 ⟨rfl, hb2⟩)
          | (go_at_call 8; (refine HP.out.mono ?_); rintro e w1 ⟨A, c, rfl, hb1, hR1⟩; have HB1 := Lib.hid (al hb1 (.cells (exC t A c) 25)); clear hb1 hR1))
        go_ret
        exact ⟨rfl, HB1.out.trans (hb2.mono HB1.out.size)⟩
      · have c1 : (e0 != 3) = false := by simp [he]
        have c2 : ((a : Int) == 0) = false := by simp; omega
        have c3 : ((a : Int) == (s.size : Int)) = false := by simp; omega
        have z1 : (s.extract 0 a).size = a := by rw [ByteArray.size_extract]; omega
        have z2 : (s.extract a (a + 1)).size = 1 := by rw [ByteArray.size_extract]; omega
        have hs3 : (s.extract 0 a ++ s.extract a (a + 1) ++ tl).size ≤ 9223372036854775807 := by rw [ByteArray.size_append, ByteArray.size_append]; omega
        have HQ1 := Lib.hid (fun w2 => p_Parse (s.extract 0 a ++ s.extract a (a + 1) ++ tl) w2 hs3)
        have HQ2 := Lib.hid (fun w2 => p_Parse (s.extract 0 a) w2 (by omega))
        obtain ⟨hq1, hq2⟩ := HST2.out he (by omega) (by omega)
        have s1 := fun W : World => run_string_add_sum (P := Try.prog) W (s.extract 0 a) (s.extract a (a + 1)) (by omega)
        have s2 := fun W : World => run_string_add_sum (P := Try.prog) W (s.extract 0 a ++ s.extract a (a + 1)) tl (by rw [ByteArray.size_append]; omega)
        generalize parsR (s.extract 0 a ++ s.extract a (a + 1) ++ tl) = R1 at *
        generalize parsR (s.extract 0 a) = R2 at *
        obtain ⟨t1, a1, e1⟩ := R1
        obtain ⟨t2, a2, e2⟩ := R2
        injection hq1 with hq1 hq3
        have hq1 : a1 = (a : Int) := hq1
        have hq3 : e1 = 3 := hq3
        subst hq1; subst hq3
        have HQ3 : Hid (e2 ≠ 3 ∨ a2 = (a : Int) ∨ a2 = 0) := Lib.hid hq2
        clear hq2 z2 hs3 HST2
        have k1 : (0 : Int) ≤ (a : Int) := by omega
        have k2 : (a : Int) ≤ (a : Int) + 1 := by omega
        have k3 : (a : Int) + 1 ≤ (s.size : Int) := by omega
        have k4 : (a : Int) ≤ (s.size : Int) := by omega
        have k5 : ((a : Int) + 1).toNat = a + 1 := by omega
        have k6 : IntKind.i64.wrap ((a : Int) + 1) = (a : Int) + 1 := IntWalk.i64_in _ (by omega)
        generalize hS12 : s.extract 0 a ++ s.extract a (a + 1) = S12 at *
        generalize hS3 : S12 ++ tl = S3 at *
        by_cases e23 : e2 = 3
        · have p1 : (e2 != 3) = false := by simp [e23]
          by_cases e24 : a2 = (a : Int)
          · have p2 : (a2 == (a : Int)) = true := by simp [e24]
            clear HQ3 e23 e24
            go_enter Try.func6, Try.ntmps6
            go_upto_region 6 with (go_at_call 8; (refine HP.out.mono ?_); rintro e w1 ⟨A, c, rfl, hb1, hR1⟩; have HB1 := Lib.hid (al hb1 (.cells (exC t A c) 25)); clear hb1 hR1)
            obtain ⟨W2, hW2⟩ : ∃ W, w1.alloc (.cells #[.int .i64 t.op, .int .i64 t.vr, .slice A t.ks.length c] 25) = W := ⟨_, rfl⟩
            have HB2 : Hid (Below w.heap.size w W2) := Lib.hid (by rw [← hW2]; exact HB1.out)
            try rw [hW2]
            clear hW2 HB1
            go_region_law (go_simp; go_at_call 8; (refine (HQ1.out _).mono ?_); rintro e w3 ⟨B, d, rfl, hb3, hR3⟩; first | (have hk3 := box_keep2 hb3; obtain ⟨z0, x0, x1, x2, q0, q1, q2⟩ := box_cells hk3; have HB3 := Lib.hid hb3; clear hb3 hR3 hk3) | (have hk3 := box_keep hb3; obtain ⟨z0, x0, x1, x2, q0, q1, q2⟩ := box_cells hk3; have HB3 := Lib.hid hb3; clear hb3 hR3 hk3) | (have HB3 := Lib.hid hb3; clear hb3 hR3))
            · have HBA : Hid (Below w.heap.size w (w3.alloc (.cells #[.int .i64 t1.op, .int .i64 t1.vr, .slice B t1.ks.length d] 25))) := Lib.hid (al (HB2.out.trans (((below_drewN (Below.refl _ W2) 1).trans (HB3.out.mono (Nat.le_refl _))).mono HB2.out.size)) _)
              go_wp2_with (first
                | (go_at_call 7; (refine (HL.out _).mono ?_); rintro e w6 ⟨rfl, hb6⟩)
                | (go_at_call 8; (refine (HQ2.out _).mono ?_); rintro e w5 ⟨B5, d5, rfl, hb5, hR5⟩; have HB5 := Lib.hid (al (HBA.out.trans (hb5.mono HBA.out.size)) (.cells (exC t2 B5 d5) 25)); clear hb5 hR5))
              go_ret
              exact ⟨rfl, HB5.out.trans (hb6.mono HB5.out.size)⟩
            · have HBA : Hid (Below w.heap.size w (((w3.setCell ⟨W2.heap.size, 0, none⟩ (.int .i64 t1.op)).setCell ⟨W2.heap.size, 1, none⟩ (.int .i64 t1.vr)).setCell ⟨W2.heap.size, 2, none⟩ (.slice B t1.ks.length d))) := Lib.hid (below3 ((al HB2.out (.cells #[.int .i64 0, .int .i64 0, .slice none 0 0] 25)).trans (((below_drewN (Below.refl _ _) 1).trans (HB3.out.mono (Nat.le_refl _))).mono (al HB2.out (.cells #[.int .i64 0, .int .i64 0, .slice none 0 0] 25)).size)) HB2.out.size _ _ _)
              clear z0 x0 x1 x2 q0 q1 q2
              go_wp2_with (first
                | (go_at_call 7; (refine (HL.out _).mono ?_); rintro e w6 ⟨rfl, hb6⟩)
                | (go_at_call 8; (refine (HQ2.out _).mono ?_); rintro e w5 ⟨B5, d5, rfl, hb5, hR5⟩; have HB5 := Lib.hid (al (HBA.out.trans (hb5.mono HBA.out.size)) (.cells (exC t2 B5 d5) 25)); clear hb5 hR5))
              go_ret
              exact ⟨rfl, HB5.out.trans (hb6.mono HB5.out.size)⟩
          · have p2 : (a2 == (a : Int)) = false := by simp [e24]
            have p3 : (a2 == 0) = true := by
              rcases HQ3.out with h | h | h
              · exact absurd e23 h
              · exact absurd h e24
              · simp [h]
            clear HQ3 e23 e24
            go_enter Try.func6, Try.ntmps6
            go_upto_region 6 with (go_at_call 8; (refine HP.out.mono ?_); rintro e w1 ⟨A, c, rfl, hb1, hR1⟩; have HB1 := Lib.hid (al hb1 (.cells (exC t A c) 25)); clear hb1 hR1)
            obtain ⟨W2, hW2⟩ : ∃ W, w1.alloc (.cells #[.int .i64 t.op, .int .i64 t.vr, .slice A t.ks.length c] 25) = W := ⟨_, rfl⟩
            have HB2 : Hid (Below w.heap.size w W2) := Lib.hid (by rw [← hW2]; exact HB1.out)
            try rw [hW2]
            clear hW2 HB1
            go_region_law (go_simp; go_at_call 8; (refine (HQ1.out _).mono ?_); rintro e w3 ⟨B, d, rfl, hb3, hR3⟩; first | (have hk3 := box_keep2 hb3; obtain ⟨z0, x0, x1, x2, q0, q1, q2⟩ := box_cells hk3; have HB3 := Lib.hid hb3; clear hb3 hR3 hk3) | (have hk3 := box_keep hb3; obtain ⟨z0, x0, x1, x2, q0, q1, q2⟩ := box_cells hk3; have HB3 := Lib.hid hb3; clear hb3 hR3 hk3) | (have HB3 := Lib.hid hb3; clear hb3 hR3))
            · have HBA : Hid (Below w.heap.size w (w3.alloc (.cells #[.int .i64 t1.op, .int .i64 t1.vr, .slice B t1.ks.length d] 25))) := Lib.hid (al (HB2.out.trans (((below_drewN (Below.refl _ W2) 1).trans (HB3.out.mono (Nat.le_refl _))).mono HB2.out.size)) _)
              go_wp2_with (first
                | (go_at_call 7; (refine (HL.out _).mono ?_); rintro e w6 ⟨rfl, hb6⟩)
                | (go_at_call 8; (refine (HQ2.out _).mono ?_); rintro e w5 ⟨B5, d5, rfl, hb5, hR5⟩; have HB5 := Lib.hid (al (HBA.out.trans (hb5.mono HBA.out.size)) (.cells (exC t2 B5 d5) 25)); clear hb5 hR5))
              go_ret
              exact ⟨rfl, HB5.out.trans (hb6.mono HB5.out.size)⟩
            · have HBA : Hid (Below w.heap.size w (((w3.setCell ⟨W2.heap.size, 0, none⟩ (.int .i64 t1.op)).setCell ⟨W2.heap.size, 1, none⟩ (.int .i64 t1.vr)).setCell ⟨W2.heap.size, 2, none⟩ (.slice B t1.ks.length d))) := Lib.hid (below3 ((al HB2.out (.cells #[.int .i64 0, .int .i64 0, .slice none 0 0] 25)).trans (((below_drewN (Below.refl _ _) 1).trans (HB3.out.mono (Nat.le_refl _))).mono (al HB2.out (.cells #[.int .i64 0, .int .i64 0, .slice none 0 0] 25)).size)) HB2.out.size _ _ _)
              clear z0 x0 x1 x2 q0 q1 q2
              go_wp2_with (first
                | (go_at_call 7; (refine (HL.out _).mono ?_); rintro e w6 ⟨rfl, hb6⟩)
                | (go_at_call 8; (refine (HQ2.out _).mono ?_); rintro e w5 ⟨B5, d5, rfl, hb5, hR5⟩; have HB5 := Lib.hid (al (HBA.out.trans (hb5.mono HBA.out.size)) (.cells (exC t2 B5 d5) 25)); clear hb5 hR5))
              go_ret
              exact ⟨rfl, HB5.out.trans (hb6.mono HB5.out.size)⟩
        · have p1 : (e2 != 3) = true := by simp [e23]
          clear HQ3 e23
          go_enter Try.func6, Try.ntmps6
          go_upto_region 6 with (go_at_call 8; (refine HP.out.mono ?_); rintro e w1 ⟨A, c, rfl, hb1, hR1⟩; have HB1 := Lib.hid (al hb1 (.cells (exC t A c) 25)); clear hb1 hR1)
          obtain ⟨W2, hW2⟩ : ∃ W, w1.alloc (.cells #[.int .i64 t.op, .int .i64 t.vr, .slice A t.ks.length c] 25) = W := ⟨_, rfl⟩
          have HB2 : Hid (Below w.heap.size w W2) := Lib.hid (by rw [← hW2]; exact HB1.out)
          try rw [hW2]
          clear hW2 HB1
          go_region_law (go_simp; go_at_call 8; (refine (HQ1.out _).mono ?_); rintro e w3 ⟨B, d, rfl, hb3, hR3⟩; first | (have hk3 := box_keep2 hb3; obtain ⟨z0, x0, x1, x2, q0, q1, q2⟩ := box_cells hk3; have HB3 := Lib.hid hb3; clear hb3 hR3 hk3) | (have hk3 := box_keep hb3; obtain ⟨z0, x0, x1, x2, q0, q1, q2⟩ := box_cells hk3; have HB3 := Lib.hid hb3; clear hb3 hR3 hk3) | (have HB3 := Lib.hid hb3; clear hb3 hR3))
          · have HBA : Hid (Below w.heap.size w (w3.alloc (.cells #[.int .i64 t1.op, .int .i64 t1.vr, .slice B t1.ks.length d] 25))) := Lib.hid (al (HB2.out.trans (((below_drewN (Below.refl _ W2) 1).trans (HB3.out.mono (Nat.le_refl _))).mono HB2.out.size)) _)
            go_wp2_with (first
              | (go_at_call 7; (refine (HL.out _).mono ?_); rintro e w6 ⟨rfl, hb6⟩)
              | (go_at_call 8; (refine (HQ2.out _).mono ?_); rintro e w5 ⟨B5, d5, rfl, hb5, hR5⟩; have HB5 := Lib.hid (al (HBA.out.trans (hb5.mono HBA.out.size)) (.cells (exC t2 B5 d5) 25)); clear hb5 hR5))
            go_ret
            exact ⟨rfl, HB5.out.trans (hb6.mono HB5.out.size)⟩
          · have HBA : Hid (Below w.heap.size w (((w3.setCell ⟨W2.heap.size, 0, none⟩ (.int .i64 t1.op)).setCell ⟨W2.heap.size, 1, none⟩ (.int .i64 t1.vr)).setCell ⟨W2.heap.size, 2, none⟩ (.slice B t1.ks.length d))) := Lib.hid (below3 ((al HB2.out (.cells #[.int .i64 0, .int .i64 0, .slice none 0 0] 25)).trans (((below_drewN (Below.refl _ _) 1).trans (HB3.out.mono (Nat.le_refl _))).mono (al HB2.out (.cells #[.int .i64 0, .int .i64 0, .slice none 0 0] 25)).size)) HB2.out.size _ _ _)
            clear z0 x0 x1 x2 q0 q1 q2
            go_wp2_with (first
              | (go_at_call 7; (refine (HL.out _).mono ?_); rintro e w6 ⟨rfl, hb6⟩)
              | (go_at_call 8; (refine (HQ2.out _).mono ?_); rintro e w5 ⟨B5, d5, rfl, hb5, hR5⟩; have HB5 := Lib.hid (al (HBA.out.trans (hb5.mono HBA.out.size)) (.cells (exC t2 B5 d5) 25)); clear hb5 hR5))
            go_ret
            exact ⟨rfl, HB5.out.trans (hb6.mono HB5.out.size)⟩
  · have c1 : (e0 != 3) = true := by simp [he]
    clear HST2 he
    go_enter Try.func6, Try.ntmps6
    go_wp2_with (first
      | (go_at_call 7; (refine (HL.out _).mono ?_); rintro e w2 ⟨rfl, hb2⟩)
      | (go_at_call 8; (refine HP.out.mono ?_); rintro e w1 ⟨A, c, rfl, hb1, hR1⟩; have HB1 := Lib.hid (al hb1 (.cells (exC t A c) 25)); clear hb1 hR1))
    go_ret
    exact ⟨rfl, HB1.out.trans (hb2.mono HB1.out.size)⟩
end Go.Proofs.Ytipapemcedkinaa
