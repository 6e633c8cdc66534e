/- Contract of the specification's Next of layer 29 (lexi), over the translation. -/
import Derived.Test.YtnmofkngengoeaaDoorFn6
import Derived.Deep.RegionHeld3
namespace Go.Proofs.YtnmofkngengoeaaDoor
open Go.RowKit Go.PlainAid

theorem Blk.tokT {w : World} {g : Nat} {t : TypeId} {a b c d a' b' c' d' : Value} (h : Blk w g t #[a, b, c, d]) : Blk ((((w.setCell ⟨g, 0, none⟩ a').setCell ⟨g, 1, none⟩ b').setCell ⟨g, 2, none⟩ c').setCell ⟨g, 3, none⟩ d') g t #[a', b', c', d'] :=
  (((h.set_ 0 a').set_ 1 b').set_ 2 c').set_ 3 d'
theorem rf_out_next (s : ByteArray) (i : Int) (w : World) (h : i < 0 ∨ (s.size : Int) < i) : Calls Tryd.prog 10 #[.string s, .int .i64 i] w fun en w' => en = .returned (.tuple #[tokV 0 0 emp 0, .int .i64 0, .int .i64 2]) ∧ Below w.heap.size w w' := by
  by_cases h1 : i < 0
  · go_enter Tryd.func10, Tryd.ntmps10
    go_wp2
    go_returns
    exact ⟨rfl, by first | exact (Below.refl _ _).alloc (Nat.le_refl _) _ | go_grown⟩
  · have h2 : (s.size : Int) < i := by omega
    go_enter Tryd.func10, Tryd.ntmps10
    go_wp2
    go_returns
    exact ⟨rfl, by first | exact (Below.refl _ _).alloc (Nat.le_refl _) _ | go_grown⟩
theorem cut_part (s : ByteArray) (m e : Nat) (hm : m ≤ e) (he : e ≤ s.size) (w : World) :
    (Instr.slice 9 (.string s) (some (.int .i64 (m : Int))) (some (.int .i64 (e : Int))) none).run Tryd.prog w = .ok (.string (s.extract m e)) w := by
  have h := run_slice_string (P := Tryd.prog) (w := w) 9 s .i64 .i64 (m : Int) (e : Int) Tryd.underlying9 (by omega) (by omega) (by omega)
  rw [h]; rfl
set_option maxRecDepth 100000 in
set_option maxHeartbeats 2000000 in
theorem rf_Signs_at (w : World) : Calls Tryd.prog 34 #[] w fun e w' => e = .returned (.slice (some ⟨w.heap.size, 0, none⟩) 21 21) ∧ w'.rangeAt w.heap.size 0 (signs.map Value.string) ∧ Below w.heap.size w w' := by
  go_enter Tryd.func34, Tryd.ntmps34
  go_wp2
  go_ret
  exact ⟨rfl, range_of_blk (heap_alloc_new w _), (Below.refl _ _).alloc (Nat.le_refl _) _⟩
theorem signs_size (k : Nat) : (signs.getD k ByteArray.empty).size ≤ 5 := by
  rcases Nat.lt_or_ge k signs.length with c | c
  · rw [List.getD_eq_getElem?_getD, List.getElem?_eq_getElem c]
    exact signs_short _ (List.getElem_mem c)
  · rw [List.getD_eq_getElem?_getD, List.getElem?_eq_none c]; decide
set_option maxRecDepth 100000 in
set_option maxHeartbeats 2000000 in
theorem rf_Signs2 (w : World) : Calls Tryd.prog 34 #[] w fun e w' => ∃ b, e = .returned (.slice (some ⟨b, 0, none⟩) 21 21) ∧ w.heap.size ≤ b ∧ (∀ k, k < 21 → w'.cell? ⟨b, k, none⟩ = some (.string (signs.getD k ByteArray.empty))) ∧ Below w.heap.size w w' := by
  refine (rf_Signs_at w).mono ?_
  rintro e w' ⟨rfl, hr, hb⟩
  refine ⟨w.heap.size, rfl, Nat.le_refl _, fun k hk => ?_, hb⟩
  have := hr k (.string (signs.getD k ByteArray.empty)) (by simp [List.getElem?_map, List.getD, List.getElem?_eq_getElem (show k < signs.length by rw [signs_len]; exact hk)])
  rwa [Nat.zero_add] at this
theorem apart_cell {w : World} {g b k : Nat} {v a' b' c' d' : Value} (hg : g ≠ b) (h : w.cell? ⟨b, k, none⟩ = some v) : ((((w.setCell ⟨g, 0, none⟩ a').setCell ⟨g, 1, none⟩ b').setCell ⟨g, 2, none⟩ c').setCell ⟨g, 3, none⟩ d').cell? ⟨b, k, none⟩ = some v := by
  have hne : ∀ j, (⟨g, j, none⟩ : Addr) ≠ ⟨b, k, none⟩ := fun j e => by injection e with e1; exact hg e1
  rw [World.cell?_setCell_other (h := hne 3), World.cell?_setCell_other (h := hne 2), World.cell?_setCell_other (h := hne 1), World.cell?_setCell_other (h := hne 0)]
  exact h
set_option maxRecDepth 100000 in
set_option maxHeartbeats 8000000 in
theorem rf_Next (s : ByteArray) (i : Nat) (w : World) (hs : s.size ≤ 4000000000000000000) (hi : i ≤ s.size) :
    Calls Tryd.prog 10 #[.string s, .int .i64 (i : Int)] w fun en w' => en = .returned (resV (nextS s i)) ∧ Below w.heap.size w w' := by
  have hbl := blank_le (s := s) (s.size - i) i (by omega)
  have HBL := Lib.hid (fun w => rf_Blank s i w hs hi)
  have hi0 : ¬ (i : Int) < 0 := by omega
  have hi1 : ¬ (s.size : Int) < (i : Int) := by omega
  unfold nextS
  generalize blankS s i = m at *
  obtain ⟨w1, hw1⟩ : ∃ w1, w1 = w.alloc (.cells #[.int .i64 0, .int .i64 0, .string { data := #[] }, .int .i64 0] 28) := ⟨_, rfl⟩
  have hB1 : Blk w1 w.heap.size 28 #[.int .i64 0, .int .i64 0, .string { data := #[] }, .int .i64 0] := by rw [hw1]; exact Blk.new _ _ _
  have hb1 : Below w.heap.size w w1 := by rw [hw1]; exact (Below.refl _ _).alloc (Nat.le_refl _) _
  have HW1 := Lib.hid hw1
  have HB1 := Lib.hid hB1
  have HBW := Lib.hid hb1
  clear hw1 hB1 hb1
  by_cases hend : s.size ≤ m
  · rw [if_pos hend]
    have hem : m = s.size := by omega
    have hemi : ((m : Int) == (s.size : Int)) = true := by simp [hem]
    clear hbl
    go_enter Tryd.func10, Tryd.ntmps10
    go_wp2_with (go_at_call 21; refine (HBL.out _).mono ?_; rintro e w9 ⟨rfl, rfl⟩)
    go_returns
    refine ⟨?_, by first | exact (Below.refl _ _).alloc (Nat.le_refl _) _ | go_grown⟩
    first | rfl | (rw [← hem]; rfl)
  · rw [if_neg hend]
    have hml : m < s.size := by omega
    have hemi : ((m : Int) == (s.size : Int)) = false := by simp; omega
    have hb := get_bt s
    have HLT := Lib.hid (fun w => rf_letter (bt s m) w)
    have HDG := Lib.hid (fun w => rf_digit (bt s m) w)
    cases hlet : letQ (bt s m) with
    | true =>
      rw [if_pos rfl]
      rw [hlet] at HLT
      obtain ⟨e, he⟩ : ∃ e, span namQ s m = e := ⟨_, rfl⟩
      have HROW := Lib.hid (fun w => rf_row s m false w hs (by omega))
      rw [show span (if false = true then digQ else namQ) s m = e from he] at HROW
      rw [he]
      have h1 : m ≤ e := by rw [← he]; exact span_ge _ _ _
      have h2 : e ≤ s.size := by rw [← he]; exact span_le (by omega)
      have hps := part_size (m := m) h2
      have hcp := cut_part s m e h1 h2
      clear hlet he hbl
      generalize s.extract m e = x at *
      obtain ⟨q, hq⟩ : ∃ q, wordQ x = q := ⟨_, rfl⟩
      have HAM : Hid (∀ A w, RS w A words → Calls Tryd.prog 31 #[.slice A 24 24, .string x] w fun e w' => e = .returned (.bool q) ∧ w = w') := Lib.hid (fun A w h => by
        have h := rf_among A x w h; rwa [hq] at h)
      rw [hq]
      have hadd : (m : Int) + (x.size : Int) = (e : Int) := by omega
      have HADD := Lib.hid hadd
      have hsum : (m : Int) + (x.size : Int) ≤ 4000000000000000000 := by omega
      clear hq hadd
      obtain ⟨ans, hans⟩ : ∃ a, (if q = true then Rs.ok 3 0 x m e else if 24 < e - m then Rs.er m 4 else Rs.ok 2 0 x m e) = a := ⟨_, rfl⟩
      rw [hans]
      have HANS := Lib.hid hans
      clear hans
      have hlong : (24 < e - m) ↔ (24 : Int) < (x.size : Int) := by omega
      cases q
      · by_cases hl : 24 < e - m
        · have hl' := hlong.1 hl
          have HX : Hid (ans = .er m 4) := Lib.hid (by rw [← HANS.out, if_neg (by decide), if_pos hl])
          clear hlong hps
          go_enter Tryd.func10, Tryd.ntmps10
          go_upto_region 4 with (go_at_call 21; refine (HBL.out _).mono ?_; rintro e w9 ⟨rfl, rfl⟩)
          go_upto_region 8 with (first | (go_at_call 29; refine (HLT.out _).mono ?_; rintro e w9 ⟨rfl, rfl⟩) | (go_at_call 30; refine (HROW.out _).mono ?_; rintro e w9 ⟨rfl, rfl⟩))
          rw [← HW1.out]
          go_wp2_with (first | (go_at_call 20; refine (rf_Words w1).mono ?_; rintro e w2 ⟨A2, rfl, hr2, hb2⟩; have HR2 := Lib.hid hr2; have HB2 : Hid (Below w.heap.size w w2) := Lib.hid (HBW.out.trans (hb2.mono HBW.out.size)); have hK := HB1.out.below hb2 HB1.out.lt; obtain ⟨⟨c0, c1, c2, c3⟩, f0, f1, f2, f3⟩ := hK.four; have HK2 := Lib.hid hK; clear hK hb2 hr2) | (go_at_call 31; refine (HAM.out _ _ HR2.out).mono ?_; rintro e w9 ⟨rfl, rfl⟩))
          obtain ⟨w5, hw5⟩ : ∃ w5, w5 = (((w2.setCell ⟨w.heap.size, 0, none⟩ (.int .i64 0)).setCell ⟨w.heap.size, 1, none⟩ (.int .i64 0)).setCell ⟨w.heap.size, 2, none⟩ (.string { data := #[] })).setCell ⟨w.heap.size, 3, none⟩ (.int .i64 0) := ⟨_, rfl⟩
          rw [← hw5]
          have HK5 : Hid (Blk w5 w.heap.size 28 #[.int .i64 0, .int .i64 0, .string { data := #[] }, .int .i64 0]) := Lib.hid (by rw [hw5]; exact HK2.out.tokT)
          have HB5 : Hid (Below w.heap.size w w5) := Lib.hid (by rw [hw5]; exact below_tok HB2.out (Nat.le_refl _))
          clear c0 c1 c2 c3 f0 f1 f2 f3 hw5
          obtain ⟨⟨c0, c1, c2, c3⟩, f0, f1, f2, f3⟩ := HK5.out.four
          refine bodyPost_ret (v := Value.tuple #[.agg #[.int .i64 0, .int .i64 0, .string { data := #[] }, .int .i64 0], .int .i64 (m : Int), .int .i64 4]) (by simp [results, Tryd.results10, go_sem, c0, c1, c2, c3]) rfl ⟨?_, HB5.out⟩
          rw [HX.out]; rfl
        · have hl' : ¬ (24 : Int) < (x.size : Int) := fun h => hl (hlong.2 h)
          have HX : Hid (ans = .ok 2 0 x m e) := Lib.hid (by rw [← HANS.out, if_neg (by decide), if_neg hl])
          clear hlong hps
          go_enter Tryd.func10, Tryd.ntmps10
          go_upto_region 4 with (go_at_call 21; refine (HBL.out _).mono ?_; rintro e w9 ⟨rfl, rfl⟩)
          go_upto_region 8 with (first | (go_at_call 29; refine (HLT.out _).mono ?_; rintro e w9 ⟨rfl, rfl⟩) | (go_at_call 30; refine (HROW.out _).mono ?_; rintro e w9 ⟨rfl, rfl⟩))
          rw [← HW1.out]
          go_wp2_with (first | (go_at_call 20; refine (rf_Words w1).mono ?_; rintro e w2 ⟨A2, rfl, hr2, hb2⟩; have HR2 := Lib.hid hr2; have HB2 : Hid (Below w.heap.size w w2) := Lib.hid (HBW.out.trans (hb2.mono HBW.out.size)); have hK := HB1.out.below hb2 HB1.out.lt; obtain ⟨⟨c0, c1, c2, c3⟩, f0, f1, f2, f3⟩ := hK.four; have HK2 := Lib.hid hK; clear hK hb2 hr2) | (go_at_call 31; refine (HAM.out _ _ HR2.out).mono ?_; rintro e w9 ⟨rfl, rfl⟩))
          obtain ⟨w5, hw5⟩ : ∃ w5, w5 = (((w2.setCell ⟨w.heap.size, 0, none⟩ (.int .i64 2)).setCell ⟨w.heap.size, 1, none⟩ (.int .i64 0)).setCell ⟨w.heap.size, 2, none⟩ (.string x)).setCell ⟨w.heap.size, 3, none⟩ (.int .i64 (m : Int)) := ⟨_, rfl⟩
          rw [← hw5]
          have HK5 : Hid (Blk w5 w.heap.size 28 #[.int .i64 2, .int .i64 0, .string x, .int .i64 (m : Int)]) := Lib.hid (by rw [hw5]; exact HK2.out.tokT)
          have HB5 : Hid (Below w.heap.size w w5) := Lib.hid (by rw [hw5]; exact below_tok HB2.out (Nat.le_refl _))
          clear c0 c1 c2 c3 f0 f1 f2 f3 hw5
          obtain ⟨⟨c0, c1, c2, c3⟩, f0, f1, f2, f3⟩ := HK5.out.four
          refine bodyPost_ret (v := Value.tuple #[.agg #[.int .i64 2, .int .i64 0, .string x, .int .i64 (m : Int)], .int .i64 ((m : Int) + (x.size : Int)), .int .i64 0]) (by simp [results, Tryd.results10, go_sem, c0, c1, c2, c3]) rfl ⟨?_, HB5.out⟩
          rw [HX.out]; rw [HADD.out]; rfl
      · have HX : Hid (ans = .ok 3 0 x m e) := Lib.hid (by rw [← HANS.out, if_pos rfl])
        clear hlong hps
        go_enter Tryd.func10, Tryd.ntmps10
        go_upto_region 4 with (go_at_call 21; refine (HBL.out _).mono ?_; rintro e w9 ⟨rfl, rfl⟩)
        go_upto_region 8 with (first | (go_at_call 29; refine (HLT.out _).mono ?_; rintro e w9 ⟨rfl, rfl⟩) | (go_at_call 30; refine (HROW.out _).mono ?_; rintro e w9 ⟨rfl, rfl⟩))
        rw [← HW1.out]
        go_wp2_with (first | (go_at_call 20; refine (rf_Words w1).mono ?_; rintro e w2 ⟨A2, rfl, hr2, hb2⟩; have HR2 := Lib.hid hr2; have HB2 : Hid (Below w.heap.size w w2) := Lib.hid (HBW.out.trans (hb2.mono HBW.out.size)); have hK := HB1.out.below hb2 HB1.out.lt; obtain ⟨⟨c0, c1, c2, c3⟩, f0, f1, f2, f3⟩ := hK.four; have HK2 := Lib.hid hK; clear hK hb2 hr2) | (go_at_call 31; refine (HAM.out _ _ HR2.out).mono ?_; rintro e w9 ⟨rfl, rfl⟩))
        obtain ⟨w5, hw5⟩ : ∃ w5, w5 = (((w2.setCell ⟨w.heap.size, 0, none⟩ (.int .i64 3)).setCell ⟨w.heap.size, 1, none⟩ (.int .i64 0)).setCell ⟨w.heap.size, 2, none⟩ (.string x)).setCell ⟨w.heap.size, 3, none⟩ (.int .i64 (m : Int)) := ⟨_, rfl⟩
        rw [← hw5]
        have HK5 : Hid (Blk w5 w.heap.size 28 #[.int .i64 3, .int .i64 0, .string x, .int .i64 (m : Int)]) := Lib.hid (by rw [hw5]; exact HK2.out.tokT)
        have HB5 : Hid (Below w.heap.size w w5) := Lib.hid (by rw [hw5]; exact below_tok HB2.out (Nat.le_refl _))
        clear c0 c1 c2 c3 f0 f1 f2 f3 hw5
        obtain ⟨⟨c0, c1, c2, c3⟩, f0, f1, f2, f3⟩ := HK5.out.four
        refine bodyPost_ret (v := Value.tuple #[.agg #[.int .i64 3, .int .i64 0, .string x, .int .i64 (m : Int)], .int .i64 ((m : Int) + (x.size : Int)), .int .i64 0]) (by simp [results, Tryd.results10, go_sem, c0, c1, c2, c3]) rfl ⟨?_, HB5.out⟩
        rw [HX.out]; rw [HADD.out]; rfl
    | false =>
      rw [if_neg (by decide)]
      rw [hlet] at HLT
      cases hdg : digQ (bt s m) with
      | true =>
        rw [if_pos rfl]
        rw [hdg] at HDG
        obtain ⟨e, he⟩ : ∃ e, span digQ s m = e := ⟨_, rfl⟩
        have HROW := Lib.hid (fun w => rf_row s m true w hs (by omega))
        rw [show span (if true = true then digQ else namQ) s m = e from he] at HROW
        rw [he]
        have h1 : m < e := by rw [← he, span_step hml hdg]; have := span_ge digQ s (m + 1); omega
        have h2 : e ≤ s.size := by rw [← he]; exact span_le (by omega)
        have hps := part_size (m := m) h2
        have hcp := cut_part s m e (by omega) h2
        have HVAL := Lib.hid (fun w => rf_value (s.extract m e) w (by omega) (dig_part (by omega) he))
        have hb0 : bt (s.extract m e) 0 = bt s m := by rw [bt_part (by omega) h2, Nat.add_zero]
        rw [← hb0]
        clear hlet hdg he hbl
        generalize s.extract m e = x at *
        have hbx := get_bt x
        have hx0 : 0 < x.size := by omega
        obtain ⟨v, hv⟩ : ∃ v, valS x = v := ⟨_, rfl⟩
        rw [hv] at HVAL ⊢
        obtain ⟨q, hq⟩ : ∃ q, (bt x 0 == 48) = q := ⟨_, rfl⟩
        have hadd : (m : Int) + (x.size : Int) = (e : Int) := by omega
        have HADD := Lib.hid hadd
        have hsum : (m : Int) + (x.size : Int) ≤ 4000000000000000000 := by omega
        obtain ⟨ans, hans⟩ : ∃ a, (if 1 < e - m ∧ bt x 0 = 48 then Rs.er m 15 else if 255 < v then Rs.er m 2 else Rs.ok 1 v x m e) = a := ⟨_, rfl⟩
        rw [hans]
        have HANS := Lib.hid hans
        have hone : 1 < e - m ↔ (1 : Int) < (x.size : Int) := by omega
        clear hans hv hb0 hadd
        by_cases hl : 1 < e - m
        · have hl' := hone.1 hl
          clear hone hps
          cases q
          · have hq2 : ¬ bt x 0 = 48 := by simpa using hq
            have HQ2 := Lib.hid hq2
            clear hq2
            by_cases hbig : 255 < v
            · have HX : Hid (ans = .er m 2) := Lib.hid (by rw [← HANS.out, if_neg (fun h => HQ2.out h.2), if_pos hbig])
              go_enter Tryd.func10, Tryd.ntmps10
              go_upto_region 4 with (go_at_call 21; refine (HBL.out _).mono ?_; rintro e w9 ⟨rfl, rfl⟩)
              go_upto_region 13 with (go_at_call 29; refine (HLT.out _).mono ?_; rintro e w9 ⟨rfl, rfl⟩)
              go_upto_region 15 with (first | (go_at_call 32; refine (HDG.out _).mono ?_; rintro e w9 ⟨rfl, rfl⟩) | (go_at_call 30; refine (HROW.out _).mono ?_; rintro e w9 ⟨rfl, rfl⟩))
              go_wp2_with (go_at_call 33; refine (HVAL.out _).mono ?_; rintro e w9 ⟨rfl, rfl⟩)
              go_returns
              refine ⟨?_, by first | exact (Below.refl _ _).alloc (Nat.le_refl _) _ | go_grown⟩
              rw [HX.out]; rfl
            · have HX : Hid (ans = .ok 1 v x m e) := Lib.hid (by rw [← HANS.out, if_neg (fun h => HQ2.out h.2), if_neg hbig])
              go_enter Tryd.func10, Tryd.ntmps10
              go_upto_region 4 with (go_at_call 21; refine (HBL.out _).mono ?_; rintro e w9 ⟨rfl, rfl⟩)
              go_upto_region 13 with (go_at_call 29; refine (HLT.out _).mono ?_; rintro e w9 ⟨rfl, rfl⟩)
              go_upto_region 15 with (first | (go_at_call 32; refine (HDG.out _).mono ?_; rintro e w9 ⟨rfl, rfl⟩) | (go_at_call 30; refine (HROW.out _).mono ?_; rintro e w9 ⟨rfl, rfl⟩))
              go_wp2_with (go_at_call 33; refine (HVAL.out _).mono ?_; rintro e w9 ⟨rfl, rfl⟩)
              go_returns
              refine ⟨?_, by first | exact (Below.refl _ _).alloc (Nat.le_refl _) _ | go_grown⟩
              rw [HX.out]; first | (rw [HADD.out]; rfl) | rfl
          · have HX : Hid (ans = .er m 15) := Lib.hid (by rw [← HANS.out, if_pos ⟨hl, by simpa using hq⟩])
            go_enter Tryd.func10, Tryd.ntmps10
            go_upto_region 4 with (go_at_call 21; refine (HBL.out _).mono ?_; rintro e w9 ⟨rfl, rfl⟩)
            go_upto_region 13 with (go_at_call 29; refine (HLT.out _).mono ?_; rintro e w9 ⟨rfl, rfl⟩)
            go_upto_region 15 with (first | (go_at_call 32; refine (HDG.out _).mono ?_; rintro e w9 ⟨rfl, rfl⟩) | (go_at_call 30; refine (HROW.out _).mono ?_; rintro e w9 ⟨rfl, rfl⟩))
            go_wp2_with (go_at_call 33; refine (HVAL.out _).mono ?_; rintro e w9 ⟨rfl, rfl⟩)
            go_returns
            refine ⟨?_, by first | exact (Below.refl _ _).alloc (Nat.le_refl _) _ | go_grown⟩
            rw [HX.out]; rfl
        · have hl' : ¬ (1 : Int) < (x.size : Int) := fun h => hl (hone.2 h)
          clear hone hps
          by_cases hbig : 255 < v
          · have HX : Hid (ans = .er m 2) := Lib.hid (by rw [← HANS.out, if_neg (fun h => hl h.1), if_pos hbig])
            go_enter Tryd.func10, Tryd.ntmps10
            go_upto_region 4 with (go_at_call 21; refine (HBL.out _).mono ?_; rintro e w9 ⟨rfl, rfl⟩)
            go_upto_region 13 with (go_at_call 29; refine (HLT.out _).mono ?_; rintro e w9 ⟨rfl, rfl⟩)
            go_upto_region 15 with (first | (go_at_call 32; refine (HDG.out _).mono ?_; rintro e w9 ⟨rfl, rfl⟩) | (go_at_call 30; refine (HROW.out _).mono ?_; rintro e w9 ⟨rfl, rfl⟩))
            go_wp2_with (go_at_call 33; refine (HVAL.out _).mono ?_; rintro e w9 ⟨rfl, rfl⟩)
            go_returns
            refine ⟨?_, by first | exact (Below.refl _ _).alloc (Nat.le_refl _) _ | go_grown⟩
            rw [HX.out]; rfl
          · have HX : Hid (ans = .ok 1 v x m e) := Lib.hid (by rw [← HANS.out, if_neg (fun h => hl h.1), if_neg hbig])
            go_enter Tryd.func10, Tryd.ntmps10
            go_upto_region 4 with (go_at_call 21; refine (HBL.out _).mono ?_; rintro e w9 ⟨rfl, rfl⟩)
            go_upto_region 13 with (go_at_call 29; refine (HLT.out _).mono ?_; rintro e w9 ⟨rfl, rfl⟩)
            go_upto_region 15 with (first | (go_at_call 32; refine (HDG.out _).mono ?_; rintro e w9 ⟨rfl, rfl⟩) | (go_at_call 30; refine (HROW.out _).mono ?_; rintro e w9 ⟨rfl, rfl⟩))
            go_wp2_with (go_at_call 33; refine (HVAL.out _).mono ?_; rintro e w9 ⟨rfl, rfl⟩)
            go_returns
            refine ⟨?_, by first | exact (Below.refl _ _).alloc (Nat.le_refl _) _ | go_grown⟩
            rw [HX.out]; first | (rw [HADD.out]; rfl) | rfl
      | false =>
        rw [if_neg (by decide)]
        rw [hdg] at HDG
        obtain ⟨ans, hans⟩ : ∃ a, sgnR s m = a := ⟨_, rfl⟩
        rw [hans]
        have HANS := Lib.hid hans
        have HST : Hid (∀ k w, Calls Tryd.prog 35 #[.string s, .int .i64 (m : Int), .string (signs.getD k ByteArray.empty)] w fun e w' => e = .returned (.bool (startsAt s m (signs.getD k ByteArray.empty))) ∧ w = w') := Lib.hid (fun k w => rf_starts s _ m w hs (by have := signs_size k; omega) (by omega))
        clear hlet hdg hbl hans
        go_enter Tryd.func10, Tryd.ntmps10
        go_upto_region 4 with (go_at_call 21; refine (HBL.out _).mono ?_; rintro e w9 ⟨rfl, rfl⟩)
        go_upto_region 13 with (go_at_call 29; refine (HLT.out _).mono ?_; rintro e w9 ⟨rfl, rfl⟩)
        go_upto_region 20 with (go_at_call 32; refine (HDG.out _).mono ?_; rintro e w9 ⟨rfl, rfl⟩)
        rw [← HW1.out]
        go_wp2_with (go_at_call 34; refine (rf_Signs2 w1).mono ?_; rintro e w2 ⟨b, rfl, hb0, hc, hb2⟩; have HC := Lib.hid hc; have HB2 : Hid (Below w.heap.size w w2) := Lib.hid (HBW.out.trans (hb2.mono HBW.out.size)); have hK := HB1.out.below hb2 HB1.out.lt; have HK2 := Lib.hid hK; have hgb : w.heap.size ≠ b := (by have := HB1.out.lt; omega); have HGB := Lib.hid hgb; clear hK hb2 hc hb0 hgb)
        go_loopw [5, 6, 10] (fun r5 r6 j wr => ∃ k : Nat, r5 = .int .i64 0 ∧ r6 = .int .i64 0 ∧ k ≤ 21 ∧ j = .int .i64 (k : Int) ∧ Hid (∀ j, j < k → startsAt s m (signs.getD j ByteArray.empty) = false) ∧ w2 = wr) (fun _ _ j _ => 21 - (intOf j).toNat)
        case atStart => exact ⟨0, rfl, rfl, Nat.zero_le _, rfl, Lib.hid (fun j hj => by omega), rfl⟩
        case round =>
          obtain ⟨k, rfl, rfl, hk, rfl, HK, rfl⟩ := hrel
          by_cases hlt : k < 21
          · have h1 : (k : Int) < 21 := by omega
            have e1 := HC.out k hlt
            have HSk := Lib.hid (HST.out k)
            have hys := signs_size k
            obtain ⟨q, hq⟩ : ∃ q, startsAt s m (signs.getD k ByteArray.empty) = q := ⟨_, rfl⟩
            rw [hq] at HSk
            generalize hy : signs.getD k ByteArray.empty = y at *
            cases q
            · have HN : Hid (∀ j, j < k + 1 → startsAt s m (signs.getD j ByteArray.empty) = false) := Lib.hid (fun j hj => by
                rcases Nat.lt_or_ge j k with c | c
                · exact HK.out j c
                · have e : j = k := by omega
                  rw [e, hy]; exact hq)
              clear hy hq
              go_wp2_with (go_at_call 35; refine (HSk.out _).mono ?_; rintro e w9 ⟨rfl, rfl⟩)
              go_roundw
              case rel => exact ⟨k + 1, rfl, rfl, by omega, by go_num, HN, by first | rfl | trivial⟩
              case measure => simp [intOf]; try omega
            · have HX : Hid (ans = .ok 4 0 y m (m + y.size)) := Lib.hid (by
                rw [← HANS.out]; unfold sgnR; rw [sgn_some hlt (by rw [hy]; exact hq) HK.out]
                show Rs.ok 4 0 (signs.getD k ByteArray.empty) m (m + (signs.getD k ByteArray.empty).size) = _
                rw [hy])
              clear hy hq
              go_upto_region 25 with (go_at_call 35; refine (HSk.out _).mono ?_; rintro e w9 ⟨rfl, rfl⟩)
              have e1d : w2.drew.cell? ⟨b, k, none⟩ = some (.string y) := e1
              have hKd : Blk w2.drew w.heap.size 28 #[.int .i64 0, .int .i64 0, .string { data := #[] }, .int .i64 0] := HK2.out
              obtain ⟨⟨c0, c1, c2, c3⟩, f0, f1, f2, f3⟩ := HK2.out.four
              obtain ⟨⟨g0, g1, g2, g3⟩, k0, k1, k2, k3⟩ := hKd.four
              have hBd : Below w.heap.size w w2.drew := HB2.out.drew
              have HKd := Lib.hid hKd
              have e2d := apart_cell (a' := .int .i64 4) (b' := .int .i64 0) (c' := .string y) (d' := .int .i64 (m : Int)) HGB.out e1d
              have h1n : (k : Int) < (21 : Int) := h1
              have h0n : (0 : Int) ≤ (k : Int) := by omega
              have hwr : IntKind.i64.wrap ((m : Int) + (y.size : Int)) = (m : Int) + (y.size : Int) := IntWalk.i64_in _ ⟨by omega, by omega⟩
              clear hKd
              go_region_held3 (fun wx => wx.cell? ⟨b, k, none⟩ = some (.string y)) (first | assumption | go_keep) (first | (go_at_call 1; fail))
              clear hwr c0 c1 c2 c3 f0 f1 f2 f3 g0 g1 g2 g3 k0 k1 k2 k3 e2d e1d
              go_wp2
              obtain ⟨w5, hw5⟩ : ∃ w5, w5 = ((((w2.setCell ⟨w.heap.size, 0, none⟩ (.int .i64 4)).setCell ⟨w.heap.size, 1, none⟩ (.int .i64 0)).setCell ⟨w.heap.size, 2, none⟩ (.string y)).setCell ⟨w.heap.size, 3, none⟩ (.int .i64 (m : Int))).drew := ⟨_, rfl⟩
              rw [← hw5]
              have HK5 : Hid (Blk w5 w.heap.size 28 #[.int .i64 4, .int .i64 0, .string y, .int .i64 (m : Int)]) := Lib.hid (by rw [hw5]; exact HK2.out.tokT)
              have HB5 : Hid (Below w.heap.size w w5) := Lib.hid (by rw [hw5]; exact (below_tok HB2.out (Nat.le_refl _)).drew)
              clear hw5
              obtain ⟨⟨c0, c1, c2, c3⟩, f0, f1, f2, f3⟩ := HK5.out.four
              refine bodyPost_ret (v := Value.tuple #[.agg #[.int .i64 4, .int .i64 0, .string y, .int .i64 (m : Int)], .int .i64 ((m : Int) + (y.size : Int)), .int .i64 0]) (by simp [results, Tryd.results10, go_sem, c0, c1, c2, c3]) rfl ⟨?_, HB5.out⟩
              rw [HX.out]; rfl
          · have h1 : ¬ (k : Int) < 21 := by omega
            have HX : Hid (ans = .er m 15) := Lib.hid (by rw [← HANS.out]; unfold sgnR; rw [sgn_none (fun j hj => HK.out j (by omega))])
            obtain ⟨⟨c0, c1, c2, c3⟩, f0, f1, f2, f3⟩ := HK2.out.four
            go_wp2
            obtain ⟨w5, hw5⟩ : ∃ w5, w5 = (((w2.setCell ⟨w.heap.size, 0, none⟩ (.int .i64 0)).setCell ⟨w.heap.size, 1, none⟩ (.int .i64 0)).setCell ⟨w.heap.size, 2, none⟩ (.string { data := #[] })).setCell ⟨w.heap.size, 3, none⟩ (.int .i64 0) := ⟨_, rfl⟩
            rw [← hw5]
            have HK5 : Hid (Blk w5 w.heap.size 28 #[.int .i64 0, .int .i64 0, .string { data := #[] }, .int .i64 0]) := Lib.hid (by rw [hw5]; exact HK2.out.tokT)
            have HB5 : Hid (Below w.heap.size w w5) := Lib.hid (by rw [hw5]; exact below_tok HB2.out (Nat.le_refl _))
            clear c0 c1 c2 c3 f0 f1 f2 f3 hw5
            obtain ⟨⟨c0, c1, c2, c3⟩, f0, f1, f2, f3⟩ := HK5.out.four
            refine bodyPost_ret (v := Value.tuple #[.agg #[.int .i64 0, .int .i64 0, .string { data := #[] }, .int .i64 0], .int .i64 (m : Int), .int .i64 15]) (by simp [results, Tryd.results10, go_sem, c0, c1, c2, c3]) rfl ⟨?_, HB5.out⟩
            rw [HX.out]; rfl
end Go.Proofs.YtnmofkngengoeaaDoor
