/- The walk of CntTexts of layer 4 (cnt), over the translation. -/
import Derived.Test.YtjnabmchejdhpaaWk2
import Derived.Test.YtjnabmchejdhpaaDtext
import Derived.Test.YtjnabmchejdhpaaDpars
import Derived.Test.YtjnabmchejdhpaaFnk
import Derived.Test.YtjnabmchejdhpaaFnl
namespace Go.Proofs.Ytjnabmchejdhpaa
open Go.RowKit Go.PlainAid

theorem nats1 {w : World} {A : Option Addr} {ca : Nat} {a : List Int} (t : TypeId) (hA : Nm w A ca a) :
    NatsAt (w.alloc (.cells #[.slice A a.length ca] t)) (w.alloc (.cells #[.slice A a.length ca] t)).heap.size w.heap.size 0 [(A, ca, a)] := by
  have hb : Below w.heap.size w (w.alloc (.cells #[.slice A a.length ca] t)) := (Below.refl _ _).alloc (Nat.le_refl _) _
  have hk := Blk.new w t #[.slice A a.length ca]
  refine ⟨by simp, fun i hi => ?_, fun i hi => ?_⟩
  · rw [Nat.zero_add, hk.cell]
    rcases i with _ | i
    · rfl
    · exact absurd hi (by simp)
  · rcases i with _ | i
    · exact hA.row.step hb
    · exact absurd hi (by simp)
theorem few1 {w : World} {A : Option Addr} {ca : Nat} {a : List Int} (hA : Nm w A ca a) (t : TypeId) :
    Calls Try.prog 7 #[.slice (some ⟨w.heap.size, 0, none⟩) 1 1] (w.alloc (.cells #[.slice A a.length ca] t)) fun e w' =>
      e = .returned (.bool (fewF [(A, ca, a)])) ∧ Below w.heap.size w w' := by
  refine (law_few w.heap.size 0 1 [(A, ca, a)] _ (nats1 t hA) (by simp)).mono ?_
  rintro e w' ⟨he, hb⟩
  exact ⟨he, step2 ((Below.refl _ _).alloc (Nat.le_refl _) _) hb⟩
open Classical in
noncomputable def codeS (s : ByteArray) : Int := if 2000 < s.size then 4 else if s.size = 0 ∨ (bt s 0 = 48 ∧ s.size ≠ 1) then 3 else if DigTo s s.size then 0 else 3
open Classical in
noncomputable def numS (s : ByteArray) : Int := if codeS s = 0 then valB s s.size else 0
theorem Nm.none (w : World) : Nm w none 0 [] := ⟨fun h => absurd h (by simp), Dig.nil, Nat.le_refl _, Nat.zero_le _, fun _ => rfl⟩
theorem Dn.none (w : World) : Dn w none 0 [] := ⟨RD.nil, DigT.nil, Nat.le_refl _, Nat.zero_le _, fun _ => rfl⟩
theorem first_ok {s : ByteArray} (h : ¬ (s.size = 0 ∨ (bt s 0 = 48 ∧ s.size ≠ 1))) : 0 < s.size ∧ (bt s 0 = 48 → s.size = 1) := by
  refine ⟨by omega, fun e => ?_⟩
  rcases Nat.lt_trichotomy s.size 1 with c | c | c
  · omega
  · exact c
  · exact absurd (.inr ⟨e, by omega⟩) h
theorem parse_any (s : ByteArray) (w : World) (c : Int) (x : Int) (hc : codeS s = c) (hx : numS s = x) :
    Calls Try.prog 25 #[.string s] w fun e w' => ∃ D d l, e = .returned (.tuple #[.slice D l.length d, .int .i64 c]) ∧ Nm w' D d l ∧ nrm l = true ∧ val l = x ∧ l.length ≤ 2000 ∧ Below w.heap.size w w' := by
  by_cases h1 : 2000 < s.size
  · have ec : codeS s = 4 := by unfold codeS; rw [if_pos h1]
    have ex : numS s = 0 := by unfold numS; rw [ec, if_neg (by decide)]
    refine (cnt_Parse_long s w h1).mono ?_
    rintro e w' ⟨rfl, hb⟩
    exact ⟨none, 0, [], by rw [← hc, ec]; rfl, Nm.none _, rfl, by rw [← hx, ex]; rfl, by simp, hb⟩
  · by_cases h2 : s.size = 0 ∨ (bt s 0 = 48 ∧ s.size ≠ 1)
    · have ec : codeS s = 3 := by unfold codeS; rw [if_neg h1, if_pos h2]
      have ex : numS s = 0 := by unfold numS; rw [ec, if_neg (by decide)]
      refine (cnt_Parse_zero s w (by omega) h2).mono ?_
      rintro e w' ⟨rfl, hb⟩
      exact ⟨none, 0, [], by rw [← hc, ec]; rfl, Nm.none _, rfl, by rw [← hx, ex]; rfl, by simp, hb⟩
    · obtain ⟨h3, h4⟩ := first_ok h2
      refine (cnt_Parse_some s w (by omega) h3 h4).mono ?_
      rintro e w' (⟨hd, v, rfl, hR⟩ | ⟨hd, rfl, hb⟩)
      · have ec : codeS s = 0 := by unfold codeS; rw [if_neg h1, if_neg h2, if_pos hd]
        have ex : numS s = valB s s.size := by unfold numS; rw [ec, if_pos rfl]
        obtain ⟨D, d, l, e, hN, hn, hv, hl, hb⟩ := hR.nm
        injection e with e
        subst e
        exact ⟨D, d, l, by rw [← hc, ec], hN, hn, by rw [hv, ← hx, ex], by omega, hb⟩
      · have ec : codeS s = 3 := by unfold codeS; rw [if_neg h1, if_neg h2, if_neg hd]
        have ex : numS s = 0 := by unfold numS; rw [ec, if_neg (by decide)]
        exact ⟨none, 0, [], by rw [← hc, ec]; rfl, Nm.none _, rfl, by rw [← hx, ex]; rfl, by simp, hb⟩
theorem refparse_any (s : ByteArray) (w : World) (c : Int) (x : Int) (hc : codeS s = c) (hx : numS s = x) :
    Calls Try.prog 26 #[.string s] w fun e w' => ∃ D d l, e = .returned (.tuple #[.slice D l.length d, .int .i64 c]) ∧ Dn w' D d l ∧ valT l = x ∧ l.length ≤ 2000 ∧ Below w.heap.size w w' := by
  by_cases h1 : 2000 < s.size
  · have ec : codeS s = 4 := by unfold codeS; rw [if_pos h1]
    have ex : numS s = 0 := by unfold numS; rw [ec, if_neg (by decide)]
    refine (ref_Parse_long s w h1).mono ?_
    rintro e w' ⟨rfl, hb⟩
    exact ⟨none, 0, [], by rw [← hc, ec]; rfl, Dn.none _, by rw [← hx, ex]; rfl, by simp, hb⟩
  · by_cases h2 : s.size = 0 ∨ (bt s 0 = 48 ∧ s.size ≠ 1)
    · have ec : codeS s = 3 := by unfold codeS; rw [if_neg h1, if_pos h2]
      have ex : numS s = 0 := by unfold numS; rw [ec, if_neg (by decide)]
      refine (ref_Parse_zero s w (by omega) h2).mono ?_
      rintro e w' ⟨rfl, hb⟩
      exact ⟨none, 0, [], by rw [← hc, ec]; rfl, Dn.none _, by rw [← hx, ex]; rfl, by simp, hb⟩
    · obtain ⟨h3, h4⟩ := first_ok h2
      refine (ref_Parse_some s w (by omega) h3 h4).mono ?_
      rintro e w' (⟨hd, v, rfl, D, d, l, e, hN, hn, hv, hl, hb⟩ | ⟨hd, rfl, hb⟩)
      · have ec : codeS s = 0 := by unfold codeS; rw [if_neg h1, if_neg h2, if_pos hd]
        have ex : numS s = valB s s.size := by unfold numS; rw [ec, if_pos rfl]
        injection e with e
        subst e
        exact ⟨D, d, l, by rw [← hc, ec], hN, by rw [hv, ← hx, ex], by omega, hb⟩
      · have ec : codeS s = 3 := by unfold codeS; rw [if_neg h1, if_neg h2, if_neg hd]
        have ex : numS s = 0 := by unfold numS; rw [ec, if_neg (by decide)]
        exact ⟨none, 0, [], by rw [← hc, ec]; rfl, Dn.none _, by rw [← hx, ex]; rfl, by simp, hb⟩
theorem text_gen {w : World} {A : Option Addr} {ca : Nat} {a : List Int} (hA : Nm w A ca a) (hal : a.length ≤ 40) (T : ByteArray) (hT : txt (val a).toNat = T) :
    Calls Try.prog 27 #[.slice A a.length ca] w fun e w' => e = .returned (.string T) ∧ Below w.heap.size w w' := by
  have h := text_nm hA (by omega)
  rwa [hT] at h
theorem reftext_gen {w : World} {A : Option Addr} {ca : Nat} {a : List Int} (hA : Dn w A ca a) (hn : nrmT a = true) (hal : a.length ≤ 10000) (x : Int) (hx : valT a = x) (T : ByteArray) (hT : txt x.toNat = T) :
    Calls Try.prog 28 #[.slice A a.length ca] w fun e w' => e = .returned (.string T) ∧ Below w.heap.size w w' := by
  have h := ref_Text A ca a w hA hn (by omega)
  rwa [hx, hT] at h
theorem of_gen (n : Int) (w : World) (h0 : 0 ≤ n) (h1 : n ≤ 18446744073709551615) : Calls Try.prog 29 #[.int .u64 n] w fun e w' => ∃ A c l, e = .returned (.slice A l.length c) ∧ Nm w' A c l ∧ nrm l = true ∧ val l = n ∧ l.length ≤ 2 ∧ Below w.heap.size w w' := by
  refine (cnt_Of n w h0 h1).mono ?_
  rintro e w' hR
  obtain ⟨A, c, l, rfl, hN, hn, hv, hl, hb⟩ := hR.nm
  exact ⟨A, c, l, rfl, hN, hn, hv, hl, hb⟩
theorem refof_gen (n : Int) (w : World) (h0 : 0 ≤ n) (h1 : n ≤ 18446744073709551615) : Calls Try.prog 30 #[.int .u64 n] w fun e w' => ∃ A c l, e = .returned (.slice A l.length c) ∧ Dn w' A c l ∧ valT l = n ∧ l.length ≤ 20 ∧ Below w.heap.size w w' := by
  refine (ref_Of n w h0 h1).mono ?_
  rintro e w' ⟨D, d, l, rfl, hN, hn, hv, hl, hb⟩
  exact ⟨D, d, l, rfl, hN, hv, hl, hb⟩
theorem refcmp_gen {w : World} {A B : Option Addr} {ca cb : Nat} {a b : List Int} (hA : Dn w A ca a) (hB : Dn w B cb b) (hal : a.length ≤ 1000000) (hbl : b.length ≤ 1000000) (x y r : Int) (hx : valT a = x) (hy : valT b = y) (hr : cmpF x y = r) :
    Calls Try.prog 11 #[.slice A a.length ca, .slice B b.length cb] w fun e w' => e = .returned (.int .i64 r) ∧ w = w' := by
  have h := ref_Cmp A B ca cb a b w hA hB (by omega) (by omega)
  rwa [hx, hy, hr] at h

set_option maxHeartbeats 8000000 in
theorem cntTexts_walk (A : Option Addr) (ca : Nat) (a : List Int) (s : ByteArray) (n : Int) (w : World) (hA : Nm w A ca a) (hn0 : 0 ≤ n) (hn1 : n ≤ 18446744073709551615) :
    Calls Try.prog 5 #[.slice A a.length ca, .string s, .int .u64 n] w fun e w' => e = .returned (.bool true) ∧ Below w.heap.size w w' := by
  have HF := Lib.hid (fun t => few1 hA t)
  obtain ⟨f, hf⟩ : ∃ f, fewF [(A, ca, a)] = f := ⟨_, rfl⟩
  rw [hf] at HF
  have NA := Lib.hid hA
  clear hA
  cases f
  · clear hf
    go_enter Try.func5, Try.ntmps5
    go_wp2_with (first | (go_at_call 7; refine (HF.out _).mono ?_; rintro e w1 ⟨rfl, hb1⟩) | (go_at_call 8; refine (law_lives _).mono ?_; rintro e w2 ⟨rfl, hb2⟩))
    go_ret
    exact ⟨rfl, step2 hb1 hb2⟩
  · have la := few_get hf 0 (by simp)
    simp only [List.getElem_cons_zero] at la
    clear hf
    by_cases hmid : 300 < s.size ∧ s.size ≤ 2000
    · have m1 : (300 : Int) < (s.size : Int) := by omega
      have m2 : (s.size : Int) ≤ 2000 := by omega
      go_enter Try.func5, Try.ntmps5
      go_wp2_with (first | (go_at_call 7; refine (HF.out _).mono ?_; rintro e w1 ⟨rfl, hb1⟩) | (go_at_call 8; refine (law_lives _).mono ?_; rintro e w2 ⟨rfl, hb2⟩))
      go_ret
      exact ⟨rfl, step2 hb1 hb2⟩
    · obtain ⟨q1, q2, hq1, hq2, hq3⟩ : ∃ q1 q2 : Bool, decide ((300 : Int) < (s.size : Int)) = q1 ∧ decide ((s.size : Int) ≤ 2000) = q2 ∧ (q1 = false ∨ (q1 = true ∧ q2 = false)) := by
        refine ⟨_, _, rfl, rfl, ?_⟩
        rcases Nat.lt_or_ge 300 s.size with h | h
        · right; simp; omega
        · left; simp; omega
      obtain ⟨c, hc⟩ : ∃ c, codeS s = c := ⟨_, rfl⟩
      obtain ⟨x, hx⟩ : ∃ x, numS s = x := ⟨_, rfl⟩
      obtain ⟨T, hT⟩ : ∃ T, txt (val a).toNat = T := ⟨_, rfl⟩
      have HC := Lib.hid hc
      have HX := Lib.hid hx
      have HT := Lib.hid hT
      have va := Lib.hid (val_lo NA.out.dig)
      clear hc hx hT hmid
      have HI : ∃ m ok, Hid (intV a = .tuple #[.int .u64 m, .bool ok]) ∧ 0 ≤ m ∧ m ≤ 18446744073709551615 ∧ ∃ r, Hid (cmpF (val a) 18446744073709551615 = r) ∧ ((0 < r ∧ ok = false ∧ m = 0) ∨ (¬ 0 < r ∧ ok = true ∧ Hid (cmpF m (val a) = 0))) := by
        have h0 := va.out
        by_cases hb : val a ≤ 18446744073709551615
        · refine ⟨val a, true, Lib.hid (by unfold intV; rw [if_pos hb]), h0, hb, _, Lib.hid rfl, .inr ⟨by unfold cmpF; split <;> (try split) <;> omega, rfl, Lib.hid (cmpF_self _)⟩⟩
        · refine ⟨0, false, Lib.hid (by unfold intV; rw [if_neg hb]), by omega, by omega, _, Lib.hid rfl, .inl ⟨by unfold cmpF; rw [if_neg (by omega), if_pos (by omega)]; omega, rfl, rfl⟩⟩
      obtain ⟨m, ok, HIV, hm0, hm1, r, HR, hcase⟩ := HI
      have HINT := Lib.hid (fun (w2 : World) (h : Nm w2 A ca a) => cnt_Int A ca a w2 h (by omega))
      rw [HIV.out] at HINT
      go_enter Try.func5, Try.ntmps5
      rcases hq3 with rfl | ⟨rfl, rfl⟩
      all_goals
        go_upto_region 3 with (go_at_call 7; refine (HF.out _).mono ?_; rintro e w1 ⟨rfl, hb1⟩)
        go_upto_region 4 with (go_at_call 10; refine (from_nm (NA.out.step hb1) la).mono ?_; rintro e w2 ⟨D2, c2, p, rfl, n2, nn2, v2, m2, hb2⟩; have N2 := Lib.hid n2; have NN2 := Lib.hid nn2; have V2 := Lib.hid v2; clear n2 nn2 v2)
        go_upto_region 5 with (go_at_call 25; refine (parse_any s _ c x HC.out HX.out).mono ?_; rintro e w3 ⟨D3, c3, l3, rfl, n3, nn3, v3, m3, hb3⟩; have N3 := Lib.hid n3; have NN3 := Lib.hid nn3; have V3 := Lib.hid v3; clear n3 nn3 v3)
        go_upto_region 6 with (go_at_call 26; refine (refparse_any s _ c x HC.out HX.out).mono ?_; rintro e w4 ⟨D4, c4, l4, rfl, n4, v4, m4, hb4⟩; have N4 := Lib.hid n4; have V4 := Lib.hid v4; clear n4 v4)
        have k4 : Below w.heap.size w w4 := step2 (step2 (step2 hb1 hb2) hb3) hb4
        have j4 : Below w2.heap.size w2 w4 := step2 hb3 hb4
        go_upto_region 8 with (first
          | (go_at_call 13; first
              | (refine (is_nm (N8.out.step hb9) N9.out (by omega) (by omega) NN8.out (by rw [V8.out, V9.out])).mono ?_; rintro e w10 ⟨rfl, hb10⟩)
              | (refine (is_nm (N3.out.step hb4) N4.out (by omega) (by omega) NN3.out (by rw [V3.out, V4.out])).mono ?_; rintro e w5 ⟨rfl, hb5⟩))
          | (go_at_call 27; refine (text_gen (NA.out.step (step2 k4 hb5)) la T HT.out).mono ?_; rintro e w6 ⟨rfl, hb6⟩)
          | (go_at_call 28; refine (reftext_gen (N2.out.step (step2 (step2 j4 hb5) hb6)) NN2.out (by omega) (val a) V2.out T HT.out).mono ?_; rintro e w7 ⟨rfl, hb7⟩)
          | (go_at_call 29; refine (of_gen n _ hn0 hn1).mono ?_; rintro e w8 ⟨D8, c8, l8, rfl, n8, nn8, v8, m8, hb8⟩; have N8 := Lib.hid n8; have NN8 := Lib.hid nn8; have V8 := Lib.hid v8; clear n8 nn8 v8)
          | (go_at_call 30; refine (refof_gen n _ hn0 hn1).mono ?_; rintro e w9 ⟨D9, c9, l9, rfl, n9, v9, m9, hb9⟩; have N9 := Lib.hid n9; have V9 := Lib.hid v9; clear n9 v9))
        have k10 : Below w4.heap.size w4 w10 := step2 (step2 (step2 (step2 (step2 hb5 hb6) hb7) hb8) hb9) hb10
        have k010 : Below w.heap.size w w10 := step2 k4 k10
        have P10 := Lib.hid (N2.out.step (step2 j4 k10))
        go_upto_region 9 with (go_at_call 31; refine (HINT.out _ (NA.out.step k010)).mono ?_; rintro e w11 ⟨rfl, hb11⟩)
        rcases hcase with ⟨hr, rfl, rfl⟩ | ⟨hr, rfl, HM⟩
        · go_wp2_with (first
            | (go_at_call 30; refine (refof_gen 18446744073709551615 _ (by omega) (by omega)).mono ?_; rintro e w12 ⟨D12, c12, l12, rfl, n12, v12, m12, hb12⟩; have N12 := Lib.hid n12; have V12 := Lib.hid v12; clear n12 v12)
            | (go_at_call 11; refine (refcmp_gen ((P10.out.step hb11).step hb12) N12.out (by omega) (by omega) _ _ r V2.out V12.out HR.out).mono ?_; rintro e w13 ⟨rfl, rfl⟩)
            | (go_at_call 8; refine (law_lives _).mono ?_; rintro e w14 ⟨rfl, hb14⟩))
          go_ret
          exact ⟨by simp, step2 (step2 (step2 k010 hb11) hb12) hb14⟩
        · go_wp2_with (first
            | (go_at_call 30; first
              | (refine (refof_gen m w14 hm0 hm1).mono ?_; rintro e w15 ⟨D15, c15, l15, rfl, n15, v15, m15, hb15⟩; have N15 := Lib.hid n15; have V15 := Lib.hid v15; clear n15 v15)
              | (refine (refof_gen 18446744073709551615 _ (by omega) (by omega)).mono ?_; rintro e w12 ⟨D12, c12, l12, rfl, n12, v12, m12, hb12⟩; have N12 := Lib.hid n12; have V12 := Lib.hid v12; clear n12 v12))
            | (go_at_call 11; first
              | (refine (refcmp_gen N15.out (((P10.out.step hb11).step hb12).step (step2 hb14 hb15)) (by omega) (by omega) _ _ 0 V15.out V2.out HM.out).mono ?_; rintro e w16 ⟨rfl, rfl⟩)
              | (refine (refcmp_gen ((P10.out.step hb11).step hb12) N12.out (by omega) (by omega) _ _ r V2.out V12.out HR.out).mono ?_; rintro e w13 ⟨rfl, rfl⟩))
            | (go_at_call 8; refine (law_lives _).mono ?_; rintro e w14 ⟨rfl, hb14⟩))
          go_ret
          exact ⟨by simp, step2 (step2 (step2 (step2 k010 hb11) hb12) hb14) hb15⟩
end Go.Proofs.Ytjnabmchejdhpaa
