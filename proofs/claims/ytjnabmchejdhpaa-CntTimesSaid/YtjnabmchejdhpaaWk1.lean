/- The walk of the law CntRings. -/
import Derived.Test.YtjnabmchejdhpaaFnj
import Derived.Test.YtjnabmchejdhpaaOpen
namespace Go.Proofs.Ytjnabmchejdhpaa
open Go.RowKit Go.PlainAid

theorem few_get {ns : List Nt} (h : fewF ns = true) (i : Nat) (hi : i < ns.length) : ns[i].2.2.length ≤ 40 := by
  have h1 : fewTo ns ns.length ∧ ns.length ≤ 20 := by unfold fewF at h; simpa using h
  exact h1.1 i hi hi
theorem few3 {w : World} {A B C : Option Addr} {ca cb cc : Nat} {a b c : List Int} (hA : Nm w A ca a) (hB : Nm w B cb b) (hC : Nm w C cc c) (t : TypeId) :
    Calls Try.prog 7 #[.slice (some ⟨w.heap.size, 0, none⟩) 3 3] (w.alloc (.cells #[.slice A a.length ca, .slice B b.length cb, .slice C c.length cc] t)) fun e w' =>
      e = .returned (.bool (fewF [(A, ca, a), (B, cb, b), (C, cc, c)])) ∧ Below w.heap.size w w' := by
  refine (law_few w.heap.size 0 3 [(A, ca, a), (B, cb, b), (C, cc, c)] _ (nats3 t hA hB hC) (by simp)).mono ?_
  rintro e w' ⟨he, hb⟩
  exact ⟨he, step2 ((Below.refl _ _).alloc (Nat.le_refl _) _) hb⟩
theorem add_nm {w : World} {A B : Option Addr} {ca cb : Nat} {a b : List Int} (hA : Nm w A ca a) (hB : Nm w B cb b) (t : TypeId) (M : Nat) (hal : a.length ≤ M) (hbl : b.length ≤ M) (hM : M ≤ 1000) :
    Calls Try.prog 14 #[.slice (some ⟨w.heap.size, 0, none⟩) 2 2] (w.alloc (.cells #[.slice A a.length ca, .slice B b.length cb] t)) fun e w' =>
      ∃ D d l, e = .returned (.slice D l.length d) ∧ Nm w' D d l ∧ nrm l = true ∧ val l = val a + val b ∧ l.length ≤ M + 2 ∧ Below w.heap.size w w' := by
  refine (cnt_Add w.heap.size 0 2 M [(A, ca, a), (B, cb, b)] _ (nats2 t hA hB) (fun i h => ?_) (fun i h => ?_) (by omega) (by simp)).mono ?_
  · rcases i with _ | _ | i
    · exact hA.dig
    · exact hB.dig
    · exact absurd h (by simp)
  · rcases i with _ | _ | i
    · exact hal
    · exact hbl
    · exact absurd h (by simp)
  · rintro e w' hR
    obtain ⟨D, d, l, rfl, hN, hn, hv, hl, hb⟩ := hR.nm
    refine ⟨D, d, l, rfl, hN, hn, ?_, hl, step2 ((Below.refl _ _).alloc (Nat.le_refl _) _) hb⟩
    rw [hv]; show val a + (val b + 0) = _; omega
theorem sub_nm {w : World} {A B : Option Addr} {ca cb : Nat} {a b : List Int} (hA : Nm w A ca a) (hB : Nm w B cb b) (hal : a.length ≤ 1000000) (hbl : b.length ≤ 1000000) (hle : val b ≤ val a) :
    Calls Try.prog 12 #[.slice A a.length ca, .slice B b.length cb] w fun e w' => ∃ D d l, e = .returned (.tuple #[.slice D l.length d, .bool true]) ∧ Nm w' D d l ∧ val l = val a - val b ∧ l.length ≤ a.length ∧ Below w.heap.size w w' := by
  refine (cnt_Sub_yes A B ca cb a b w hA.row hB.row hA.dig hB.dig (by omega) (by omega) hA.cap hB.cap hA.max hB.max hle).mono ?_
  rintro e w' ⟨v, rfl, hR⟩
  obtain ⟨D, d, l, e, hN, hn, hv, hl, hb⟩ := hR.nm
  injection e with e
  subst e
  exact ⟨D, d, l, rfl, hN, hv, hl, hb⟩
theorem shift1_nm {w : World} {A : Option Addr} {ca : Nat} {a : List Int} (hA : Nm w A ca a) (hal : a.length ≤ 1000000) :
    Calls Try.prog 23 #[.slice A a.length ca, .int .i64 1] w fun e w' => ∃ D d l, e = .returned (.slice D l.length d) ∧ Nm w' D d l ∧ val l = 2 * val a ∧ l.length ≤ a.length + 1 ∧ Below w.heap.size w w' := by
  refine (cnt_Shift A ca a 1 1 w hA.row hA.dig (by omega) (by omega) (by decide)).mono ?_
  rintro e w' hR
  obtain ⟨D, d, l, rfl, hN, hn, hv, hl, hb⟩ := hR.nm
  exact ⟨D, d, l, rfl, hN, hv, by omega, hb⟩
theorem half_nm {w : World} {A : Option Addr} {ca : Nat} {a : List Int} (hA : Nm w A ca a) (hal : a.length ≤ 1000000) (x : Int) (hx : val a = 2 * x) :
    Calls Try.prog 19 #[.slice A a.length ca] w fun e w' => ∃ D d l, e = .returned (.tuple #[.slice D l.length d, .bool false]) ∧ Nm w' D d l ∧ nrm l = true ∧ val l = x ∧ l.length ≤ a.length ∧ Below w.heap.size w w' := by
  refine (cnt_Half A ca a w hA.row hA.dig (by omega)).mono ?_
  rintro e w' ⟨v, rfl, hR⟩
  obtain ⟨D, d, l, e, hN, hn, hv, hl, hb⟩ := hR.nm
  injection e with e
  subst e
  refine ⟨D, d, l, ?_, hN, hn, by rw [hv]; omega, hl, hb⟩
  rw [decide_eq_false (by omega)]
theorem parse_nm (n : Nat) (w : World) (hn : n < 10 ^ 1000) :
    Calls Try.prog 25 #[.string (txt n)] w fun e w' => ∃ D d l, e = .returned (.tuple #[.slice D l.length d, .int .i64 0]) ∧ Nm w' D d l ∧ nrm l = true ∧ val l = n ∧ l.length ≤ 1000 ∧ Below w.heap.size w w' := by
  have hs := txt_size n 1000 (by omega) hn
  refine (cnt_Parse_ok (txt n) w (by omega) (dec_txt n)).mono ?_
  rintro e w' ⟨v, rfl, hR⟩
  obtain ⟨D, d, l, e, hN, hnn, hv, hl, hb⟩ := hR.nm
  injection e with e
  subst e
  exact ⟨D, d, l, rfl, hN, hnn, by rw [hv, val_txt], by omega, hb⟩
theorem cmp_nm {w : World} {A B : Option Addr} {ca cb : Nat} {a b : List Int} (hA : Nm w A ca a) (hB : Nm w B cb b) (hal : a.length ≤ 1000000) (hbl : b.length ≤ 1000000) (r : Int) (hr : cmpF (val a) (val b) = r) :
    Calls Try.prog 15 #[.slice A a.length ca, .slice B b.length cb] w fun e w' => e = .returned (.int .i64 r) ∧ Below w.heap.size w w' := by
  have := cnt_Cmp A B ca cb a b w hA.row hB.row hA.dig hB.dig (by omega) (by omega) hA.cap hB.cap hA.max hB.max
  rw [hr] at this; exact this
theorem same_nm {w : World} {A B : Option Addr} {ca cb : Nat} {a b : List Int} (hA : Nm w A ca a) (hB : Nm w B cb b) (hal : a.length ≤ 1000000) (hbl : b.length ≤ 1000000) (na : nrm a = true) (nb : nrm b = true) (hv : val a = val b) :
    Calls Try.prog 32 #[.slice A a.length ca, .slice B b.length cb] w fun e w' => e = .returned (.bool true) ∧ Below w.heap.size w w' := by
  have h := law_same A B ca cb a b w hA.row hB.row (by omega) (by omega)
  rw [decide_eq_true (nrm_inj hA.dig hB.dig na nb hv)] at h
  exact h
theorem cmpF_neg (x y : Int) : cmpF x y = -cmpF y x ∧ -1 ≤ cmpF y x ∧ cmpF y x ≤ 1 := by
  unfold cmpF
  split <;> split <;> (try split) <;> omega
theorem cmpF_self (x : Int) : cmpF x x = 0 := by unfold cmpF; simp
theorem val_10 {a : List Int} (h : Dig a) (hl : a.length ≤ 100) : (val a).toNat < 10 ^ 1000 := by
  have h1 := val_hi h
  have h2 := pw_mono hl
  have h3 : pw 100 < ((10 ^ 1000 : Nat) : Int) := by decide +kernel
  omega

set_option maxHeartbeats 8000000 in
theorem cntRings_walk (A : Option Addr) (ca : Nat) (a : List Int) (B : Option Addr) (cb : Nat) (b : List Int) (C : Option Addr) (cc : Nat) (c : List Int) (w : World) (hA : Nm w A ca a) (hB : Nm w B cb b) (hC : Nm w C cc c) :
    Calls Try.prog 6 #[.slice A a.length ca, .slice B b.length cb, .slice C c.length cc] w fun e w' => e = .returned (.bool true) ∧ Below w.heap.size w w' := by
  have HF := Lib.hid (fun t => few3 hA hB hC t)
  obtain ⟨f, hf⟩ : ∃ f, fewF [(A, ca, a), (B, cb, b), (C, cc, c)] = f := ⟨_, rfl⟩
  rw [hf] at HF
  have NA := Lib.hid hA
  have NB := Lib.hid hB
  have NC := Lib.hid hC
  clear hA hB hC
  cases f
  · clear hf
    go_enter Try.func6, Try.ntmps6
    go_wp2_with (first | (go_at_call 7; refine (HF.out _).mono ?_; rintro e w1 ⟨rfl, hb1⟩) | (go_at_call 8; refine (law_lives _).mono ?_; rintro e w2 ⟨rfl, hb2⟩))
    go_ret
    exact ⟨rfl, step2 hb1 hb2⟩
  · have la := few_get hf 0 (by simp)
    have lb := few_get hf 1 (by simp)
    have lc := few_get hf 2 (by simp)
    simp only [List.getElem_cons_zero, List.getElem_cons_succ] at la lb lc
    clear hf
    have va := Lib.hid (val_lo NA.out.dig)
    go_enter Try.func6, Try.ntmps6
    go_upto_region 3 with (go_at_call 7; refine (HF.out _).mono ?_; rintro e w1 ⟨rfl, hb1⟩)
    go_upto_region 4 with (go_at_call 14; refine (add_nm (NA.out.step hb1) (NB.out.step hb1) _ 40 la lb (by omega)).mono ?_; rintro e w2 ⟨S, cs, s, rfl, n2, nn2, v2, m2, hb2⟩; have NS := Lib.hid n2; have NNS := Lib.hid nn2; have VS := Lib.hid v2; clear n2 nn2 v2)
    have vb := Lib.hid (val_lo NB.out.dig)
    go_upto_region 5 with (go_at_call 12; refine (sub_nm NS.out (NB.out.step (step2 hb1 hb2)) (by omega) (by omega) (by have h1 := va.out; have h2 := vb.out; rw [VS.out]; omega)).mono ?_; rintro e w3 ⟨D3, c3, d3, rfl, n3, v3, m3, hb3⟩; have N3 := Lib.hid n3; have V3 := Lib.hid v3; clear n3 v3)
    go_upto_region 6 with (first | (go_at_call 23; refine (shift1_nm (NS.out.step hb3) (by omega)).mono ?_; rintro e w4 ⟨D4, c4, l4, rfl, n4, v4, m4, hb4⟩; have N4 := Lib.hid n4; have V4 := Lib.hid v4; clear n4 v4) | (go_at_call 19; refine (half_nm N4.out (by omega) (val s) V4.out).mono ?_; rintro e w5 ⟨D5, c5, l5, rfl, n5, nn5, v5, m5, hb5⟩; have N5 := Lib.hid n5; have NN5 := Lib.hid nn5; have V5 := Lib.hid v5; clear n5 nn5 v5))
    have hb35 : Below w3.heap.size w3 w5 := step2 hb4 hb5
    have hS10 := Lib.hid (val_10 NS.out.dig (by omega))
    go_upto_region 7 with (first | (go_at_call 27; refine (text_nm ((NS.out.step hb3).step hb35) (by omega)).mono ?_; rintro e w6 ⟨rfl, hb6⟩) | (go_at_call 25; refine (parse_nm _ w6 hS10.out).mono ?_; rintro e w7 ⟨D7, c7, l7, rfl, n7, nn7, v7, m7, hb7⟩; have N7 := Lib.hid n7; have NN7 := Lib.hid nn7; have V7 := Lib.hid v7; clear n7 nn7 v7))
    have hb57 : Below w5.heap.size w5 w7 := step2 hb6 hb7
    have hb27 : Below w2.heap.size w2 w7 := step2 hb3 (step2 hb35 hb57)
    have hb07 : Below w.heap.size w w7 := step2 (step2 hb1 hb2) hb27
    have hSl : val s = ((val s).toNat : Int) := by have := val_lo NS.out.dig; omega
    have HSL := Lib.hid hSl
    clear hSl
    go_upto_region 9 with (first
      | (go_at_call 15; refine (cmp_nm ((N3.out.step hb35).step hb57) (NA.out.step hb07) (by omega) (by omega) 0 (by rw [V3.out, VS.out, show val a + val b - val b = val a by omega]; exact cmpF_self _)).mono ?_; rintro e w8 ⟨rfl, hb8⟩)
      | (go_at_call 32; first
          | (refine (same_nm ((N7.out.step hb8).step hb9) (((NS.out.step hb27).step hb8).step hb9) (by omega) (by omega) NN7.out NNS.out (by rw [V7.out, ← HSL.out])).mono ?_; rintro e w10 ⟨rfl, hb10⟩)
          | (refine (same_nm ((N5.out.step hb57).step hb8) ((NS.out.step hb27).step hb8) (by omega) (by omega) NN5.out NNS.out V5.out).mono ?_; rintro e w9 ⟨rfl, hb9⟩)))
    have k10 : Below w.heap.size w w10 := step2 (step2 (step2 hb07 hb8) hb9) hb10
    have j10 : Below w2.heap.size w2 w10 := step2 (step2 (step2 hb27 hb8) hb9) hb10
    obtain ⟨r, hr⟩ : ∃ r, cmpF (val b) (val a) = r := ⟨_, rfl⟩
    obtain ⟨hc1, hc2, hc3⟩ := cmpF_neg (val a) (val b)
    rw [hr] at hc1 hc2 hc3
    have HR1 := Lib.hid hr
    have HR2 := Lib.hid hc1
    clear hr hc1
    go_wp2_with (first
      | (go_at_call 8; refine (law_lives _).mono ?_; rintro e w11 ⟨rfl, hb11⟩; have k11 := step2 k10 hb11; have j11 := step2 j10 hb11)
      | (go_at_call 14; refine (add_nm (N13.out.step hb14) N14.out _ 100 (by omega) (by omega) (by omega)).mono ?_; rintro e w15 ⟨D15, c15, l15, rfl, n15, nn15, v15, m15, hb15⟩; have N15 := Lib.hid n15; have NN15 := Lib.hid nn15; have V15 := Lib.hid v15; have k15 := step2 k14 hb15; clear n15 nn15 v15)
      | (go_at_call 32; first
          | (refine (same_nm (N17.out.step hb18) N18.out (by omega) (by omega) NN17.out NN18.out (by rw [V17.out, V18.out, Int.mul_comm])).mono ?_; rintro e w19 ⟨rfl, hb19⟩; have k19 := step2 k18 hb19)
          | (refine (same_nm (((N12.out.step hb13).step hb14).step hb15) N15.out (by omega) (by omega) NN12.out NN15.out (by rw [V12.out, V15.out, V13.out, V14.out, VS.out, Int.add_mul])).mono ?_; rintro e w16 ⟨rfl, hb16⟩; have k16 := step2 k15 hb16))
      | (go_at_call 15; first
          | (refine (cmp_nm (NB.out.step k20) (NA.out.step k20) (by omega) (by omega) r HR1.out).mono ?_; rintro e w21 ⟨rfl, hb21⟩; have k21 := step2 k20 hb21)
          | (refine (cmp_nm (NA.out.step k19) (NB.out.step k19) (by omega) (by omega) (-r) HR2.out).mono ?_; rintro e w20 ⟨rfl, hb20⟩; have k20 := step2 k19 hb20))
      | (go_at_call 21; first
          | (refine (mul_nm (NB.out.step k17) (NA.out.step k17) (by omega) (by omega)).mono ?_; rintro e w18 ⟨D18, c18, l18, rfl, n18, nn18, v18, m18, hb18⟩; have N18 := Lib.hid n18; have NN18 := Lib.hid nn18; have V18 := Lib.hid v18; have k18 := step2 k17 hb18; clear n18 nn18 v18)
          | (refine (mul_nm (NA.out.step k16) (NB.out.step k16) (by omega) (by omega)).mono ?_; rintro e w17 ⟨D17, c17, l17, rfl, n17, nn17, v17, m17, hb17⟩; have N17 := Lib.hid n17; have NN17 := Lib.hid nn17; have V17 := Lib.hid v17; have k17 := step2 k16 hb17; clear n17 nn17 v17)
          | (refine (mul_nm (NB.out.step k13) (NC.out.step k13) (by omega) (by omega)).mono ?_; rintro e w14 ⟨D14, c14, l14, rfl, n14, nn14, v14, m14, hb14⟩; have N14 := Lib.hid n14; have NN14 := Lib.hid nn14; have V14 := Lib.hid v14; have k14 := step2 k13 hb14; clear n14 nn14 v14)
          | (refine (mul_nm (NA.out.step k12) (NC.out.step k12) (by omega) (by omega)).mono ?_; rintro e w13 ⟨D13, c13, l13, rfl, n13, nn13, v13, m13, hb13⟩; have N13 := Lib.hid n13; have NN13 := Lib.hid nn13; have V13 := Lib.hid v13; have k13 := step2 k12 hb13; clear n13 nn13 v13)
          | (refine (mul_nm (NS.out.step j11) (NC.out.step k11) (by omega) (by omega)).mono ?_; rintro e w12 ⟨D12, c12, l12, rfl, n12, nn12, v12, m12, hb12⟩; have N12 := Lib.hid n12; have NN12 := Lib.hid nn12; have V12 := Lib.hid v12; have k12 := step2 k11 hb12; clear n12 nn12 v12)))
    go_ret
    exact ⟨by simp, k21⟩
end Go.Proofs.Ytjnabmchejdhpaa
