/- The walk of CntSums of layer 4 (cnt), over the translation. -/
import Derived.Test.YtjnabmchejdhpaaWk4
namespace Go.Proofs.Ytjnabmchejdhpaa
open Go.RowKit

theorem refsub_gen {w : World} {A B : Option Addr} {ca cb : Nat} {a b : List Int} (hA : Dn w A ca a) (hB : Dn w B cb b) (hal : a.length ≤ 1000) (hbl : b.length ≤ 1000) (x y : Int) (hx : valT a = x) (hy : valT b = y) (hle : y ≤ x) :
    Calls Try.prog 18 #[.slice A a.length ca, .slice B b.length cb] w fun e w' => ∃ D d l, e = .returned (.slice D l.length d) ∧ Dn w' D d l ∧ valT l = x - y ∧ l.length ≤ 1000 ∧ Below w.heap.size w w' := by
  refine (ref_Sub A B ca cb a b w hA hB (by omega) (by omega) (by omega)).mono ?_
  rintro e w' ⟨D, d, l, rfl, hN, hn, hv, hl, hb⟩
  exact ⟨D, d, l, rfl, hN, by rw [hv, hx, hy], by omega, hb⟩
theorem fewF_all {ns : List Nt} (h : fewF ns = true) : ns.length ≤ 20 ∧ ∀ i (h : i < ns.length), ns[i].2.2.length ≤ 40 := by
  have h1 : fewTo ns ns.length ∧ ns.length ≤ 20 := by unfold fewF at h; simpa using h
  exact ⟨h1.2, fun i hi => h1.1 i hi hi⟩
set_option maxHeartbeats 16000000 in
theorem cntSums_walk (L : Option Addr) (cl : Nat) (ns : List Nt) (A : Option Addr) (ca : Nat) (a : List Int) (B : Option Addr) (cb : Nat) (b : List Int) (w : World) (hL : NL w L ns) (hA : Nm w A ca a) (hB : Nm w B cb b) (hns : ns.length ≤ maxLen) :
    Calls Try.prog 3 #[.slice L ns.length cl, .slice A a.length ca, .slice B b.length cb] w fun e w' => e = .returned (.bool true) ∧ Below w.heap.size w w' := by
  obtain ⟨f1, hf1⟩ : ∃ f, fewF ns = f := ⟨_, rfl⟩
  obtain ⟨f2, hf2⟩ : ∃ f, fewF [(A, ca, a), (B, cb, b)] = f := ⟨_, rfl⟩
  have HF1 := Lib.hid (few_list L cl ns w hL hns)
  have HF2 : Hid (∀ w1, Below w.heap.size w w1 → ∀ t, Calls Try.prog 7 #[.slice (some ⟨w1.heap.size, 0, none⟩) 2 2] (w1.alloc (.cells #[.slice A a.length ca, .slice B b.length cb] t)) fun e w' => e = .returned (.bool f2) ∧ Below w1.heap.size w1 w') := Lib.hid (fun w1 hb t => by
    have h := few2 (hA.step hb) (hB.step hb) t
    rwa [hf2] at h)
  rw [hf1] at HF1
  have NA := Lib.hid hA
  have NB := Lib.hid hB
  have NS := Lib.hid hL
  clear hA hB hL
  cases f1
  · clear hf1 hf2
    go_enter Try.func3, Try.ntmps3
    go_wp2_with (first | (go_at_call 7; refine HF1.out.mono ?_; rintro e w1 ⟨rfl, hb1⟩) | (go_at_call 8; refine (law_lives _).mono ?_; rintro e w2 ⟨rfl, hb2⟩))
    go_ret
    exact ⟨rfl, step2 hb1 hb2⟩
  cases f2
  · clear hf1 hf2
    go_enter Try.func3, Try.ntmps3
    go_wp2_with (first | (go_at_call 7; first | (refine (HF2.out _ hb1 _).mono ?_; rintro e w2 ⟨rfl, hb2⟩) | (refine HF1.out.mono ?_; rintro e w1 ⟨rfl, hb1⟩)) | (go_at_call 8; refine (law_lives _).mono ?_; rintro e w3 ⟨rfl, hb3⟩))
    go_ret
    exact ⟨rfl, step2 (step2 hb1 hb2) hb3⟩
  have la := few_get hf2 0 (by simp)
  have lb := few_get hf2 1 (by simp)
  simp only [List.getElem_cons_zero, List.getElem_cons_succ] at la lb
  obtain ⟨hn20, hm⟩ := fewF_all hf1
  have HM := Lib.hid hm
  clear hf1 hf2 hm hns
  obtain ⟨r, hr⟩ : ∃ r, cmpF (val a) (val b) = r := ⟨_, rfl⟩
  obtain ⟨ok, hok⟩ : ∃ ok, decide (val b ≤ val a) = ok := ⟨_, rfl⟩
  obtain ⟨nr, hnr⟩ : ∃ n, nrm a = n := ⟨_, rfl⟩
  have hro : (0 ≤ r ∧ ok = true ∧ Hid (val b ≤ val a)) ∨ (¬ 0 ≤ r ∧ ok = false) := by
    by_cases h : val b ≤ val a
    · exact .inl ⟨by rw [← hr]; unfold cmpF; split <;> (try split) <;> omega, by rw [← hok]; simp [h], Lib.hid h⟩
    · exact .inr ⟨by rw [← hr]; unfold cmpF; rw [if_pos (by omega)]; omega, by rw [← hok]; simp [h]⟩
  have HR := Lib.hid hr
  have HOK := Lib.hid hok
  have HNR := Lib.hid hnr
  have HRO := Lib.hid hro
  clear hr hok hnr hro
  go_enter Try.func3, Try.ntmps3
  go_upto_region 3 with (go_at_call 7; first | (refine (HF2.out _ hb1 _).mono ?_; rintro e w2 ⟨rfl, hb2⟩) | (refine HF1.out.mono ?_; rintro e w1 ⟨rfl, hb1⟩))
  have k2 : Below w.heap.size w w2 := step2 hb1 hb2
  go_wp2
  go_loopw [7, 28] (fun v i wr => ∃ (k : Nat) (o : List Int) (D : Option Addr) (d : Nat), v = .slice D o.length d ∧ i = .int .i64 (k : Int) ∧ k ≤ ns.length ∧ o.length ≤ 460 + k ∧ Hid (Dn wr D d o ∧ valT o = sumV (ns.take k)) ∧ Below w.heap.size w wr) (fun _ i _ => ns.length - (intOf i).toNat)
  case atStart => exact ⟨0, [], none, 0, rfl, rfl, by omega, by simp, Lib.hid ⟨Dn.none _, rfl⟩, k2⟩
  case round =>
    obtain ⟨k, o, D, d, rfl, rfl, hk, hol, HO, hb⟩ := hrel
    by_cases hlt : k < ns.length
    · obtain ⟨b0, off, rfl, hg, hc⟩ := NS.out.1 (by omega)
      have e1 := (hb.cell (p := ⟨b0, off + k, none⟩) hg).trans (hc k hlt)
      have hlt' : (k : Int) < (ns.length : Int) := by omega
      have HX := Lib.hid ((NS.out.2 k hlt).step hb)
      have hlx := HM.out k hlt
      have HV := Lib.hid (sumV_succ hlt)
      generalize ns[k].1 = X at e1 HX
      generalize ns[k].2.1 = cx at e1 HX
      generalize ns[k].2.2 = x at e1 HX HV hlx
      have HFR := Lib.hid (from_nm HX.out hlx)
      clear hc
      go_wp2_with (first
        | (go_at_call 10; refine HFR.out.mono ?_; rintro e w3 ⟨D3, c3, p, rfl, n3, _, v3, m3, hb3⟩; have N3 := Lib.hid n3; have V3 := Lib.hid v3; clear n3 v3)
        | (go_at_call 9; refine (ref_Add D D3 d c3 o p (460 + k) w3 (HO.out.1.step hb3) N3.out (by omega) (by omega) (by omega)).mono ?_; rintro e w4 ⟨D4, c4, l4, rfl, n4, _, v4, m4, hb4⟩; have N4 := Lib.hid n4; have V4 := Lib.hid v4; clear n4 v4))
      have kb : Below w.heap.size w w4 := step2 (step2 hb hb3) hb4
      have HV4 : Hid (Dn w4 D4 c4 l4 ∧ valT l4 = sumV (ns.take (k + 1))) := Lib.hid ⟨N4.out, by rw [V4.out, HO.out.2, V3.out, HV.out]⟩
      go_roundw
      case rel => exact ⟨k + 1, _, _, _, by first | exact ⟨rfl, rfl⟩ | rfl, by go_num, by omega, by omega, HV4, kb⟩
      case measure => simp [intOf]; try omega
    · obtain rfl : k = ns.length := by omega
      have HS : Hid (valT o = sumV ns) := Lib.hid (by have h := HO.out.2; rwa [List.take_length] at h)
      have HD := Lib.hid HO.out.1
      clear HO
      go_upto_region 10 with (first
        | (go_at_call 10; refine (from_nm (NB.out.step (step2 hb hb3)) lb).mono ?_; rintro e w4 ⟨D4, c4, q, rfl, n4, _, v4, m4, hb4⟩; have N4 := Lib.hid n4; have V4 := Lib.hid v4; clear n4 v4)
        | (go_at_call 10; refine (from_nm (NA.out.step hb) la).mono ?_; rintro e w3 ⟨D3, c3, p, rfl, n3, _, v3, m3, hb3⟩; have N3 := Lib.hid n3; have V3 := Lib.hid v3; clear n3 v3))
      have P4 := Lib.hid (N3.out.step hb4)
      have k4 : Below w.heap.size w w4 := step2 (step2 hb hb3) hb4
      go_upto_region 11 with (go_at_call 11; refine (refcmp_gen P4.out N4.out (by omega) (by omega) _ _ r V3.out V4.out HR.out).mono ?_; rintro e w5 ⟨rfl, rfl⟩)
      go_upto_region 12 with (go_at_call 12; refine (sub_gen (NA.out.step k4) (NB.out.step k4) la lb ok HOK.out).mono ?_; rintro e w6 ⟨D6, c6, l6, rfl, n6, nn6, v6, z6, m6, hb6⟩; have N6 := Lib.hid n6; have NN6 := Lib.hid nn6; have V6 := Lib.hid v6; have Z6 := Lib.hid z6; clear n6 nn6 v6 z6)
      have k6 := step2 k4 hb6
      have HD6 := Lib.hid (HD.out.step (step2 (step2 hb3 hb4) hb6))
      have hADD := Lib.hid (fun (w2 : World) (h : Below w.heap.size w w2) => add_list L cl ns w2 (NS.out.step h) hn20 HM.out)
      have hro := HRO.out
      rcases hro with ⟨hr0, rfl, HLE⟩ | ⟨hr0, rfl⟩
      all_goals
        go_upto_region 14 with (first
          | (go_at_call 14; refine (hADD.out _ k6).mono ?_; rintro e w7 hR7; obtain ⟨D7, c7, l7, rfl, n7, nn7, v7, m7, hb7⟩ := hR7.nm; have N7 := Lib.hid n7; have NN7 := Lib.hid nn7; have V7 := Lib.hid v7; clear n7 nn7 v7 hR7)
          | (go_at_call 13; refine (is_nm N7.out (HD6.out.step hb7) (by omega) (by omega) NN7.out (by rw [V7.out, HS.out])).mono ?_; rintro e w8 ⟨rfl, hb8⟩)
          | (go_at_call 15; refine (cmp_nm (NA.out.step (step2 (step2 k6 hb7) hb8)) (NB.out.step (step2 (step2 k6 hb7) hb8)) (by omega) (by omega) r HR.out).mono ?_; rintro e w9 ⟨rfl, hb9⟩)
          | (go_at_call 16; refine (right_gen (NA.out.step (step2 (step2 (step2 k6 hb7) hb8) hb9)) la nr HNR.out).mono ?_; rintro e w10 ⟨rfl, hb10⟩)
          | (go_at_call 17; refine (refright_gen (NA.out.step (step2 (step2 (step2 (step2 k6 hb7) hb8) hb9) hb10)) la nr HNR.out).mono ?_; rintro e w11 ⟨rfl, rfl⟩))
      · have b610 := step2 (step2 (step2 hb7 hb8) hb9) hb10
        have k10 := step2 k6 b610
        have N6b := Lib.hid (N6.out.step b610)
        have HV6 : Hid (val l6 = val a - val b) := Lib.hid (by first | exact V6.out rfl | exact V6.out trivial | exact V6.out)
        have P10 := Lib.hid ((P4.out.step hb6).step b610)
        have Q10 := Lib.hid ((N4.out.step hb6).step b610)
        go_wp2_with (first
          | (go_at_call 8; refine (law_lives _).mono ?_; rintro e w12 ⟨rfl, hb12⟩)
          | (go_at_call 18; refine (refsub_gen (P10.out.step hb12) (Q10.out.step hb12) (by omega) (by omega) _ _ V3.out V4.out HLE.out).mono ?_; rintro e w13 ⟨D13, c13, l13, rfl, n13, v13, m13, hb13⟩; have N13 := Lib.hid n13; have V13 := Lib.hid v13; clear n13 v13)
          | (go_at_call 13; refine (is_nm ((N6b.out.step hb12).step hb13) N13.out (by omega) (by omega) NN6.out (by rw [HV6.out, V13.out])).mono ?_; rintro e w14 ⟨rfl, hb14⟩))
        go_ret
        exact ⟨by simp, step2 (step2 (step2 k10 hb12) hb13) hb14⟩
      · have b610 := step2 (step2 (step2 hb7 hb8) hb9) hb10
        have k10 := step2 k6 b610
        obtain rfl : l6 = [] := by first | exact Z6.out rfl | exact Z6.out trivial | exact Z6.out
        go_wp2_with (first
          | (go_at_call 8; refine (law_lives _).mono ?_; rintro e w12 ⟨rfl, hb12⟩))
        go_ret
        exact ⟨by simp, step2 k10 hb12⟩
end Go.Proofs.Ytjnabmchejdhpaa
