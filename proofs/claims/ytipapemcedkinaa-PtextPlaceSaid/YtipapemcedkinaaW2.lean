/- write of layer 7 (ptext), whole. -/
import Derived.Test.YtipapemcedkinaaW1
namespace Go.Proofs.Ytipapemcedkinaa
open Go.RowKit Go.PlainAid

theorem szL_take2 : ∀ {l : List Ex} {i : Nat}, i < l.length → szL (l.take i) + (kd l i).sz ≤ szL l
  | t :: r, 0, _ => by simp only [List.take_zero, szL, kd, List.getD]; simp
  | t :: r, i + 1, h => by
    have h2 := szL_take2 (l := r) (i := i) (by simpa using h)
    rw [List.take_succ_cons, szL, szL, kd_cons]
    omega
theorem shpL_take : ∀ {l : List Ex} {i : Nat}, shpL l → shpL (l.take i)
  | [], i, _ => by simp [shpL]
  | t :: r, 0, _ => by simp [shpL]
  | t :: r, i + 1, h => by rw [List.take_succ_cons]; exact ⟨h.1, shpL_take h.2⟩
set_option maxRecDepth 100000 in
set_option maxHeartbeats 8000000 in
theorem p_write (B b : Nat) : ∀ n (t : Ex), t.sz ≤ n → ∀ (L : List Int) (A : Option Addr) (c : Nat) (w : World), shp t → L.length + 6 * t.sz ≤ 100000000 → Bd B b (sC L) w → B ≤ w.heap.size → Rep B w A t →
    Calls Try.prog 19 #[.pointer (some ⟨b, 0, none⟩), exV t A c] w (WrP B b (L ++ txt t) w (.tuple #[])) := by
  intro n
  induction n with
  | zero => intro t h; have := sz_eq t; omega
  | succ n ih =>
    intro t ht L A c w hs hL hd hB hR
    have hn := (shp_eq t).1 hs
    by_cases ho : t.op = 1 ∨ t.op = 2 ∨ t.op = 3
    · exact p_write_leaf B b t L A c w hs (by omega) hd hB ho
    · obtain ⟨m, hm⟩ : ∃ m : Nat, t.op = 4 + (m : Int) := ⟨(t.op - 4).toNat, by have := hn.1.1.1; omega⟩
      have hm7 : m < 7 := by have := hn.1.1.2; omega
      have hen := EntW.mk' (t := t) (A := A) (c := c) hd hB
      have HX := Lib.hid (txt_eq t)
      rw [if_neg (by omega), if_neg (by omega), if_neg (by omega)] at HX
      have HSG := Lib.hid (sgn_bt hm7)
      obtain ⟨W0, hW0⟩ : ∃ W, w.alloc (.cells (exC t A c) 25) = W := ⟨_, rfl⟩
      rw [hW0] at hen
      have HEN := Lib.hid hen
      have hW1 : w.alloc (.cells #[.int .i64 t.op, .int .i64 t.vr, .slice A t.ks.length c] 25) = W0 := hW0
      have y0 := hen.bx.cell 0
      have hk : t.ks.length ≤ 64 := by
        have h1 := hn.1.2.2.2
        have h2 : kidM t.op ≤ 64 := by unfold kidM; (repeat' split) <;> omega
        omega
      have hsz := sz_eq t
      have HIH : Hid (∀ i, i < t.ks.length → ∀ (M : List Int) (A : Option Addr) (c : Nat) (w : World), M.length + 6 * (kd t.ks i).sz ≤ 100000000 → Bd B b (sC M) w → B ≤ w.heap.size → Rep B w A (kd t.ks i) → Calls Try.prog 19 #[.pointer (some ⟨b, 0, none⟩), exV (kd t.ks i) A c] w (WrP B b (M ++ txt (kd t.ks i)) w (.tuple #[]))) := Lib.hid (fun i hi M A c w hM h1 h2 h3 => by
        have hz := kd_sz hi
        exact ih (kd t.ks i) (by omega) M A c w (shpL_kd hn.2 hi) hM h1 h2 h3)
      have HLEN : Hid (∀ i, i < t.ks.length → (L ++ 40 :: sgn t.op :: txtL (t.ks.take i)).length + 1 + 6 * (kd t.ks i).sz ≤ 100000000) := Lib.hid (fun i hi => by
        have h1 := szL_take2 hi
        have h2 := txtL_len (t.ks.take i) (shpL_take hn.2)
        simp only [List.length_append, List.length_cons]
        omega)
      have HLN2 : Hid ((L ++ 40 :: sgn t.op :: txtL t.ks).length ≤ 100000000) := Lib.hid (by
        have h2 := txtL_len t.ks hn.2
        simp only [List.length_append, List.length_cons]
        omega)
      have e1 : (t.op == 1) = false := by simp; omega
      have e2 : (t.op == 2) = false := by simp; omega
      have e3 : (t.op == 3) = false := by simp; omega
      have e4 : t.op - 4 = (m : Int) := by omega
      have hb := get_bt ⟨#[33, 38, 124, 94, 62, 61, 63]⟩
      have HR := Lib.hid hR
      have HM := Lib.hid hm
      have HW1 := Lib.hid (b_str (M := [40]) (s := ⟨#[40]⟩) hen.bd rfl (by simp; omega) hen.hB)
      clear hen hW0 ho hn hs hR ih hsz ht hm
      go_enter Try.func19, Try.ntmps19
      go_upto_region 3 with (go_at_call 34; (refine HW1.out.mono ?_); rintro e w2 ⟨rfl, h1, h2, h3, h4⟩; have k2 := HEN.out.bx.keep h3; have H1 := Lib.hid h1; have H2 := Lib.hid h2; have H3 := Lib.hid h3; clear h1 h2 h3)
      have z0 := k2.cell 0
      clear y0
      have HCH := Lib.hid (b_chr (x := Go.PlainAid.bt ⟨#[33, 38, 124, 94, 62, 61, 63]⟩ m) H1.out (bt_nonneg _ _) (bt_le _ _) (by simp; omega) (by have := HEN.out.hB; omega))
      go_upto_region 4 with (go_at_call 36; (refine HCH.out.mono ?_); rintro e w3 ⟨rfl, h1, h2, h3, h5⟩; have k3 := k2.keep h3; have H4 := Lib.hid h1; have H5 := Lib.hid h2; have H6 := Lib.hid h3; clear h1 h2 h3)
      have z2 := k3.cell 2
      have HB3 : Hid (Bd B b (sC (L ++ 40 :: sgn t.op :: txtL (t.ks.take 0))) w3) := Lib.hid (by
        have h := H4.out
        rw [HSG.out, ← HM.out] at h
        rw [show L ++ 40 :: sgn t.op :: txtL (t.ks.take 0) = L ++ [40] ++ [sgn t.op] by simp [txtL]]
        exact h)
      have HBL3 : Hid (Below B w w3) := Lib.hid (HEN.out.be.trans (H2.out.trans H5.out))
      have HKP3 : Hid (Keep w w3) := Lib.hid (HEN.out.kp.trans (H3.out.trans H6.out))
      clear z0 k2 k3 H1 H2 H3 H4 H5 H6 HCH HW1 hb e1 e2 e3 e4
      go_wp2_with fail
      clear z2
      go_loopw [19] (fun i wr => ∃ k : Nat, k ≤ t.ks.length ∧ i = .int .i64 (k : Int) ∧ Hid (Bd B b (sC (L ++ 40 :: sgn t.op :: txtL (t.ks.take k))) wr) ∧ Hid (Below B w wr) ∧ Hid (Keep w wr)) (fun i _ => t.ks.length - (intOf i).toNat)
      case atStart => exact ⟨0, Nat.zero_le _, rfl, HB3, HBL3, HKP3⟩
      case round =>
        obtain ⟨k, hkk, rfl, HD, HBL, HKP⟩ := hrel
        clear HB3 HBL3 HKP3
        have HSZ : Hid (B ≤ wr.heap.size) := Lib.hid (by have := HBL.out.size; omega)
        by_cases hlt : k < t.ks.length
        · have l1 : (k : Int) < (t.ks.length : Int) := by omega
          have l0 : (0 : Int) ≤ (k : Int) := by omega
          obtain ⟨g, f0, rfl, hg, hc⟩ := HR.out.out (by omega)
          obtain ⟨ka, kc, c0, c1, c2, hRk⟩ := hc k hlt
          have d0 := (HBL.out.cell (p := ⟨g, f0 + k * 3, none⟩) hg).trans c0
          have d1 := (HBL.out.cell (p := ⟨g, f0 + k * 3 + 1, none⟩) hg).trans c1
          have d2 := (HBL.out.cell (p := ⟨g, f0 + k * 3 + 2, none⟩) hg).trans c2
          have HRk := Lib.hid (hRk.under HBL.out)
          have HST := Lib.hid (txtL_step hlt)
          have HI2 := Lib.hid (HIH.out k hlt)
          have HL2 := Lib.hid (HLEN.out k hlt)
          obtain ⟨M, hM⟩ : ∃ M, L ++ 40 :: sgn t.op :: txtL (t.ks.take k) = M := ⟨_, rfl⟩
          have HMM := Lib.hid hM
          rw [hM] at HD HL2
          obtain ⟨u, hu⟩ : ∃ u, kd t.ks k = u := ⟨_, rfl⟩
          rw [hu] at d0 d1 d2 HRk HST HI2 HL2
          have HW5 : Hid (Bd B b (sC M) (wr.alloc (.cells (exC u ka kc) 25)) ∧ Blk (wr.alloc (.cells (exC u ka kc) 25)) wr.heap.size 25 (exC u ka kc) ∧ B ≤ (wr.alloc (.cells (exC u ka kc) 25)).heap.size ∧ Below B wr (wr.alloc (.cells (exC u ka kc) 25)) ∧ Keep wr (wr.alloc (.cells (exC u ka kc) 25))) := Lib.hid ⟨HD.out.below (balw _ _), Blk.new _ _ _, by have := HSZ.out; simp; omega, (balw _ _).mono HSZ.out, (Keep.refl wr).alloc _⟩
          have HWS := Lib.hid (b_str (M := [32]) (s := ⟨#[32]⟩) HW5.out.1 rfl (by have := HL2.out; simp; omega) HW5.out.2.2.1)
          have HIW : Hid (∀ w6, Bd B b (sC (M ++ [32])) w6 → Below B (wr.alloc (.cells (exC u ka kc) 25)) w6 → Calls Try.prog 19 #[.pointer (some ⟨b, 0, none⟩), exV u ka kc] w6 (WrP B b (M ++ [32] ++ txt u) w6 (.tuple #[]))) := Lib.hid (fun w6 h6 hb6 => HI2.out (M ++ [32]) ka kc w6 (by have := HL2.out; simp; omega) h6 (by have := hb6.size; have := HW5.out.2.2.1; omega) ((HRk.out.under HW5.out.2.2.2.1).under hb6))
          have HEND : Hid (∀ w7, Bd B b (sC (M ++ [32] ++ txt u)) w7 → Bd B b (sC (L ++ 40 :: sgn t.op :: txtL (t.ks.take (k + 1)))) w7) := Lib.hid (fun w7 h7 => by
            rw [HST.out, show L ++ 40 :: sgn t.op :: (txtL (t.ks.take k) ++ 32 :: txt u) = M ++ [32] ++ txt u by rw [← HMM.out]; simp]
            exact h7)
          clear hM hu c0 c1 c2 hRk hc
          go_upto_region 7 with fail
          clear d0 d1 d2
          go_wp2_with (first
            | (go_at_call 19; (refine (HIW.out _ H1.out H2.out).mono ?_); rintro e w7 ⟨rfl, h1, h2, h3, h5⟩; have HD7 := Lib.hid (HEND.out _ h1); have HB7 := Lib.hid ((HBL.out.trans HW5.out.2.2.2.1).trans (H2.out.trans h2)); have HK7 := Lib.hid ((HKP.out.trans HW5.out.2.2.2.2).trans (H3.out.trans h3)); clear h1 h2 h3)
            | (go_at_call 34; (refine HWS.out.mono ?_); rintro e w6 ⟨rfl, h1, h2, h3, h4⟩; have k6 := HW5.out.2.1.keep h3; have s0 := k6.cell 0; have s1 := k6.cell 1; have s2 := k6.cell 2; have H1 := Lib.hid h1; have H2 := Lib.hid h2; have H3 := Lib.hid h3; clear h1 h2 h3 k6))
          go_roundw
          case rel => exact ⟨k + 1, by omega, by go_num, HD7, HB7, HK7⟩
          case measure => simp [intOf]; omega
        · obtain rfl : k = t.ks.length := by omega
          have l1 : ¬ (t.ks.length : Int) < (t.ks.length : Int) := by omega
          have hD := HD.out
          rw [List.take_length] at hD
          have HW9 := Lib.hid (b_str (M := [41]) (s := ⟨#[41]⟩) hD rfl (by have := HLN2.out; simp at this ⊢; omega) HSZ.out)
          clear hD
          go_wp2_with (go_at_call 34; (refine HW9.out.mono ?_); rintro e w9 ⟨rfl, h1, h2, h3, h4⟩)
          go_end0
          refine ⟨rfl, ?_, HBL.out.trans h2, HKP.out.trans h3, (HBL.out.trans h2).size⟩
          rw [HX.out]
          rw [show L ++ 40 :: sgn t.op :: (txtL t.ks ++ [41]) = L ++ 40 :: sgn t.op :: txtL t.ks ++ [41] by simp]
          exact h1
end Go.Proofs.Ytipapemcedkinaa
