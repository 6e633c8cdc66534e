/- The contract of value, of layer 6 (prop). -/
import Derived.Test.YtakhdlidikbnjaaFnD
import Derived.Deep.RegionHeld3
namespace Go.Proofs.Ytakhdlidikbnjaa
open Go.RowKit

theorem two_box {w : World} {o v : Int} {A L : Option Addr} {n m c cl : Nat} :
    Blk ((w.alloc (.cells #[.int .i64 o, .int .i64 v, .slice A n c] 24)).alloc (.cells #[.slice L m cl] 42)) w.heap.size 24 #[.int .i64 o, .int .i64 v, .slice A n c] ∧ Blk ((w.alloc (.cells #[.int .i64 o, .int .i64 v, .slice A n c] 24)).alloc (.cells #[.slice L m cl] 42)) (w.heap.size + 1) 42 #[.slice L m cl] ∧ Below w.heap.size w ((w.alloc (.cells #[.int .i64 o, .int .i64 v, .slice A n c] 24)).alloc (.cells #[.slice L m cl] 42)) := by
  have b0 := Blk.new w 24 #[.int .i64 o, .int .i64 v, .slice A n c]
  have b1 := Blk.new (w.alloc (.cells #[.int .i64 o, .int .i64 v, .slice A n c] 24)) 42 #[.slice L m cl]
  have z1 : (w.alloc (.cells #[.int .i64 o, .int .i64 v, .slice A n c] 24)).heap.size = w.heap.size + 1 := by simp
  rw [z1] at b1
  exact ⟨b0.alloc _, b1, al (al (Below.refl _ _) _) _⟩
set_option maxRecDepth 100000 in
set_option maxHeartbeats 4000000 in
theorem pr_value : ∀ (n : Nat) t, t.sz ≤ n → n ≤ 100000000 → okT t → ∀ A c (L : Option Addr) (cl : Nat) (l : List Bool) w, l.length ≤ 1000000000 → Rep w.heap.size w A t → RB w w.heap.size L l → Calls Try.prog 39 #[exV t A c, .slice L l.length cl] w (ValP w (val l t)) := by
  intro n
  induction n with
  | zero => intro t h; have := sz_eq t; omega
  | succ n ih =>
    intro t ht hn hok A c L cl l w hl hR hL
    have hlen := szL_len t.ks
    have hszt := sz_eq t
    have hkb : t.ks.length ≤ 1000000000 := by omega
    rw [okT_eq] at hok
    obtain ⟨hk0, hv0, hkk⟩ := hok
    have hv : ∀ i, i < t.ks.length → ∀ A c w, Rep w.heap.size w A (kd t.ks i) → RB w w.heap.size L l → Calls Try.prog 39 #[exV (kd t.ks i) A c, .slice L l.length cl] w (ValP w (val l (kd t.ks i))) := fun i hi A c w hR hL => ih (kd t.ks i) (by have := kd_sz hi; omega) (by omega) (okL_mem hkk hi) A c L cl l w hl hR hL
    have hbl := valL_len l t.ks
    have hat : ∀ i, i < t.ks.length → (valL l t.ks).getD i false = val l (kd t.ks i) := fun i hi => valL_at l hi
    obtain ⟨bs, hbs⟩ : ∃ bs, valL l t.ks = bs := ⟨_, rfl⟩
    have hhold := fun w hR hL => pr_holding t A c L cl l w hkb hR hL hv
    rw [val_eq]
    show Calls Try.prog 39 #[.agg #[.int .i64 t.op, .int .i64 t.vr, .slice A t.ks.length c], .slice L l.length cl] w (ValP w (valO t.op t.vr (valL l t.ks) l))
    rw [hbs] at hbl hat hhold ⊢
    have hkid : ∀ (W w1 : World), Below w.heap.size w W → Blk W w.heap.size 24 (exC t A c) → Blk W (w.heap.size + 1) 42 #[.slice L l.length cl] → Below W.heap.size W w1 → ∀ i, i < t.ks.length → Calls Try.prog 50 #[.int .i64 (i : Int), .pointer (some ⟨w.heap.size, 0, none⟩), .pointer (some ⟨w.heap.size + 1, 0, none⟩)] w1 (ValP w1 (bs.getD i false)) := fun W w1 hW h1 h2 hb i hi => by
      have hb2 := hW.trans (hb.mono hW.size)
      rw [hat i hi]
      exact pr_kid t A c L cl l w.heap.size (w.heap.size + 1) i _ w1 hi hkb (h1.below hb h1.lt) (h2.below hb h2.lt) (hR.step hb2) (hL.step hb2) (hv i hi)
    unfold exC at hkid
    have HHOLD := Lib.hid (fun (w1 : World) (hb : Below w.heap.size w w1) => hhold w1 (hR.step hb) (hL.step hb))
    have HL := Lib.hid hL
    clear hv hat hhold hbs ih hkk hR hL hszt hlen ht
    have hcl : bs.countP id ≤ t.ks.length := by rw [← hbl]; exact List.countP_le_length
    generalize t.op = o at *
    generalize t.vr = v at *
    generalize t.ks.length = m at *
    obtain ⟨W, hW⟩ : ∃ W, (w.alloc (.cells #[.int .i64 o, .int .i64 v, .slice A m c] 24)).alloc (.cells #[.slice L l.length cl] 42) = W := ⟨_, rfl⟩
    obtain ⟨hb0, hb1, hbW⟩ := two_box (w := w) (o := o) (v := v) (A := A) (L := L) (n := m) (m := l.length) (c := c) (cl := cl)
    rw [hW] at hb0 hb1 hbW
    have HK : Hid (∀ w1, Below W.heap.size W w1 → ∀ i, i < m → Calls Try.prog 50 #[.int .i64 (i : Int), .pointer (some ⟨w.heap.size, 0, none⟩), .pointer (some ⟨w.heap.size + 1, 0, none⟩)] w1 (ValP w1 (bs.getD i false))) := Lib.hid (fun w1 hb i hi => hkid W w1 hbW hb0 hb1 hb i hi)
    have HQ : Hid (∀ w1, Below W.heap.size W w1 → (w1.cell? ⟨w.heap.size, 0, none⟩ = some (.int .i64 o) ∧ w1.cell? ⟨w.heap.size, 1, none⟩ = some (.int .i64 v) ∧ w1.cell? ⟨w.heap.size, 2, none⟩ = some (.slice A m c)) ∧ w1.cell? ⟨w.heap.size + 1, 0, none⟩ = some (.slice L l.length cl)) := Lib.hid (fun w1 hb => by
      have g0 := hb0.below hb hb0.lt
      have g1 := hb1.below hb hb1.lt
      exact ⟨⟨g0.cell 0, g0.cell 1, g0.cell 2⟩, g1.cell 0⟩)
    have HW := Lib.hid hW
    have HBW := Lib.hid hbW
    have HBL := Lib.hid hbl
    have hsW : W.heap.size = w.heap.size + 1 + 1 := by rw [← hW]; simp
    have HSW := Lib.hid hsW
    clear hkid hb0 hb1 hbW hW hbl hsW
    obtain ⟨R, hR⟩ : ∃ R, valO o v bs l = R := ⟨_, rfl⟩
    rw [hR]
    have HK0 : Hid (∀ w1, Below W.heap.size W w1 → 0 < m → Calls Try.prog 50 #[.int .i64 0, .pointer (some ⟨w.heap.size, 0, none⟩), .pointer (some ⟨w.heap.size + 1, 0, none⟩)] w1 (ValP w1 (bs.getD 0 false))) := Lib.hid (fun w1 hb h => HK.out w1 hb 0 h)
    have HK1 : Hid (∀ w1, Below W.heap.size W w1 → 1 < m → Calls Try.prog 50 #[.int .i64 1, .pointer (some ⟨w.heap.size, 0, none⟩), .pointer (some ⟨w.heap.size + 1, 0, none⟩)] w1 (ValP w1 (bs.getD 1 false))) := Lib.hid (fun w1 hb h => HK.out w1 hb 1 h)
    have HK2 : Hid (∀ w1, Below W.heap.size W w1 → 2 < m → Calls Try.prog 50 #[.int .i64 2, .pointer (some ⟨w.heap.size, 0, none⟩), .pointer (some ⟨w.heap.size + 1, 0, none⟩)] w1 (ValP w1 (bs.getD 2 false))) := Lib.hid (fun w1 hb h => HK.out w1 hb 2 h)
    by_cases h1 : o = 1
    · subst h1
      have HRR : Hid (R = _) := Lib.hid hR.symm
      unfold valO at HRR
      simp only [if_true, if_false, Int.reduceEq] at HRR
      clear hR
      go_enter Try.func39, Try.ntmps39
      go_wp2
      go_ret
      rw [HRR.out]
      rw [HW.out]
      exact ⟨rfl, HBW.out⟩
    by_cases h3 : o = 3
    · subst h3
      have HRR : Hid (R = _) := Lib.hid hR.symm
      unfold valO at HRR
      simp only [if_true, if_false, Int.reduceEq] at HRR
      clear hR
      obtain ⟨k, rfl⟩ := Int.eq_ofNat_of_zero_le hv0
      by_cases hlt : k < l.length
      · have l1 : (k : Int) < (l.length : Int) := by omega
        obtain ⟨bb, off, rfl, hbl, hc⟩ := HL.out (by omega)
        have c0 := hc k hlt
        have X : Hid (R = l.getD k false) := Lib.hid (by rw [HRR.out, decide_eq_true l1]; rfl)
        clear hc HRR
        generalize l.getD k false = q at *
        go_enter Try.func39, Try.ntmps39
        go_wp2
        go_ret
        rw [X.out]
        rw [HW.out]
        exact ⟨rfl, HBW.out⟩
      · have l1 : ¬ (k : Int) < (l.length : Int) := by omega
        have X : Hid (R = false) := Lib.hid (by rw [HRR.out, decide_eq_false l1]; rfl)
        clear HRR
        go_enter Try.func39, Try.ntmps39
        go_wp2
        go_ret
        rw [X.out]
        rw [HW.out]
        exact ⟨rfl, HBW.out⟩
    by_cases h4 : o = 4
    · subst h4
      have HRR : Hid (R = _) := Lib.hid hR.symm
      unfold valO at HRR
      simp only [if_true, if_false, Int.reduceEq] at HRR
      have k0 : 0 < m := by have h : (1 : Int) ≤ (m : Int) := hk0; omega
      clear hR
      go_enter Try.func39, Try.ntmps39
      go_wp2_with (go_at_call 50; rw [HW.out]; (with_reducible refine (HK0.out _ (Below.refl _ _) k0).mono ?_); rintro e w3 ⟨rfl, hb3⟩; have HB3 := Lib.hid (hb3); clear hb3)
      go_ret
      exact ⟨by rw [HRR.out]; rfl, bt HBW.out HB3.out⟩
    by_cases h5 : o = 5
    · subst h5
      have HRR : Hid (R = _) := Lib.hid hR.symm
      unfold valO at HRR
      simp only [if_true, if_false, Int.reduceEq] at HRR
      have hbd : Below W.heap.size W W.drew := (Below.refl _ _).drew
      have HB0 := Lib.hid hbd
      have HH := Lib.hid (HHOLD.out W.drew (HBW.out.trans (hbd.mono HBW.out.size)))
      have X : Hid (R = ((((bs.countP id : Nat) : Int) == (m : Int)))) := Lib.hid (by rw [HRR.out, HBL.out, Bool.eq_iff_iff]; simp; omega)
      generalize bs.countP id = q at *
      clear hR HRR hbd
      go_enter Try.func39, Try.ntmps39
      go_wp2_with fail
      rw [HW.out]
      go_region_held3 (fun wx => (wx.cell? ⟨w.heap.size, 0, none⟩ = some (.int .i64 5) ∧ wx.cell? ⟨w.heap.size, 1, none⟩ = some (.int .i64 v) ∧ wx.cell? ⟨w.heap.size, 2, none⟩ = some (.slice A m c)) ∧ wx.cell? ⟨w.heap.size + 1, 0, none⟩ = some (.slice L l.length cl)) (first
        | exact HQ.out _ HB3.out
        | exact HQ.out _ HB0.out) ((go_at_call 51; (with_reducible refine HH.out.mono ?_); rintro e w3 ⟨rfl, hb3⟩; have HB3 := Lib.hid (HB0.out.trans (hb3.mono (by simp))); clear hb3))
      all_goals go_wp2
      all_goals (go_ret; exact ⟨by rw [X.out]; rfl, bt HBW.out HB3.out⟩)
    by_cases h6 : o = 6
    · subst h6
      have HRR : Hid (R = _) := Lib.hid hR.symm
      unfold valO at HRR
      simp only [if_true, if_false, Int.reduceEq] at HRR
      have HH := Lib.hid (HHOLD.out W HBW.out)
      generalize bs.countP id = q at *
      clear hR
      go_enter Try.func39, Try.ntmps39
      go_wp2_with (go_at_call 51; rw [HW.out]; (with_reducible refine HH.out.mono ?_); rintro e w3 ⟨rfl, hb3⟩; have HB3 := Lib.hid hb3; clear hb3)
      go_ret
      exact ⟨by rw [HRR.out]; simp, bt HBW.out HB3.out⟩
    by_cases h7 : o = 7
    · subst h7
      have HRR : Hid (R = _) := Lib.hid hR.symm
      unfold valO at HRR
      simp only [if_true, if_false, Int.reduceEq] at HRR
      have HH := Lib.hid (HHOLD.out W HBW.out)
      generalize bs.countP id = q at *
      clear hR
      go_enter Try.func39, Try.ntmps39
      go_wp2_with (go_at_call 51; rw [HW.out]; (with_reducible refine HH.out.mono ?_); rintro e w3 ⟨rfl, hb3⟩; have HB3 := Lib.hid hb3; clear hb3)
      go_ret
      exact ⟨by rw [HRR.out]; simp; rw [Bool.eq_iff_iff]; simp; omega, bt HBW.out HB3.out⟩
    by_cases h8 : o = 8
    · subst h8
      have HRR : Hid (R = _) := Lib.hid hR.symm
      unfold valO at HRR
      simp only [if_true, if_false, Int.reduceEq] at HRR
      have k0 : 0 < m := by have h : (2 : Int) ≤ (m : Int) := hk0; omega
      have k1 : 1 < m := by have h : (2 : Int) ≤ (m : Int) := hk0; omega
      clear hR
      generalize bs.getD 0 false = b0 at *
      generalize bs.getD 1 false = b1 at *
      cases b0
      · go_enter Try.func39, Try.ntmps39
        go_wp2_with (go_at_call 50; rw [HW.out]; (with_reducible refine (HK0.out _ (Below.refl _ _) k0).mono ?_); rintro e w3 ⟨rfl, hb3⟩; have HB3 := Lib.hid (hb3); clear hb3)
        go_ret
        exact ⟨by rw [HRR.out]; rfl, bt HBW.out HB3.out⟩
      · go_enter Try.func39, Try.ntmps39
        go_wp2_with (first | (go_at_call 50; (with_reducible refine (HK1.out _ HB3.out k1).mono ?_); rintro e w4 ⟨rfl, hb4⟩; have HB4 := Lib.hid (bt HB3.out hb4); clear hb4) | (go_at_call 50; rw [HW.out]; (with_reducible refine (HK0.out _ (Below.refl _ _) k0).mono ?_); rintro e w3 ⟨rfl, hb3⟩; have HB3 := Lib.hid (hb3); clear hb3))
        go_ret
        exact ⟨by rw [HRR.out]; rfl, bt HBW.out HB4.out⟩
    by_cases h9 : o = 9
    · subst h9
      have HRR : Hid (R = _) := Lib.hid hR.symm
      unfold valO at HRR
      simp only [if_true, if_false, Int.reduceEq] at HRR
      have k0 : 0 < m := by have h : (2 : Int) ≤ (m : Int) := hk0; omega
      have k1 : 1 < m := by have h : (2 : Int) ≤ (m : Int) := hk0; omega
      clear hR
      generalize bs.getD 0 false = b0 at *
      generalize bs.getD 1 false = b1 at *
      go_enter Try.func39, Try.ntmps39
      go_wp2_with (first | (go_at_call 50; (with_reducible refine (HK1.out _ HB3.out k1).mono ?_); rintro e w4 ⟨rfl, hb4⟩; have HB4 := Lib.hid (bt HB3.out hb4); clear hb4) | (go_at_call 50; rw [HW.out]; (with_reducible refine (HK0.out _ (Below.refl _ _) k0).mono ?_); rintro e w3 ⟨rfl, hb3⟩; have HB3 := Lib.hid (hb3); clear hb3))
      go_ret
      exact ⟨by rw [HRR.out]; rfl, bt HBW.out HB4.out⟩
    by_cases h10 : o = 10
    · subst h10
      have HRR : Hid (R = _) := Lib.hid hR.symm
      unfold valO at HRR
      simp only [if_true, if_false, Int.reduceEq] at HRR
      have k0 : 0 < m := by have h : (3 : Int) ≤ (m : Int) := hk0; omega
      have k1 : 1 < m := by have h : (3 : Int) ≤ (m : Int) := hk0; omega
      have k2 : 2 < m := by have h : (3 : Int) ≤ (m : Int) := hk0; omega
      clear hR
      generalize bs.getD 0 false = b0 at *
      generalize bs.getD 1 false = b1 at *
      generalize bs.getD 2 false = b2 at *
      cases b0
      · go_enter Try.func39, Try.ntmps39
        go_wp2_with (first | (go_at_call 50; (with_reducible refine (HK2.out _ HB3.out k2).mono ?_); rintro e w4 ⟨rfl, hb4⟩; have HB4 := Lib.hid (bt HB3.out hb4); clear hb4) | (go_at_call 50; rw [HW.out]; (with_reducible refine (HK0.out _ (Below.refl _ _) k0).mono ?_); rintro e w3 ⟨rfl, hb3⟩; have HB3 := Lib.hid (hb3); clear hb3))
        go_ret
        exact ⟨by rw [HRR.out]; rfl, bt HBW.out HB4.out⟩
      · go_enter Try.func39, Try.ntmps39
        go_wp2_with (first | (go_at_call 50; (with_reducible refine (HK1.out _ HB3.out k1).mono ?_); rintro e w4 ⟨rfl, hb4⟩; have HB4 := Lib.hid (bt HB3.out hb4); clear hb4) | (go_at_call 50; rw [HW.out]; (with_reducible refine (HK0.out _ (Below.refl _ _) k0).mono ?_); rintro e w3 ⟨rfl, hb3⟩; have HB3 := Lib.hid (hb3); clear hb3))
        go_ret
        exact ⟨by rw [HRR.out]; rfl, bt HBW.out HB4.out⟩
    have HRR : Hid (R = false) := Lib.hid (by rw [← hR]; unfold valO; simp only [h1, h3, h4, h5, h6, h7, h8, h9, h10, if_false])
    have e1 : (o == 1) = false := by simp [h1]
    have e3 : (o == 3) = false := by simp [h3]
    have e4 : (o == 4) = false := by simp [h4]
    have e5 : (o == 5) = false := by simp [h5]
    have e6 : (o == 6) = false := by simp [h6]
    have e7 : (o == 7) = false := by simp [h7]
    have e8 : (o == 8) = false := by simp [h8]
    have e9 : (o == 9) = false := by simp [h9]
    have e10 : (o == 10) = false := by simp [h10]
    clear h1 h3 h4 h5 h6 h7 h8 h9 h10 hR
    go_enter Try.func39, Try.ntmps39
    go_wp2
    go_ret
    rw [HRR.out]
    rw [HW.out]
    exact ⟨rfl, HBW.out⟩
end Go.Proofs.Ytakhdlidikbnjaa
