/- The walk of FormsDeep; layer 32 (forms). -/
import Derived.Test.YtnjkphopklbogaaWk1
import Derived.Test.YtnjkphopklbogaaOp8
namespace Go.Proofs.Ytnjkphopklbogaa
open Go.RowKit

/-- The loop's state: a formula that lies in the box G. -/
structure PdS (G : Nat) (t u : Fx) (j : Nat) (E : Option Addr) (d : Nat) (A : Option Addr) (c : Nat) (W0 wr : World) : Prop where
  sz : u.sz ≤ t.sz + j
  bx : Blk wr G 27 (fC u E d A c)
  fm : FmS (fun x => x ≠ G ∧ x < wr.heap.size) wr u E A
  bl : Below G W0 wr
  ze : W0.heap.size ≤ wr.heap.size
theorem z6_any {wr : World} {g : Nat} {a b c d e f : Value} (h : Blk wr g 27 #[a, b, c, d, e, f]) (v0 v1 v2 v3 v4 v5 : Value) : Blk (Z6 wr g v0 v1 v2 v3 v4 v5) g 27 #[v0, v1, v2, v3, v4, v5] := (((((h.set_ 0 _).set_ 1 _).set_ 2 _).set_ 3 _).set_ 4 _).set_ 5 _
theorem PdS.step {G : Nat} {t u : Fx} {j : Nat} {E A : Option Addr} {d c : Nat} {W0 wr : World} (h : PdS G t u j E d A c W0 wr) (o : Int) : PdS G t (.mk o ex0 [u]) (j + 1) none 0 (some ⟨wr.heap.size, 0, none⟩) 1 W0 (Z6 (wr.alloc (.cells (fC u E d A c) 27)) G (.int .i64 o) (.int .i64 0) (.int .i64 0) (.string ⟨#[]⟩) (.slice none 0 0) (.slice (some ⟨wr.heap.size, 0, none⟩) 1 1)) := by
  have hz : (Fx.mk o ex0 [u]).sz = 1 + (u.sz + 0) := rfl
  have hs := h.sz
  have hl := h.bx.lt
  have hsa : (wr.alloc (.cells (fC u E d A c) 27)).heap.size = wr.heap.size + 1 := by simp
  have hbal := bal wr (.cells (fC u E d A c) 27)
  have hba := h.bx.alloc (.cells (fC u E d A c) 27)
  have hbl := h.bl.trans (hbal.mono (by omega))
  have hnew := Blk.new wr 27 (fC u E d A c)
  have hze := h.ze
  obtain ⟨wa, hwa⟩ : ∃ wa, wr.alloc (.cells (fC u E d A c) 27) = wa := ⟨_, rfl⟩
  rw [hwa] at hsa hbal hba hbl hnew ⊢
  obtain ⟨wf, hwf⟩ : ∃ wf, Z6 wa G (.int .i64 o) (.int .i64 0) (.int .i64 0) (.string ⟨#[]⟩) (.slice none 0 0) (.slice (some ⟨wr.heap.size, 0, none⟩) 1 1) = wf := ⟨_, rfl⟩
  have hsz : wf.heap.size = wa.heap.size := by rw [← hwf]; exact set6_size _ _ _ _ _ _ _ _ _ _ _ _ _ _
  have hblk : ∀ x, x ≠ G → wf.heap[x]? = wa.heap[x]? := fun x hx => by rw [← hwf]; exact set6_blk _ _ _ _ _ _ _ hx
  have hR : Blk wf wr.heap.size 27 (fC u E d A c) := (hblk _ (by omega)).trans hnew
  have hx : Blk wf G 27 (nodC o wr.heap.size 1 1) := by rw [← hwf]; exact z6_any hba _ _ _ _ _ _
  have hbz : Below G W0 wf := by rw [← hwf]; exact below_set (below_set (below_set (below_set (below_set (below_set hbl (Nat.le_refl _) _ _) (Nat.le_refl _) _ _) (Nat.le_refl _) _ _) (Nat.le_refl _) _ _) (Nat.le_refl _) _ _) (Nat.le_refl _) _ _
  rw [hwf]
  refine ⟨by omega, hx, ⟨RepS.leaf rfl, rep_single o ex0 ⟨by omega, hR.lt⟩ ⟨hR.cell 0, hR.cell 1, hR.cell 2, hR.cell 3, hR.cell 4, hR.cell 5⟩ ((h.fm.kept (fun x hx => (hblk x hx.1).trans (hbal.block x hx.2))).mono (fun x hx => ⟨hx.1, by have := hx.2; omega⟩))⟩, hbz, by omega⟩
set_option maxRecDepth 100000 in
set_option maxHeartbeats 16000000 in
theorem formsDeep_walk (t : Fx) (E : Option Addr) (dd : Nat) (A : Option Addr) (c : Nat) (n : Int) (A2 : Option Addr) (c2 : Nat) (l : List Int) (w : World) (hR : Fm w.heap.size w t E A) (hs : t.sz ≤ 1048576) (hn : (Lit.int .u8 n).wf = true) (hU : U8 w w.heap.size A2 l) (_hm : l.length ≤ maxLen) (_hl : ∀ x ∈ l, 0 ≤ x ∧ x ≤ 255) :
    Calls Try.prog 4 #[fV t E dd A c, .int .u8 n, .slice A2 l.length c2] w fun e w' => e = .returned (.bool true) ∧ Below w.heap.size w w' := by
  have hn2 : 0 ≤ n ∧ n ≤ 255 := bounds_u8 hn
  obtain ⟨nn, rfl⟩ : ∃ k : Nat, n = (k : Int) := ⟨n.toNat, by omega⟩
  have hnn : nn ≤ 255 := by omega
  clear hn hn2
  obtain ⟨W0, hW0⟩ : ∃ W, w.alloc (.cells (fC t E dd A c) 27) = W := ⟨_, rfl⟩
  have hb0 : Below w.heap.size w W0 := by rw [← hW0]; exact bal _ _
  have hk0 : Blk W0 w.heap.size 27 (fC t E dd A c) := by rw [← hW0]; exact Blk.new _ _ _
  have hR0 := hR.step hb0
  have HM : Hid (Calls Try.prog 7 #[fV t E dd A c, .int .i64 100] W0 fun e w' => ∃ b : Bool, ValP W0 b e w') := Lib.hid (rf_Many t E A dd c 100 W0 (by omega) hR0 (by decide) (by decide))
  have HP : Hid (∀ wx, Below W0.heap.size W0 wx → PdS w.heap.size t t 0 E dd A c w wx) := Lib.hid (fun wx hb => by
    have hbw := bt hb0 hb
    exact ⟨by omega, hk0.below hb hk0.lt, (hR.under hbw).toS.mono (fun x hx => ⟨by omega, by have := hbw.size; omega⟩), hbw, hbw.size⟩)
  obtain ⟨s0, s1, s2, s3, s4, s5⟩ : At6 W0 w.heap.size t E dd A c := ⟨hk0.cell 0, hk0.cell 1, hk0.cell 2, hk0.cell 3, hk0.cell 4, hk0.cell 5⟩
  have HW0 := Lib.hid hW0
  have HB0 := Lib.hid hb0
  have HU := Lib.hid hU
  obtain ⟨m, hm⟩ : ∃ m, l.length = m := ⟨_, rfl⟩
  have HMM : Hid (m = l.length) := Lib.hid hm.symm
  rw [hm]
  clear hm _hm _hl hU hW0 hb0 hk0 hR hR0
  obtain ⟨G, hG⟩ : ∃ h, w.heap.size = h := ⟨_, rfl⟩
  rw [hG] at s0 s1 s2 s3 s4 s5 HP
  have HG := Lib.hid hG
  by_cases hbig : 100 < nn ∨ 20 < m
  · have hcase : (100 < (nn : Int)) ∨ (¬ 100 < (nn : Int) ∧ (20 : Int) < (m : Int)) := by omega
    clear hbig hG
    rcases hcase with h1 | ⟨h1, h2⟩
    all_goals
      go_enter Try.func4, Try.ntmps4
      go_upto_region 1 with (fail)
      rw [HW0.out, HG.out]
      go_upto_region 2 with (go_at_call 7; (with_reducible refine HM.out.mono ?_); rintro e w1 ⟨b, rfl, hb1⟩; have HB1 := Lib.hid hb1; clear hb1)
    all_goals
      go_wp2_with (go_at_call 8; (with_reducible refine (law_lives _).mono ?_); rintro e w2 ⟨rfl, hb2⟩; have HB2 := Lib.hid (bt HB0.out (bt HB1.out hb2)); clear hb2)
      go_ret
      exact ⟨rfl, HB2.out⟩
  · have h1 : ¬ 100 < (nn : Int) := by omega
    have h2 : ¬ (20 : Int) < (m : Int) := by omega
    have hnb : nn ≤ 100 := by omega
    have hmb : m ≤ 20 := by omega
    have hcv : IntKind.i64.wrap (nn : Int) = (nn : Int) := IntWalk.i64_in _ (by omega)
    clear hbig hG
    go_enter Try.func4, Try.ntmps4
    go_upto_region 1 with (fail)
    rw [HW0.out, HG.out]
    go_upto_region 3 with (first
      | (go_at_call 8; have _ := HB1; (with_reducible refine (law_lives _).mono ?_); rintro e w2 ⟨rfl, hb2⟩; have HB2 := Lib.hid (bt HB0.out (bt HB1.out hb2)); clear hb2)
      | (go_at_call 7; (with_reducible refine HM.out.mono ?_); rintro e w1 ⟨b, rfl, hb1⟩; have HB1 := Lib.hid hb1; clear hb1))
    any_goals (go_ret; exact ⟨rfl, HB2.out⟩)
    clear s0 s1 s2 s3 s4 s5
    have HPA := Lib.hid (HP.out _ HB1.out)
    go_wp2
    go_loopw [7] (fun i wr => ∃ (j : Nat) (u : Fx) (E1 : Option Addr) (d1 : Nat) (A1 : Option Addr) (c1 : Nat), j ≤ nn ∧ i = .int .i64 (j : Int) ∧ Hid (PdS G t u j E1 d1 A1 c1 w wr)) (fun i _ => nn - (intOf i).toNat)
    case atStart => exact ⟨0, t, E, dd, A, c, Nat.zero_le _, rfl, HPA⟩
    case round =>
      obtain ⟨i, u, E1, d1, A1, c1, hi, rfl, HPI⟩ := hrel
      by_cases hlt : i < nn
      · have l1 : (i : Int) < (nn : Int) := by omega
        have l0 : (0 : Int) ≤ (i : Int) := by omega
        have hbx := HPI.out.bx
        have hba := hbx.alloc (.cells (fC u E1 d1 A1 c1) 27)
        have HST : Hid (∀ o, PdS G t (.mk o ex0 [u]) (i + 1) none 0 (some ⟨wr.heap.size, 0, none⟩) 1 w (Z6 (wr.alloc (.cells (fC u E1 d1 A1 c1) 27)) G (.int .i64 o) (.int .i64 0) (.int .i64 0) (.string ⟨#[]⟩) (.slice none 0 0) (.slice (some ⟨wr.heap.size, 0, none⟩) 1 1))) := Lib.hid (fun o => HPI.out.step o)
        have s0 := hbx.cell 0
        have s1 := hbx.cell 1
        have s2 := hbx.cell 2
        have s3 := hbx.cell 3
        have s4 := hbx.cell 4
        have s5 := hbx.cell 5
        have v0 := hba.cell 0
        have v1 := hba.cell 1
        have v2 := hba.cell 2
        have v3 := hba.cell 3
        have v4 := hba.cell 4
        have v5 := hba.cell 5
        have u0 := hba.frozen 0
        have u1 := hba.frozen 1
        have u2 := hba.frozen 2
        have u3 := hba.frozen 3
        have u4 := hba.frozen 4
        have u5 := hba.frozen 5
        have ul := hba.lt
        clear hbx hba
        by_cases hm0 : m = 0
        · have k0 : ¬ (0 : Int) < (m : Int) := by omega
          clear hm0
          go_wp2
          exact ⟨⟨i + 1, _, none, 0, _, 1, by omega, by go_num, Lib.hid (HST.out 2)⟩, by simp [intOf] <;> omega⟩
        · have k0 : (0 : Int) < (m : Int) := by omega
          obtain ⟨b8, o8, rfl, hb8, hc8⟩ := HU.out (by rw [← HMM.out]; omega)
          obtain ⟨r, hr, hrm⟩ : ∃ r : Nat, (i : Int).tmod (m : Int) = (r : Int) ∧ r < m := ⟨i % m, by rw [Int.tmod_eq_emod_of_nonneg (by omega)]; omega, Nat.mod_lt _ (by omega)⟩
          have hx8 := hc8 r (l[r]'(by rw [← HMM.out]; exact hrm)) (List.getElem?_eq_getElem _)
          have hc9 : wr.cell? ⟨b8, o8 + r, none⟩ = some (.int .u8 (l[r]'(by rw [← HMM.out]; exact hrm))) := (HPI.out.bl.cell (p := ⟨b8, o8 + r, none⟩) (by rw [← HG.out]; exact hb8)).trans hx8
          generalize (l[r]'(by rw [← HMM.out]; exact hrm)) = y8 at *
          have r0 : (0 : Int) ≤ (r : Int) := by omega
          have r1 : (r : Int) < (m : Int) := by omega
          have rw8 : IntKind.i64.wrap (r : Int) = (r : Int) := IntWalk.i64_in _ (by omega)
          have hmz : ((m : Int) == 0) = false := by simp; omega
          clear hm0 hx8 hc8 hb8
          go_wp2
          exact ⟨⟨i + 1, _, none, 0, _, 1, by omega, by go_num, Lib.hid (HST.out _)⟩, by simp [intOf] <;> omega⟩
      · have l1 : ¬ (i : Int) < (nn : Int) := by omega
        have hbx := HPI.out.bx
        have hsz := HPI.out.sz
        have hs2 : u.sz ≤ 100000000 := by omega
        have HS : Hid (∀ wx, Below wr.heap.size wr wx → At6 wx G u E1 d1 A1 c1) := Lib.hid (fun wx hb => by
          have h := hbx.below hb hbx.lt
          exact ⟨h.cell 0, h.cell 1, h.cell 2, h.cell 3, h.cell 4, h.cell 5⟩)
        have HF : Hid (∀ wx, Below wr.heap.size wr wx → Fm wx.heap.size wx u E1 A1) := Lib.hid (fun wx hb => (HPI.out.fm.toR (fun x hx => hx.2)).step hb)
        have H9 : Hid (∀ wx, Below wr.heap.size wr wx → Calls Try.prog 9 #[fV u E1 d1 A1 c1] wx fun e w' => e = .returned (.int .i64 (chkF u)) ∧ Below wr.heap.size wr w') := Lib.hid (fun wx hb => (pr_fCheck u E1 A1 d1 c1 wx hs2 (HF.out wx hb)).mono (fun e w' h => ⟨h.1, bt hb h.2⟩))
        have H10 : Hid (∀ wx, Below wr.heap.size wr wx → Calls Try.prog 10 #[fV u E1 d1 A1 c1] wx fun e w' => e = .returned (.int .i64 (chkF u)) ∧ Below wr.heap.size wr w') := Lib.hid (fun wx hb => (rf_fCheck u E1 A1 d1 c1 wx hs2 (HF.out wx hb)).mono (fun e w' h => ⟨h.1, bt hb h.2⟩))
        have H14 : Hid (∀ wx, Below wr.heap.size wr wx → Calls Try.prog 14 #[fV u E1 d1 A1 c1] wx fun e w' => e = .returned (.int .i64 (sizF u)) ∧ Below wr.heap.size wr w') := Lib.hid (fun wx hb => (pr_fSize u E1 A1 d1 c1 wx hs2 (HF.out wx hb)).mono (fun e w' h => ⟨by rw [size_agree u hs2]; exact h.1, bt hb h.2⟩))
        have H15 : Hid (∀ wx, Below wr.heap.size wr wx → Calls Try.prog 15 #[fV u E1 d1 A1 c1] wx fun e w' => e = .returned (.int .i64 (sizF u)) ∧ Below wr.heap.size wr w') := Lib.hid (fun wx hb => (rf_fSize u E1 A1 d1 c1 wx hs2 (HF.out wx hb)).mono (fun e w' h => ⟨h.1, bt hb h.2⟩))
        have H16 : Hid (∀ wx, Below wr.heap.size wr wx → Calls Try.prog 16 #[fV u E1 d1 A1 c1] wx fun e w' => e = .returned (.int .i64 (deepF u)) ∧ Below wr.heap.size wr w') := Lib.hid (fun wx hb => (pr_fDeep u E1 A1 d1 c1 wx hs2 (HF.out wx hb)).mono (fun e w' h => ⟨by rw [← deep_agree u]; exact h.1, bt hb h.2⟩))
        have H17 : Hid (∀ wx, Below wr.heap.size wr wx → Calls Try.prog 17 #[fV u E1 d1 A1 c1] wx fun e w' => e = .returned (.int .i64 (deepF u)) ∧ Below wr.heap.size wr w') := Lib.hid (fun wx hb => (rf_fDeep u E1 A1 d1 c1 wx hs2 (HF.out wx hb)).mono (fun e w' h => ⟨h.1, bt hb h.2⟩))
        have H8 : Hid (∀ wx, Below wr.heap.size wr wx → Calls Try.prog 8 #[] wx fun e w' => e = .returned (.bool true) ∧ Below wr.heap.size wr w') := Lib.hid (fun wx hb => (law_lives wx).mono (fun e w' h => ⟨h.1, bt hb h.2⟩))
        have HBW : Hid (Below w.heap.size w wr) := Lib.hid (by have h := HPI.out.bl; rw [← HG.out] at h; exact h)
        have HD1 : Hid (Below wr.heap.size wr wr.drew) := Lib.hid ((Below.refl _ _).drew)
        have hS1 := HS.out _ (Below.refl _ _)
        generalize chkF u = z9 at *
        generalize sizF u = z14 at *
        generalize deepF u = z16 at *
        have e9 : (z9 == z9) = true := by simp
        have e14 : (z14 == z14) = true := by simp
        have e16 : (z16 == z16) = true := by simp
        clear hbx hsz hs2 hs
        go_upto_region 10 with (fail)
        clear hcv
        go_region_held3 (fun wx => At6 wx G u E1 d1 A1 c1) (first
          | with_reducible exact HS.out _ N8.out
          | with_reducible exact HS.out _ N15.out
          | with_reducible exact HS.out _ N14.out
          | with_reducible exact HS.out _ N17.out
          | with_reducible exact HS.out _ N16.out
          | with_reducible exact HS.out _ N10.out
          | with_reducible exact HS.out _ N9.out
          | with_reducible exact HS.out _ HD1.out
          | with_reducible exact HS.out _ (Below.refl _ _)
          | exact HS.out _ HD1.out
          | exact HS.out _ (Below.refl _ _)) ((first
          | (go_at_call 8; have _ := N15; (with_reducible refine (H8.out _ N15.out).mono ?_); rintro e w8 ⟨rfl, hb⟩; have N8 := Lib.hid hb; clear hb)
          | (go_at_call 15; have _ := N14; (with_reducible refine (H15.out _ N14.out).mono ?_); rintro e w7 ⟨rfl, hb⟩; have N15 := Lib.hid hb; clear hb)
          | (go_at_call 14; have _ := N17; (with_reducible refine (H14.out _ N17.out).mono ?_); rintro e w6 ⟨rfl, hb⟩; have N14 := Lib.hid hb; clear hb)
          | (go_at_call 17; have _ := N16; (with_reducible refine (H17.out _ N16.out).mono ?_); rintro e w5 ⟨rfl, hb⟩; have N17 := Lib.hid hb; clear hb)
          | (go_at_call 16; have _ := N10; (with_reducible refine (H16.out _ N10.out).mono ?_); rintro e w4 ⟨rfl, hb⟩; have N16 := Lib.hid hb; clear hb)
          | (go_at_call 10; have _ := N9; (with_reducible refine (H10.out _ N9.out).mono ?_); rintro e w3 ⟨rfl, hb⟩; have N10 := Lib.hid hb; clear hb)
          | (go_at_call 9; have _ := HD1; (with_reducible refine (H9.out _ HD1.out).mono ?_); rintro e w2 ⟨rfl, hb⟩; have N9 := Lib.hid hb; clear hb)))
        go_wp2
        go_ret
        exact ⟨rfl, bt HBW.out N8.out⟩
end Go.Proofs.Ytnjkphopklbogaa
