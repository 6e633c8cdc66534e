/- The walk of CntTimes of layer 4 (cnt), over the translation. -/
import Derived.Test.YtjnabmchejdhpaaWk1
import Derived.Test.YtjnabmchejdhpaaDmul
import Derived.Test.YtjnabmchejdhpaaDhalf
namespace Go.Proofs.Ytjnabmchejdhpaa
open Go.RowKit Go.PlainAid

theorem few2 {w : World} {A B : Option Addr} {ca cb : Nat} {a b : List Int} (hA : Nm w A ca a) (hB : Nm w B cb b) (t : TypeId) :
    Calls Try.prog 7 #[.slice (some ⟨w.heap.size, 0, none⟩) 2 2] (w.alloc (.cells #[.slice A a.length ca, .slice B b.length cb] t)) fun e w' =>
      e = .returned (.bool (fewF [(A, ca, a), (B, cb, b)])) ∧ Below w.heap.size w w' := by
  refine (law_few w.heap.size 0 2 [(A, ca, a), (B, cb, b)] _ (nats2 t hA hB) (by simp)).mono ?_
  rintro e w' ⟨he, hb⟩
  exact ⟨he, step2 ((Below.refl _ _).alloc (Nat.le_refl _) _) hb⟩
theorem from_nm {w : World} {A : Option Addr} {ca : Nat} {a : List Int} (hA : Nm w A ca a) (hal : a.length ≤ 40) :
    Calls Try.prog 10 #[.slice A a.length ca] w fun e w' => ∃ D d l, e = .returned (.slice D l.length d) ∧ Dn w' D d l ∧ nrmT l = true ∧ valT l = val a ∧ l.length ≤ 460 ∧ Below w.heap.size w w' := by
  refine (ref_From A ca a w hA (by omega)).mono ?_
  rintro e w' ⟨D, d, l, rfl, h1, h2, h3, h4, h5⟩
  exact ⟨D, d, l, rfl, h1, h2, h3, by omega, h5⟩
theorem half_gen {w : World} {A : Option Addr} {ca : Nat} {a : List Int} (hA : Nm w A ca a) (hal : a.length ≤ 1000000) (odd : Bool) (ho : decide (val a % 2 = 1) = odd) :
    Calls Try.prog 19 #[.slice A a.length ca] w fun e w' => ∃ D d l, e = .returned (.tuple #[.slice D l.length d, .bool odd]) ∧ Nm w' D d l ∧ nrm l = true ∧ val l = val a / 2 ∧ l.length ≤ a.length ∧ Below w.heap.size w w' := by
  refine (cnt_Half A ca a w hA.row hA.dig (by omega)).mono ?_
  rintro e w' ⟨v, rfl, hR⟩
  obtain ⟨D, d, l, e, hN, hn, hv, hl, hb⟩ := hR.nm
  injection e with e
  subst e
  exact ⟨D, d, l, by rw [ho], hN, hn, hv, hl, hb⟩
theorem refhalf_gen {w : World} {A : Option Addr} {ca : Nat} {a : List Int} (hA : Dn w A ca a) (hal : a.length ≤ 1000000) (x : Int) (hx : valT a = x) (odd : Bool) (ho : decide (x % 2 = 1) = odd) :
    Calls Try.prog 20 #[.slice A a.length ca] w fun e w' => ∃ D d l, e = .returned (.tuple #[.slice D l.length d, .bool odd]) ∧ Dn w' D d l ∧ valT l = x / 2 ∧ l.length ≤ a.length ∧ Below w.heap.size w w' := by
  refine (ref_Half A ca a w hA (by omega)).mono ?_
  rintro e w' ⟨v, rfl, D, d, l, e, hN, hn, hv, hl, hb⟩
  injection e with e
  subst e
  exact ⟨D, d, l, by rw [hx, ho], hN, by rw [hv, hx], hl, hb⟩
theorem is_nm {w : World} {A B : Option Addr} {ca cb : Nat} {a b : List Int} (hA : Nm w A ca a) (hB : Dn w B cb b) (hal : a.length ≤ 1000000) (hbl : b.length ≤ 1000000000) (hn : nrm a = true) (hv : val a = valT b) :
    Calls Try.prog 13 #[.slice A a.length ca, .slice B b.length cb] w fun e w' => e = .returned (.bool true) ∧ Below w.heap.size w w' := by
  have h := ref_Is A B ca cb a b w hA hB hal hbl
  rw [hn, decide_eq_true hv] at h
  exact h
theorem dbl_p2 (x : Int) (k : Nat) : dbl x k = p2 k * x := by
  induction k with
  | zero => show x = 1 * x; omega
  | succ k ih =>
    rw [p2_succ, Int.mul_assoc, ← ih]; rfl
theorem shift_gen {w : World} {A : Option Addr} {ca : Nat} {a : List Int} (hA : Nm w A ca a) (hal : a.length ≤ 1000) (k : Int) :
    Calls Try.prog 23 #[.slice A a.length ca, .int .i64 k] w fun e w' => ∃ D d l, e = .returned (.slice D l.length d) ∧ Nm w' D d l ∧ nrm l = true ∧ val l = dbl (val a) (clampT k).toNat ∧ l.length ≤ 10000 ∧ Below w.heap.size w w' := by
  have hK1 : (clampT k).toNat ≤ 4096 := by unfold clampT; split <;> omega
  have hK2 : min (max k 0) 4096 = ((clampT k).toNat : Int) := by unfold clampT; split <;> omega
  refine (cnt_Shift A ca a k _ w hA.row hA.dig (by omega) hK1 hK2).mono ?_
  rintro e w' hR
  obtain ⟨D, d, l, rfl, hN, hn, hv, hl, hb⟩ := hR.nm
  exact ⟨D, d, l, rfl, hN, hn, by rw [hv, dbl_p2], by omega, hb⟩
theorem refshift_gen {w : World} {A : Option Addr} {ca : Nat} {a : List Int} (hA : Dn w A ca a) (hal : a.length ≤ 1000) (k : Int) (x : Int) (hx : valT a = x) :
    Calls Try.prog 24 #[.slice A a.length ca, .int .i64 k] w fun e w' => ∃ D d l, e = .returned (.slice D l.length d) ∧ Dn w' D d l ∧ valT l = dbl x (clampT k).toNat ∧ l.length ≤ 10000 ∧ Below w.heap.size w w' := by
  refine (ref_Shift A ca a k w hA (by omega)).mono ?_
  rintro e w' ⟨D, d, l, rfl, hN, hn, hv, hl, hb⟩
  exact ⟨D, d, l, rfl, hN, by rw [hv, hx], by omega, hb⟩
theorem refmul_gen {w : World} {A B : Option Addr} {ca cb : Nat} {a b : List Int} (hA : Dn w A ca a) (hB : Dn w B cb b) (hal : a.length ≤ 1000) (hbl : b.length ≤ 1000) (x y : Int) (hx : valT a = x) (hy : valT b = y) :
    Calls Try.prog 22 #[.slice A a.length ca, .slice B b.length cb] w fun e w' => ∃ D d l, e = .returned (.slice D l.length d) ∧ Dn w' D d l ∧ valT l = x * y ∧ l.length ≤ 10000 ∧ Below w.heap.size w w' := by
  refine (ref_Mul A B ca cb a b w hA hB (by omega) (by omega)).mono ?_
  rintro e w' ⟨D, d, l, rfl, hN, hn, hv, hl, hb⟩
  exact ⟨D, d, l, rfl, hN, by rw [hv, hx, hy], by omega, hb⟩

set_option maxHeartbeats 8000000 in
theorem cntTimes_walk (A : Option Addr) (ca : Nat) (a : List Int) (B : Option Addr) (cb : Nat) (b : List Int) (k : Int) (w : World) (hA : Nm w A ca a) (hB : Nm w B cb b) :
    Calls Try.prog 4 #[.slice A a.length ca, .slice B b.length cb, .int .i64 k] w fun e w' => e = .returned (.bool true) ∧ Below w.heap.size w w' := by
  have HF := Lib.hid (fun t => few2 hA hB t)
  obtain ⟨f, hf⟩ : ∃ f, fewF [(A, ca, a), (B, cb, b)] = f := ⟨_, rfl⟩
  rw [hf] at HF
  have NA := Lib.hid hA
  have NB := Lib.hid hB
  clear hA hB
  cases f
  · clear hf
    go_enter Try.func4, Try.ntmps4
    go_wp2_with (first | (go_at_call 7; refine (HF.out _).mono ?_; rintro e w1 ⟨rfl, hb1⟩) | (go_at_call 8; refine (law_lives _).mono ?_; rintro e w2 ⟨rfl, hb2⟩))
    go_ret
    exact ⟨rfl, step2 hb1 hb2⟩
  · have la := few_get hf 0 (by simp)
    have lb := few_get hf 1 (by simp)
    simp only [List.getElem_cons_zero, List.getElem_cons_succ] at la lb
    clear hf
    obtain ⟨odd, hodd⟩ : ∃ o, decide (val a % 2 = 1) = o := ⟨_, rfl⟩
    have HO := Lib.hid hodd
    clear hodd
    go_enter Try.func4, Try.ntmps4
    go_upto_region 3 with (go_at_call 7; refine (HF.out _).mono ?_; rintro e w1 ⟨rfl, hb1⟩)
    go_upto_region 4 with (first
      | (go_at_call 10; refine (from_nm (NB.out.step (step2 hb1 hb2)) lb).mono ?_; rintro e w3 ⟨D3, c3, q, rfl, n3, _, v3, m3, hb3⟩; have N3 := Lib.hid n3; have V3 := Lib.hid v3; clear n3 v3)
      | (go_at_call 10; refine (from_nm (NA.out.step hb1) la).mono ?_; rintro e w2 ⟨D2, c2, p, rfl, n2, _, v2, m2, hb2⟩; have N2 := Lib.hid n2; have V2 := Lib.hid v2; clear n2 v2))
    have k3 : Below w.heap.size w w3 := step2 (step2 hb1 hb2) hb3
    go_upto_region 5 with (go_at_call 19; refine (half_gen (NA.out.step k3) (by omega) odd HO.out).mono ?_; rintro e w4 ⟨D4, c4, h, rfl, n4, nn4, v4, m4, hb4⟩; have N4 := Lib.hid n4; have NN4 := Lib.hid nn4; have V4 := Lib.hid v4; clear n4 nn4 v4)
    have k4 := step2 k3 hb4
    go_upto_region 6 with (go_at_call 20; refine (refhalf_gen ((N2.out.step hb3).step hb4) (by omega) (val a) V2.out odd HO.out).mono ?_; rintro e w5 ⟨D5, c5, g, rfl, n5, v5, m5, hb5⟩; have N5 := Lib.hid n5; have V5 := Lib.hid v5; clear n5 v5)
    have k5 := step2 k4 hb5
    have P5 := Lib.hid (((N2.out.step hb3).step hb4).step hb5)
    have Q5 := Lib.hid ((N3.out.step hb4).step hb5)
    have H5 := Lib.hid (N4.out.step hb5)
    go_wp2_with (first
      | (go_at_call 8; refine (law_lives _).mono ?_; rintro e w6 ⟨rfl, hb6⟩)
      | (go_at_call 13; first
          | (refine (is_nm ((H5.out.step b510).step hb11') ((N5.out.step b510).step hb11') (by omega) (by omega) NN4.out (by rw [V4.out, V5.out])).mono ?_; rintro e w13 ⟨rfl, hb13⟩; have hb13' := hb13)
          | (refine (is_nm (N10.out.step hb11) N11.out (by omega) (by omega) NN10.out (by rw [V10.out, V11.out])).mono ?_; rintro e w12 ⟨rfl, hb12⟩; have hb11' := step2 hb11 hb12)
          | (refine (is_nm (N7.out.step hb8) N8.out (by omega) (by omega) NN7.out (by rw [V7.out, V8.out])).mono ?_; rintro e w9 ⟨rfl, hb9⟩; have b59 := step2 (step2 (step2 hb6 hb7) hb8) hb9))
      | (go_at_call 21; refine (mul_nm (NA.out.step (step2 k5 hb6)) (NB.out.step (step2 k5 hb6)) (by omega) (by omega)).mono ?_; rintro e w7 ⟨D7, c7, l7, rfl, n7, nn7, v7, m7, hb7⟩; have N7 := Lib.hid n7; have NN7 := Lib.hid nn7; have V7 := Lib.hid v7; clear n7 nn7 v7)
      | (go_at_call 22; refine (refmul_gen ((P5.out.step hb6).step hb7) ((Q5.out.step hb6).step hb7) (by omega) (by omega) (val a) (val b) V2.out V3.out).mono ?_; rintro e w8 ⟨D8, c8, l8, rfl, n8, v8, m8, hb8⟩; have N8 := Lib.hid n8; have V8 := Lib.hid v8; clear n8 v8)
      | (go_at_call 23; refine (shift_gen (NA.out.step (step2 k5 b59)) (by omega) k).mono ?_; rintro e w10 ⟨D10, c10, l10, rfl, n10, nn10, v10, m10, hb10⟩; have N10 := Lib.hid n10; have NN10 := Lib.hid nn10; have V10 := Lib.hid v10; have b510 := step2 b59 hb10; clear n10 nn10 v10)
      | (go_at_call 24; refine (refshift_gen (P5.out.step b510) (by omega) k (val a) V2.out).mono ?_; rintro e w11 ⟨D11, c11, l11, rfl, n11, v11, m11, hb11⟩; have N11 := Lib.hid n11; have V11 := Lib.hid v11; clear n11 v11))
    go_ret
    exact ⟨by simp, step2 (step2 (step2 k5 b510) hb11') hb13'⟩
end Go.Proofs.Ytjnabmchejdhpaa
