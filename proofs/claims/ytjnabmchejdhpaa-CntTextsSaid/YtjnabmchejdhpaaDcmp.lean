/- Contracts of the specification's Cmp, Right and Is of layer 4 (cnt), over the translation. -/
import Derived.Test.YtjnabmchejdhpaaDfrom
import Derived.Test.YtjnabmchejdhpaaWk1
namespace Go.Proofs.Ytjnabmchejdhpaa
open Go.RowKit

theorem val_dropT (l : List Int) (k : Nat) : valT (l.drop k) = li l k + 10 * valT (l.drop (k + 1)) := by
  rcases Nat.lt_or_ge k l.length with c | c
  · rw [drop_cons' c]; rfl
  · have e : li l k = 0 := by unfold li; simp [List.getD, List.getElem?_eq_none c]
    rw [List.drop_eq_nil_of_le c, List.drop_eq_nil_of_le (show l.length ≤ k + 1 by omega), e]; rfl
theorem val_sameT (a b : List Int) (n : Nat) : ∀ k, (∀ j, k ≤ j → li a j = li b j) → a.length ≤ k + n → b.length ≤ k + n → valT (a.drop k) = valT (b.drop k) := by
  induction n with
  | zero => intro k _ h1 h2; rw [List.drop_eq_nil_of_le (by omega), List.drop_eq_nil_of_le (by omega)]
  | succ n ih =>
    intro k h h1 h2
    rw [val_dropT a k, val_dropT b k, h k (Nat.le_refl _), ih (k + 1) (fun j hj => h j (by omega)) (by omega) (by omega)]
theorem val_cutT (l : List Int) (k : Nat) : valT l = valT (l.take k) + pwT k * valT (l.drop k) := by
  rcases Nat.le_total k l.length with c | c
  · exact val_splitT c
  · rw [List.take_of_length_le c, List.drop_eq_nil_of_le c]
    show _ = valT l + pwT k * 0
    omega
theorem take_hiT {l : List Int} (h : DigT l) (k : Nat) : valT (l.take k) < pwT k := by
  have h1 := val_hiT (h.take k)
  have h2 := pw_monoT (show (l.take k).length ≤ k by rw [List.length_take]; omega)
  omega
theorem val_ltT {a b : List Int} {k : Nat} (ha : DigT a) (hb : DigT b) (hs : ∀ j, k + 1 ≤ j → li a j = li b j) (h : li a k < li b k) : valT a < valT b := by
  have h1 := val_cutT a k
  have h2 := val_cutT b k
  have e : valT (a.drop (k + 1)) = valT (b.drop (k + 1)) := val_sameT a b (a.length + b.length) (k + 1) hs (by omega) (by omega)
  rw [val_dropT] at h1 h2
  rw [← e] at h2
  have v1 := val_loT (ha.take k)
  have v2 := take_hiT ha k
  have v3 := val_loT (hb.take k)
  have h5 : pwT k * (li a k + 1) ≤ pwT k * li b k := Int.mul_le_mul_of_nonneg_left (by omega) (by have := pw_posT k; omega)
  rw [Int.mul_add] at h1 h2 h5
  omega
set_option maxHeartbeats 4000000 in
theorem ref_Cmp (A B : Option Addr) (ca cb : Nat) (a b : List Int) (w : World) (hA : Dn w A ca a) (hB : Dn w B cb b) (hal : a.length ≤ 1000000000) (hbl : b.length ≤ 1000000000) :
    Calls Try.prog 11 #[.slice A a.length ca, .slice B b.length cb] w fun e w' => e = .returned (.int .i64 (cmpF (valT a) (valT b))) ∧ w = w' := by
  have HA := Lib.hid hA
  have HB := Lib.hid hB
  clear hA hB
  obtain ⟨r, hr⟩ : ∃ r, cmpF (valT a) (valT b) = r := ⟨_, rfl⟩
  rw [hr]
  have HR := Lib.hid hr
  clear hr
  go_enter Try.func11, Try.ntmps11
  by_cases hc : (a.length : Int) < (b.length : Int)
  all_goals
    go_wp2
    go_loopw [4, 6] (fun u i wr => ∃ (k : Nat), u = .int .i64 0 ∧ k ≤ max a.length b.length ∧ i = .int .i64 ((k : Int) - 1) ∧ Hid (∀ j, k ≤ j → li a j = li b j) ∧ w = wr) (fun _ i _ => (intOf i + 1).toNat)
    case atStart =>
      have hs : ∀ m, a.length ≤ m → b.length ≤ m → Hid (∀ j, m ≤ j → li a j = li b j) := fun m h1 h2 => Lib.hid (fun j hj => by
        unfold li
        rw [List.getD_eq_getElem?_getD, List.getD_eq_getElem?_getD, List.getElem?_eq_none (by omega), List.getElem?_eq_none (by omega)])
      first
        | exact ⟨b.length, rfl, by omega, rfl, hs _ (by omega) (by omega), rfl⟩
        | exact ⟨a.length, rfl, by omega, rfl, hs _ (by omega) (by omega), rfl⟩
    case round =>
      obtain ⟨k, rfl, hk, rfl, HE, rfl⟩ := hrel
      rcases k with _ | k
      · have h0 : ¬ (0 : Int) ≤ ((0 : Nat) : Int) - 1 := by omega
        have HX : Hid (r = 0) := Lib.hid (by
          have := val_sameT a b (max a.length b.length) 0 HE.out (by omega) (by omega)
          rw [List.drop_zero, List.drop_zero] at this
          rw [← HR.out, this]; exact cmpF_self _)
        go_wp2
        go_ret
        exact ⟨by rw [HX.out]; first | rfl | simp, by first | rfl | trivial⟩
      · have ek : (((k + 1 : Nat) : Int) - 1) = (k : Int) := by omega
        have HAT1 := Lib.hid (ref_at A ca a k w HA.out.row (by omega) (by omega))
        have HAT2 := Lib.hid (ref_at B cb b k w HB.out.row (by omega) (by omega))
        rw [ek]
        by_cases c1 : li a k < li b k
        · have HX : Hid (r = -1) := Lib.hid (by
            have := val_ltT HA.out.dig HB.out.dig HE.out c1
            rw [← HR.out]; unfold cmpF; rw [if_pos this])
          go_wp2_with (go_at_call 33; first | (with_reducible refine HAT1.out.mono ?_; rintro e w1 ⟨rfl, rfl⟩) | (with_reducible refine HAT2.out.mono ?_; rintro e w1 ⟨rfl, rfl⟩))
          go_ret
          exact ⟨by rw [HX.out]; first | rfl | simp, by first | rfl | trivial⟩
        · by_cases c2 : li b k < li a k
          · have HX : Hid (r = 1) := Lib.hid (by
              have := val_ltT HB.out.dig HA.out.dig (fun j hj => (HE.out j hj).symm) c2
              rw [← HR.out]; unfold cmpF; rw [if_neg (by omega), if_pos this])
            go_wp2_with (go_at_call 33; first | (with_reducible refine HAT1.out.mono ?_; rintro e w1 ⟨rfl, rfl⟩) | (with_reducible refine HAT2.out.mono ?_; rintro e w1 ⟨rfl, rfl⟩))
            go_ret
            exact ⟨by rw [HX.out]; first | rfl | simp, by first | rfl | trivial⟩
          · have HE2 : Hid (∀ j, k ≤ j → li a j = li b j) := Lib.hid (fun j hj => by
              rcases Nat.eq_or_lt_of_le hj with rfl | h
              · omega
              · exact HE.out j h)
            go_wp2_with (go_at_call 33; first | (with_reducible refine HAT1.out.mono ?_; rintro e w1 ⟨rfl, rfl⟩) | (with_reducible refine HAT2.out.mono ?_; rintro e w1 ⟨rfl, rfl⟩))
            go_roundw
            case rel => exact ⟨k, rfl, by omega, by go_num, HE2, by first | rfl | trivial⟩
            case measure => simp [intOf]; try omega
set_option maxHeartbeats 2000000 in
theorem ref_Right (A : Option Addr) (ca : Nat) (l : List Int) (w : World) (h : RI w w.heap.size A l) (hl : l.length ≤ 1000000000000) :
    Calls Try.prog 17 #[.slice A l.length ca] w fun e w' => e = .returned (.bool (nrm l)) ∧ w = w' := by
  have H := Lib.hid h
  clear h
  by_cases c : l.length = 0
  · have h0 : ((l.length : Int) == 0) = true := by simp [c]
    have HN : Hid (nrm l = true) := Lib.hid (by rw [List.eq_nil_of_length_eq_zero c]; rfl)
    go_enter Try.func17, Try.ntmps17
    go_wp2
    go_ret
    exact ⟨by rw [HN.out]; rfl, rfl⟩
  · obtain ⟨b, o, rfl, hg, hc⟩ := H.out (by omega)
    have e1 := hc (l.length - 1) (by omega)
    have h0 : ((l.length : Int) == 0) = false := by rw [beq_eq_false_iff_ne]; omega
    have ei : ((l.length - 1 : Nat) : Int) = (l.length : Int) - 1 := by omega
    have HN := Lib.hid (nrm_at (l := l) (by omega))
    have hne : l ≠ [] := fun e => c (by rw [e]; rfl)
    clear hc
    go_enter Try.func17, Try.ntmps17
    go_wp2
    go_ret
    exact ⟨by rw [HN.out]; first | rfl | simp [hne], rfl⟩
theorem cmpF_zero (x y : Int) : (cmpF x y == 0) = decide (x = y) := by
  unfold cmpF
  split
  · simp; omega
  · split
    · simp; omega
    · simp; omega
set_option maxHeartbeats 2000000 in
theorem ref_Is (A B : Option Addr) (ca cb : Nat) (a b : List Int) (w : World) (hA : Nm w A ca a) (hB : Dn w B cb b) (hal : a.length ≤ 1000000) (hbl : b.length ≤ 1000000000) :
    Calls Try.prog 13 #[.slice A a.length ca, .slice B b.length cb] w fun e w' => e = .returned (.bool (nrm a && decide (val a = valT b))) ∧ Below w.heap.size w w' := by
  have HA := Lib.hid hA
  have HB := Lib.hid hB
  clear hA hB
  have HRT := Lib.hid (ref_Right A ca a w HA.out.row (by omega))
  have HF := Lib.hid (ref_From A ca a w HA.out hal)
  obtain ⟨n, hn⟩ : ∃ n, nrm a = n := ⟨_, rfl⟩
  rw [hn] at HRT ⊢
  clear hn
  cases n
  · go_enter Try.func13, Try.ntmps13
    go_wp2_with (go_at_call 17; with_reducible refine HRT.out.mono ?_; rintro e w1 ⟨rfl, rfl⟩)
    go_ret
    exact ⟨by simp, Below.refl _ _⟩
  · go_enter Try.func13, Try.ntmps13
    go_wp2_with (first
      | (go_at_call 17; with_reducible refine HRT.out.mono ?_; rintro e w1 ⟨rfl, rfl⟩)
      | (go_at_call 10; (with_reducible refine HF.out.mono ?_); rintro e w2 ⟨A2, c2, l2, rfl, hD2, hn2, hv2, hm2, hb2⟩; have HD2 := Lib.hid hD2; have HV2 := Lib.hid hv2; clear hD2 hn2 hv2)
      | (go_at_call 11; refine (ref_Cmp _ _ _ _ _ _ _ HD2.out (HB.out.step hb2) (by omega) (by omega)).mono ?_; rintro e w3 ⟨rfl, rfl⟩))
    go_ret
    refine ⟨?_, hb2⟩
    rw [HV2.out]
    have := cmpF_zero (val a) (valT b)
    simp only [Bool.true_and]
    first | (rw [this]; rfl) | (simp; simpa using this)
end Go.Proofs.Ytjnabmchejdhpaa
