/- Contract of Cmp of layer 4 (cnt), over the translation. -/
import Derived.Test.YtjnabmchejdhpaaFn4
namespace Go.Proofs.Ytjnabmchejdhpaa
open Go.RowKit

theorem cmp_end {a b : List Int} (_ha : Dig a) (_hb : Dig b) (_hl : a.length = b.length) (he : a.drop 0 = b.drop 0) : cmpF (val a) (val b) = 0 := by
  rw [List.drop_zero, List.drop_zero] at he
  rw [he]; unfold cmpF; simp
theorem cmp_eqs {a b : List Int} {k : Nat} (hka : k < a.length) (hkb : k < b.length) (he : a.drop (k + 1) = b.drop (k + 1)) (e : li a k = li b k) : a.drop k = b.drop k := by
  rw [drop_cons' hka, drop_cons' hkb, he]
  have : a.getD k 0 = b.getD k 0 := e
  rw [this]
theorem trimL_le (l : List Int) : (trimL l).length ≤ l.length := by unfold trimL; rw [List.length_take]; omega
set_option maxHeartbeats 2000000 in
theorem cnt_Cmp (A B : Option Addr) (ca cb : Nat) (a b : List Int) (w : World) (hA : RI w w.heap.size A a) (hB : RI w w.heap.size B b) (ha : Dig a) (hb : Dig b)
    (hal : a.length ≤ 1000000000000) (hbl : b.length ≤ 1000000000000) (hca : a.length ≤ ca) (hcb : b.length ≤ cb) (hca2 : ca ≤ maxLen) (hcb2 : cb ≤ maxLen) :
    Calls Try.prog 15 #[.slice A a.length ca, .slice B b.length cb] w fun e w' => e = .returned (.int .i64 (cmpF (val a) (val b))) ∧ Below w.heap.size w w' := by
  have HA := Lib.hid hA
  have HB := Lib.hid hB
  obtain ⟨r, hr⟩ : ∃ r, cmpF (val a) (val b) = r := ⟨_, rfl⟩
  rw [hr]
  have HR := Lib.hid hr
  obtain ⟨a', ea⟩ : ∃ a', trimL a = a' := ⟨_, rfl⟩
  obtain ⟨b', eb⟩ : ∃ b', trimL b = b' := ⟨_, rfl⟩
  have HA' : Hid (RI w w.heap.size A a' ∧ Dig a' ∧ nrm a' = true ∧ val a' = val a) := Lib.hid (by subst ea; exact ⟨hA.take _, trimL_dig ha, trimL_nrm a, trimL_val a⟩)
  have HB' : Hid (RI w w.heap.size B b' ∧ Dig b' ∧ nrm b' = true ∧ val b' = val b) := Lib.hid (by subst eb; exact ⟨hB.take _, trimL_dig hb, trimL_nrm b, trimL_val b⟩)
  have hla : a'.length ≤ 1000000000000 := by have := trimL_le a; rw [ea] at this; omega
  have hlb : b'.length ≤ 1000000000000 := by have := trimL_le b; rw [eb] at this; omega
  clear hA hB ha hb hr
  by_cases hl : a'.length = b'.length
  · have hl' : (a'.length : Int) = (b'.length : Int) := by omega
    go_enter Try.func15, Try.ntmps15
    go_wp2_with (go_at_call 36; first | (refine (cnt_trim B cb b _ (HB.out.step hb1) hbl hcb hcb2).mono ?_; rintro e w2 ⟨rfl, hb2⟩; rw [eb]; have hbw := step2 hb1 hb2) | (refine (cnt_trim A ca a w HA.out hal hca hca2).mono ?_; rintro e w1 ⟨rfl, hb1⟩; rw [ea]))
    go_loopw [5] (fun i wr => ∃ k : Nat, k ≤ a'.length ∧ i = .int .i64 ((k : Int) - 1) ∧ Hid (a'.drop k = b'.drop k) ∧ Below w.heap.size w wr) (fun i _ => (intOf i + 1).toNat)
    case atStart => exact ⟨a'.length, Nat.le_refl _, by rw [hl'], Lib.hid (by rw [List.drop_length, hl, List.drop_length]), hbw⟩
    case round =>
      obtain ⟨k, hk, rfl, HE, hb⟩ := hrel
      rcases k with _ | k
      · have HV : Hid (r = 0) := Lib.hid (by rw [← HR.out, ← HA'.out.2.2.2, ← HB'.out.2.2.2]; exact cmp_end HA'.out.2.1 HB'.out.2.1 hl HE.out)
        have h0 : ¬ (0 : Int) ≤ ((0 : Nat) : Int) - 1 := by omega
        go_wp2
        go_ret
        exact ⟨by rw [HV.out]; rfl, hb⟩
      · have ek : ((k + 1 : Nat) : Int) - 1 = (k : Int) := by omega
        rw [ek]
        obtain ⟨b1, o1, rfl, hg1, hc1⟩ := HA'.out.1 (by omega)
        obtain ⟨b2, o2, rfl, hg2, hc2⟩ := HB'.out.1 (by omega)
        have e1 := (hb.cell (p := ⟨b1, o1 + k, none⟩) hg1).trans (hc1 k (by omega))
        have e2 := (hb.cell (p := ⟨b2, o2 + k, none⟩) hg2).trans (hc2 k (by omega))
        have h1' : (k : Int) < (a'.length : Int) := by omega
        have h2' : (k : Int) < (b'.length : Int) := by omega
        have h0' : (0 : Int) ≤ (k : Int) := by omega
        clear hc1 hc2
        by_cases hd : li a' k = li b' k
        · have HN := Lib.hid (cmp_eqs (by omega) (by omega) HE.out hd)
          go_wp2
          go_quiet (fail)
          go_wp2
          go_roundw
          case rel => exact ⟨k, by omega, by go_num, HN, by first | exact hb | exact below_drewN hb _⟩
          case measure => simp [intOf]
        · have HV : Hid (cmpF (li a' k) (li b' k) = r) := Lib.hid (by rw [← HR.out, ← HA'.out.2.2.2, ← HB'.out.2.2.2]; exact (cmp_at HA'.out.2.1 HB'.out.2.1 (by omega) (by omega) HE.out hd).symm)
          have hd' : (li a' k == li b' k) = false := by simp [hd]
          go_wp2
          go_quiet (fail)
          go_wp2
          go_quiet ((go_at_call 39; exact (compare_u _ _ _).mono fun _ _ ⟨he, hw⟩ => ⟨he, _, hw⟩))
          go_wp2
          go_ret
          exact ⟨by rw [HV.out]; rfl, by first | exact hb | exact below_drewN hb _ | exact below_drewN (below_drewN hb _) _⟩
  · have hl' : ¬ (a'.length : Int) = (b'.length : Int) := by omega
    have HV : Hid (cmpF (a'.length : Int) (b'.length : Int) = r) := Lib.hid (by rw [← HR.out, ← HA'.out.2.2.2, ← HB'.out.2.2.2]; exact (cmp_len HA'.out.2.1 HB'.out.2.1 HA'.out.2.2.1 HB'.out.2.2.1 hl).symm)
    go_enter Try.func15, Try.ntmps15
    go_wp2_with (first | (go_at_call 36; first | (refine (cnt_trim B cb b _ (HB.out.step hb1) hbl hcb hcb2).mono ?_; rintro e w2 ⟨rfl, hb2⟩; rw [eb]; have hbw := step2 hb1 hb2) | (refine (cnt_trim A ca a w HA.out hal hca hca2).mono ?_; rintro e w1 ⟨rfl, hb1⟩; rw [ea])) | (go_at_call 38; refine (compare_i _ _ _).mono ?_; rintro e w1 ⟨rfl, rfl⟩; rw [HV.out]))
    go_ret
    exact ⟨rfl, hbw⟩
end Go.Proofs.Ytjnabmchejdhpaa
