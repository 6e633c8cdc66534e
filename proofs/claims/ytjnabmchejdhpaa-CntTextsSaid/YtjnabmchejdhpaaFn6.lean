/- Contracts of the law's same and of Sub of layer 4 (cnt), over the translation. -/
import Derived.Test.YtjnabmchejdhpaaFn5
namespace Go.Proofs.Ytjnabmchejdhpaa
open Go.RowKit

theorem same_end {a b : List Int} (hl : a.length = b.length) (h : ∀ i, i < a.length → li a i = li b i) : decide (a = b) = true := by
  rw [li_ext hl h]; simp
theorem same_ne {a b : List Int} {k : Nat} (h : li a k ≠ li b k) : decide (a = b) = false := by
  apply decide_eq_false; intro e; rw [e] at h; exact h rfl
theorem same_len {a b : List Int} (h : ¬ a.length = b.length) : decide (a = b) = false := by
  apply decide_eq_false; intro e; rw [e] at h; exact h rfl
set_option maxHeartbeats 2000000 in
theorem law_same (A B : Option Addr) (ca cb : Nat) (a b : List Int) (w : World) (hA : RI w w.heap.size A a) (hB : RI w w.heap.size B b)
    (hal : a.length ≤ 1000000000000) (_hbl : b.length ≤ 1000000000000) :
    Calls Try.prog 32 #[.slice A a.length ca, .slice B b.length cb] w fun e w' => e = .returned (.bool (decide (a = b))) ∧ Below w.heap.size w w' := by
  have HA := Lib.hid hA
  have HB := Lib.hid hB
  obtain ⟨r, hr⟩ : ∃ r, decide (a = b) = r := ⟨_, rfl⟩
  rw [hr]
  have HR := Lib.hid hr
  clear hA hB hr
  by_cases hl : a.length = b.length
  · have hl' : (a.length : Int) = (b.length : Int) := by omega
    go_enter Try.func32, Try.ntmps32
    go_wp2
    go_loopw [13] (fun i wr => ∃ k : Nat, k ≤ a.length ∧ i = .int .i64 (k : Int) ∧ Hid (∀ i, i < k → li a i = li b i) ∧ Below w.heap.size w wr) (fun i _ => a.length - (intOf i).toNat)
    case atStart => exact ⟨0, Nat.zero_le _, rfl, Lib.hid (fun i hi => by omega), Below.refl _ _⟩
    case round =>
      obtain ⟨k, hk, rfl, HE, hb⟩ := hrel
      by_cases hlt : k < a.length
      · obtain ⟨b1, o1, rfl, hg1, hc1⟩ := HA.out (by omega)
        obtain ⟨b2, o2, rfl, hg2, hc2⟩ := HB.out (by omega)
        have e1 := (hb.cell (p := ⟨b1, o1 + k, none⟩) hg1).trans (hc1 k (by omega))
        have e2 := (hb.cell (p := ⟨b2, o2 + k, none⟩) hg2).trans (hc2 k (by omega))
        have h1' : (k : Int) < (a.length : Int) := by omega
        have h2' : (k : Int) < (b.length : Int) := by omega
        have h0' : (0 : Int) ≤ (k : Int) := by omega
        clear hc1 hc2
        by_cases hd : li a k = li b k
        · have HN : Hid (∀ i, i < k + 1 → li a i = li b i) := Lib.hid (fun i hi => by
            rcases Nat.lt_or_ge i k with h | h
            · exact HE.out i h
            · obtain rfl : i = k := by omega
              exact hd)
          go_wp2
          go_quiet (fail)
          go_wp2
          go_roundw
          case rel => exact ⟨k + 1, by omega, by go_num, HN, by first | exact hb | exact below_drewN hb _⟩
          case measure => simp [intOf]; omega
        · have HV : Hid (r = false) := Lib.hid (by rw [← HR.out]; exact same_ne hd)
          have hd' : (li a k == li b k) = false := by simp [hd]
          go_wp2
          go_quiet (fail)
          go_wp2
          go_ret
          exact ⟨by rw [HV.out]; rfl, by first | exact hb | exact below_drewN hb _⟩
      · obtain rfl : k = a.length := by omega
        have HV : Hid (r = true) := Lib.hid (by rw [← HR.out]; exact same_end hl HE.out)
        go_wp2
        go_ret
        exact ⟨by rw [HV.out]; rfl, hb⟩
  · have hl' : ¬ (a.length : Int) = (b.length : Int) := by omega
    have HV : Hid (r = false) := Lib.hid (by rw [← HR.out]; exact same_len hl)
    go_enter Try.func32, Try.ntmps32
    go_wp2
    go_ret
    exact ⟨by rw [HV.out]; rfl, Below.refl _ _⟩

theorem sub_up {a b t : List Int} {k : Nat} {C y C' : Int} (hk : k < a.length) (hkb : k < b.length) (hkt : k < t.length) (h : val (t.take k) + val (b.take k) = val (a.take k) + C * pw k) (hy : y = li a k - (C + li b k) + C' * 4294967296) :
    val ((t.set k y).take (k + 1)) + val (b.take (k + 1)) = val (a.take (k + 1)) + C' * pw (k + 1) := by
  rw [take_set t hkt, val_snoc, take_len (l := t) (i := k) (by omega), val_take_succ hk, val_take_succ hkb, pw_succ]
  have e1 : a.getD k 0 = li a k := rfl
  have e2 : b.getD k 0 = li b k := rfl
  rw [e1, e2]
  have e3 : pw k * y = pw k * li a k - (C * pw k + pw k * li b k) + C' * (4294967296 * pw k) := by
    rw [hy, Int.mul_add, Int.mul_sub, Int.mul_add, Int.mul_comm (pw k) C, Int.mul_comm (pw k) (C' * 4294967296), Int.mul_assoc]
  omega
theorem sub_up0 {a b t : List Int} {k : Nat} {C y C' : Int} (hk : k < a.length) (hkb : b.length ≤ k) (hkt : k < t.length) (h : val (t.take k) + val (b.take k) = val (a.take k) + C * pw k) (hy : y = li a k - C + C' * 4294967296) :
    val ((t.set k y).take (k + 1)) + val (b.take (k + 1)) = val (a.take (k + 1)) + C' * pw (k + 1) := by
  rw [List.take_of_length_le hkb] at h
  rw [take_set t hkt, val_snoc, take_len (l := t) (i := k) (by omega), val_take_succ hk, pw_succ, List.take_of_length_le (show b.length ≤ k + 1 by omega)]
  have e1 : a.getD k 0 = li a k := rfl
  rw [e1]
  have e3 : pw k * y = pw k * li a k - C * pw k + C' * (4294967296 * pw k) := by
    rw [hy, Int.mul_add, Int.mul_sub, Int.mul_comm (pw k) C, Int.mul_comm (pw k) (C' * 4294967296), Int.mul_assoc]
  omega
theorem sub_last {a b t : List Int} {C : Int} (ha : Dig a) (hb : Dig b) (ht : Dig t) (hl : t.length = a.length) (hC : C = 0 ∨ C = 1) (h : val (t.take a.length) + val (b.take a.length) = val (a.take a.length) + C * pw a.length) (hle : val b ≤ val a) :
    val t = val a - val b := by
  rw [List.take_length, ← hl, List.take_length, hl] at h
  have h1 := val_hi ht
  have h2 := val_lo ht
  have h3 := val_hi ha
  rw [hl] at h1
  have h4 : val (b.take a.length) = val b := by
    rcases Nat.lt_or_ge b.length a.length with c | c
    · rw [List.take_of_length_le (by omega)]
    · have h5 := val_split (l := b) (k := a.length) c
      have h6 := val_lo (hb.drop a.length)
      have h7 := val_lo (hb.take a.length)
      have h8 := pw_pos a.length
      have h9 : val (b.drop a.length) = 0 := by
        rcases Int.lt_or_le 0 (val (b.drop a.length)) with d | d
        · have : pw a.length * 1 ≤ pw a.length * val (b.drop a.length) := Int.mul_le_mul_of_nonneg_left d (by omega)
          omega
        · omega
      rw [h9] at h5
      omega
  rcases hC with rfl | rfl
  · omega
  · have h5 := val_lo hb
    omega
end Go.Proofs.Ytjnabmchejdhpaa
