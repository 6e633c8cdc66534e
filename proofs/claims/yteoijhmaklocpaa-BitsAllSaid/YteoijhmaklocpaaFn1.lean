/- Contracts of Less and Same of layer 2 (bits), over the translation. -/
import Derived.Test.YteoijhmaklocpaaBase
namespace Go.Proofs.Yteoijhmaklocpaa
open Go.RowKit


set_option maxHeartbeats 1000000 in
theorem bits_Less_le (A C : Option Addr) (ca cb : Nat) (a b : List Bool) (w : World) (ha : RB w w.heap.size A a) (hb : RB w w.heap.size C b) (la : a.length ≤ 1000000000000) (lb' : b.length ≤ 1000000000000) (hm : a.length ≤ b.length) :
    Calls Try.prog 18 #[.slice A a.length ca, .slice C b.length cb] w fun r w' => r = .returned (.bool (lessL a b)) ∧ ∃ n, w' = w.drewN n := by
  have HA := Lib.hid ha
  have HB := Lib.hid hb
  clear ha hb
  skip
  go_enter Try.func18, Try.ntmps18
  go_wp2
  go_loopw [11] (fun i wr => ∃ k n : Nat, k ≤ a.length ∧ k ≤ b.length ∧ lessL (a.drop k) (b.drop k) = lessL a b ∧ i = .int .i64 k ∧ wr = w.drewN n) (fun i _ => a.length - (intOf i).toNat)
  case atStart => exact ⟨0, 0, Nat.zero_le _, Nat.zero_le _, rfl, rfl, rfl⟩
  case round =>
    obtain ⟨k, n, hka, hkb, hv, rfl, rfl⟩ := hrel
    have HV := Lib.hid hv
    clear hv
    by_cases hlt : k < a.length ∧ k < b.length
    · obtain ⟨h1, h2⟩ := hlt
      obtain ⟨g1, o1, rfl, hg1, hc1⟩ := HA.out (by omega)
      obtain ⟨g2, o2, rfl, hg2, hc2⟩ := HB.out (by omega)
      have e1 := hc1 k h1
      have e2 := hc2 k h2
      have h1' : (k : Int) < (a.length : Int) := by omega
      have h2' : (k : Int) < (b.length : Int) := by omega
      have h0' : (0 : Int) ≤ (k : Int) := by omega
      clear hc1 hc2
      by_cases hd : lb a k = lb b k
      · have HN := Lib.hid (lessL_eq h1 h2 hd)
        have hd' : (lb a k == lb b k) = true := by simp [hd]
        clear hd
        go_wp2
        go_quiet (fail)
        go_wp2
        go_roundw
        case rel => exact ⟨k + 1, _, by omega, by omega, by rw [← HN.out, HV.out], by go_num, rfl⟩
        case measure => simp [intOf]; omega
      · have HN := Lib.hid (lessL_ne h1 h2 hd)
        have hd' : (lb a k == lb b k) = false := by simp [hd]
        clear hd
        go_wp2
        go_quiet (fail)
        go_wp2
        go_ret
        exact ⟨by rw [← HV.out, HN.out]; rfl, _, rfl⟩
    · have HN := Lib.hid (lessL_end (a := a) (b := b) (k := k) (by omega) hka hkb)
      have hge : ¬ k < a.length ∨ ¬ k < b.length := by omega
      clear hlt
      rcases hge with h1 | h1
      · first
          | (exfalso; omega)
          | (go_wp2
             go_ret
             exact ⟨by rw [← HV.out, HN.out]; simp, _, rfl⟩)
      · by_cases h2 : k < a.length
        · first
            | (exfalso; omega)
            | (go_wp2
               go_ret
               exact ⟨by rw [← HV.out, HN.out]; simp, _, rfl⟩)
        · first
            | (exfalso; omega)
            | (go_wp2
               go_ret
               exact ⟨by rw [← HV.out, HN.out]; simp, _, rfl⟩)

set_option maxHeartbeats 1000000 in
theorem bits_Less_gt (A C : Option Addr) (ca cb : Nat) (a b : List Bool) (w : World) (ha : RB w w.heap.size A a) (hb : RB w w.heap.size C b) (la : a.length ≤ 1000000000000) (lb' : b.length ≤ 1000000000000) (hm : b.length < a.length) :
    Calls Try.prog 18 #[.slice A a.length ca, .slice C b.length cb] w fun r w' => r = .returned (.bool (lessL a b)) ∧ ∃ n, w' = w.drewN n := by
  have HA := Lib.hid ha
  have HB := Lib.hid hb
  clear ha hb
  skip
  go_enter Try.func18, Try.ntmps18
  go_wp2
  go_loopw [11] (fun i wr => ∃ k n : Nat, k ≤ a.length ∧ k ≤ b.length ∧ lessL (a.drop k) (b.drop k) = lessL a b ∧ i = .int .i64 k ∧ wr = w.drewN n) (fun i _ => a.length - (intOf i).toNat)
  case atStart => exact ⟨0, 0, Nat.zero_le _, Nat.zero_le _, rfl, rfl, rfl⟩
  case round =>
    obtain ⟨k, n, hka, hkb, hv, rfl, rfl⟩ := hrel
    have HV := Lib.hid hv
    clear hv
    by_cases hlt : k < a.length ∧ k < b.length
    · obtain ⟨h1, h2⟩ := hlt
      obtain ⟨g1, o1, rfl, hg1, hc1⟩ := HA.out (by omega)
      obtain ⟨g2, o2, rfl, hg2, hc2⟩ := HB.out (by omega)
      have e1 := hc1 k h1
      have e2 := hc2 k h2
      have h1' : (k : Int) < (a.length : Int) := by omega
      have h2' : (k : Int) < (b.length : Int) := by omega
      have h0' : (0 : Int) ≤ (k : Int) := by omega
      clear hc1 hc2
      by_cases hd : lb a k = lb b k
      · have HN := Lib.hid (lessL_eq h1 h2 hd)
        have hd' : (lb a k == lb b k) = true := by simp [hd]
        clear hd
        go_wp2
        go_quiet (fail)
        go_wp2
        go_roundw
        case rel => exact ⟨k + 1, _, by omega, by omega, by rw [← HN.out, HV.out], by go_num, rfl⟩
        case measure => simp [intOf]; omega
      · have HN := Lib.hid (lessL_ne h1 h2 hd)
        have hd' : (lb a k == lb b k) = false := by simp [hd]
        clear hd
        go_wp2
        go_quiet (fail)
        go_wp2
        go_ret
        exact ⟨by rw [← HV.out, HN.out]; rfl, _, rfl⟩
    · have HN := Lib.hid (lessL_end (a := a) (b := b) (k := k) (by omega) hka hkb)
      have hge : ¬ k < a.length ∨ ¬ k < b.length := by omega
      clear hlt
      rcases hge with h1 | h1
      · first
          | (exfalso; omega)
          | (go_wp2
             go_ret
             exact ⟨by rw [← HV.out, HN.out]; simp, _, rfl⟩)
      · by_cases h2 : k < a.length
        · first
            | (exfalso; omega)
            | (go_wp2
               go_ret
               exact ⟨by rw [← HV.out, HN.out]; simp, _, rfl⟩)
        · first
            | (exfalso; omega)
            | (go_wp2
               go_ret
               exact ⟨by rw [← HV.out, HN.out]; simp, _, rfl⟩)

set_option maxHeartbeats 1000000 in
theorem ref_Less (A C : Option Addr) (ca cb : Nat) (a b : List Bool) (w : World) (ha : RB w w.heap.size A a) (hb : RB w w.heap.size C b) (la : a.length ≤ 1000000000000) (lb' : b.length ≤ 1000000000000) :
    Calls Try.prog 19 #[.slice A a.length ca, .slice C b.length cb] w fun r w' => r = .returned (.bool (lessL a b)) ∧ ∃ n, w' = w.drewN n := by
  have HA := Lib.hid ha
  have HB := Lib.hid hb
  clear ha hb
  skip
  go_enter Try.func19, Try.ntmps19
  go_wp2
  go_loopw [5] (fun i wr => ∃ k n : Nat, k ≤ a.length ∧ k ≤ b.length ∧ lessL (a.drop k) (b.drop k) = lessL a b ∧ i = .int .i64 k ∧ wr = w.drewN n) (fun i _ => a.length - (intOf i).toNat)
  case atStart => exact ⟨0, 0, Nat.zero_le _, Nat.zero_le _, rfl, rfl, rfl⟩
  case round =>
    obtain ⟨k, n, hka, hkb, hv, rfl, rfl⟩ := hrel
    have HV := Lib.hid hv
    clear hv
    by_cases hlt : k < a.length ∧ k < b.length
    · obtain ⟨h1, h2⟩ := hlt
      obtain ⟨g1, o1, rfl, hg1, hc1⟩ := HA.out (by omega)
      obtain ⟨g2, o2, rfl, hg2, hc2⟩ := HB.out (by omega)
      have e1 := hc1 k h1
      have e2 := hc2 k h2
      have h1' : (k : Int) < (a.length : Int) := by omega
      have h2' : (k : Int) < (b.length : Int) := by omega
      have h0' : (0 : Int) ≤ (k : Int) := by omega
      clear hc1 hc2
      by_cases hd : lb a k = lb b k
      · have HN := Lib.hid (lessL_eq h1 h2 hd)
        have hd' : (lb a k == lb b k) = true := by simp [hd]
        clear hd
        go_wp2
        go_quiet (fail)
        go_wp2
        go_roundw
        case rel => exact ⟨k + 1, _, by omega, by omega, by rw [← HN.out, HV.out], by go_num, rfl⟩
        case measure => simp [intOf]; omega
      · have HN := Lib.hid (lessL_ne h1 h2 hd)
        have hd' : (lb a k == lb b k) = false := by simp [hd]
        clear hd
        go_wp2
        go_quiet (fail)
        go_wp2
        go_ret
        exact ⟨by rw [← HV.out, HN.out]; rfl, _, rfl⟩
    · have HN := Lib.hid (lessL_end (a := a) (b := b) (k := k) (by omega) hka hkb)
      have hge : ¬ k < a.length ∨ ¬ k < b.length := by omega
      clear hlt
      rcases hge with h1 | h1
      · first
          | (exfalso; omega)
          | (go_wp2
             go_ret
             exact ⟨by rw [← HV.out, HN.out]; simp, _, rfl⟩)
      · by_cases h2 : k < a.length
        · first
            | (exfalso; omega)
            | (go_wp2
               go_ret
               exact ⟨by rw [← HV.out, HN.out]; simp, _, rfl⟩)
        · first
            | (exfalso; omega)
            | (go_wp2
               go_ret
               exact ⟨by rw [← HV.out, HN.out]; simp, _, rfl⟩)

theorem bits_Less (A C : Option Addr) (ca cb : Nat) (a b : List Bool) (w : World) (ha : RB w w.heap.size A a) (hb : RB w w.heap.size C b) (la : a.length ≤ 1000000000000) (lb' : b.length ≤ 1000000000000) :
    Calls Try.prog 18 #[.slice A a.length ca, .slice C b.length cb] w fun r w' => r = .returned (.bool (lessL a b)) ∧ ∃ n, w' = w.drewN n := by
  by_cases hm : a.length ≤ b.length
  · exact bits_Less_le A C ca cb a b w ha hb la lb' hm
  · exact bits_Less_gt A C ca cb a b w ha hb la lb' (by omega)

theorem lb_ext {a b : List Bool} (h : a.length = b.length) (hk : ∀ i, i < a.length → lb a i = lb b i) : a = b := by
  apply List.ext_getElem h
  intro i h1 h2
  have := hk i h1
  unfold lb at this
  simpa [List.getD, List.getElem?_eq_getElem h1, List.getElem?_eq_getElem h2] using this
set_option maxHeartbeats 1000000 in
theorem ref_Same (A C : Option Addr) (ca cb : Nat) (a b : List Bool) (w : World) (ha : RB w w.heap.size A a) (hb : RB w w.heap.size C b) (la : a.length ≤ 1000000000000) (lb' : b.length ≤ 1000000000000) :
    Calls Try.prog 9 #[.slice A a.length ca, .slice C b.length cb] w fun r w' => r = .returned (.bool (decide (a = b))) ∧ ∃ n, w' = w.drewN n := by
  have HA := Lib.hid ha
  have HB := Lib.hid hb
  clear ha hb
  by_cases h : a.length = b.length
  · have hne : ((a.length : Int) != (b.length : Int)) = false := by simp [h]
    have hle : b.length ≤ a.length := by omega
    have hle2 : a.length ≤ b.length := by omega
    clear h
    go_enter Try.func9, Try.ntmps9
    go_wp2
    go_loopw [5] (fun i wr => ∃ k n : Nat, k ≤ a.length ∧ (∀ j, j < k → lb a j = lb b j) ∧ i = .int .i64 k ∧ wr = w.drewN n) (fun i _ => a.length - (intOf i).toNat)
    case atStart => exact ⟨0, 0, Nat.zero_le _, fun j hj => absurd hj (by omega), rfl, rfl⟩
    case round =>
      obtain ⟨k, n, hka, hv, rfl, rfl⟩ := hrel
      have HV := Lib.hid hv
      clear hv
      by_cases h1 : k < a.length
      · have h2 : k < b.length := by omega
        obtain ⟨g1, o1, rfl, hg1, hc1⟩ := HA.out (by omega)
        obtain ⟨g2, o2, rfl, hg2, hc2⟩ := HB.out (by omega)
        have e1 := hc1 k h1
        have e2 := hc2 k h2
        have h1' : (k : Int) < (a.length : Int) := by omega
        have h2' : (k : Int) < (b.length : Int) := by omega
        have h0' : (0 : Int) ≤ (k : Int) := by omega
        clear hc1 hc2
        by_cases hd : lb a k = lb b k
        · have HN : Hid (∀ j, j < k + 1 → lb a j = lb b j) := fun j hj => by
            by_cases e : j = k
            · rw [e]; exact hd
            · exact HV.out j (by omega)
          have hd' : (lb a k == lb b k) = true := by simp [hd]
          clear hd
          go_wp2
          go_quiet (fail)
          go_wp2
          go_roundw
          case rel => exact ⟨k + 1, _, by omega, HN.out, by go_num, rfl⟩
          case measure => simp [intOf]; omega
        · have HN : Hid (decide (a = b) = false) := by
            show _ = _
            simp; intro e; exact hd (by rw [e])
          have hd' : (lb a k == lb b k) = false := by simp [hd]
          clear hd
          go_wp2
          go_quiet (fail)
          go_wp2
          go_ret
          exact ⟨by rw [HN.out]; rfl, _, by simp only [World.drewN_drewN]; rfl⟩
      · have HN : Hid (decide (a = b) = true) := by
          show _ = _
          simp; exact lb_ext (by omega) (fun i hi => HV.out i (by omega))
        go_wp2
        go_ret
        exact ⟨by rw [HN.out]; rfl, _, rfl⟩
  · have hne : ((a.length : Int) != (b.length : Int)) = true := by simp; omega
    have HN : Hid (decide (a = b) = false) := by
      show _ = _
      simp; intro e; exact h (by rw [e])
    clear h
    go_enter Try.func9, Try.ntmps9
    go_wp2
    go_ret
    exact ⟨by rw [HN.out]; rfl, 0, rfl⟩
end Go.Proofs.Yteoijhmaklocpaa
