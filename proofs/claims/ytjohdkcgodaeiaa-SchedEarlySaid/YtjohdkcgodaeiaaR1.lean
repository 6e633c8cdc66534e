/- The specification's In, the law's same; layer 42 (sched). -/
import Derived.Test.YtjohdkcgodaeiaaV2
namespace Go.Proofs.Ytjohdkcgodaeiaa
open Go.RowKit

set_option maxHeartbeats 1000000 in
theorem ref_In (A : Option Addr) (ca : Nat) (l : List Int) (x : Int) (w : World) (h : RI w w.heap.size A l) (hl : l.length ≤ 1000000000) :
    Calls Try.prog 28 #[.slice A l.length ca, .int .i64 x] w fun r w' => r = .returned (.bool (decide (x ∈ l))) ∧ w = w' := by
  have H := Lib.hid h
  clear h
  go_enter Try.func28, Try.ntmps28
  go_wp2
  go_loop [4, 5] (fun r i => ∃ k : Nat, k ≤ l.length ∧ (∀ j, j < k → li l j ≠ x) ∧ r = .bool false ∧ i = .int .i64 k) (fun _ i => l.length - (intOf i).toNat)
  case atStart => exact ⟨0, Nat.zero_le _, fun j hj => absurd hj (by omega), rfl, rfl⟩
  case round =>
    obtain ⟨k, hk, hv, rfl, rfl⟩ := hrel
    have HV := Lib.hid hv
    clear hv
    by_cases hlt : k < l.length
    · obtain ⟨g, o, rfl, hg, hc⟩ := H.out (by omega)
      have e1 := hc k hlt
      have h1' : (k : Int) < (l.length : Int) := by omega
      clear hc
      by_cases hd : li l k = x
      · have HP : Hid (decide (x ∈ l) = true) := by show _ = _; simp; rw [← hd]; exact li_mem hlt
        have hd' : (li l k == x) = true := by simp [hd]
        clear hd
        go_wp2
        go_ret
        exact ⟨by rw [HP.out]; rfl, rfl⟩
      · have HN : Hid (∀ j, j < k + 1 → li l j ≠ x) := fun j hj => by
          by_cases e : j = k
          · rw [e]; exact hd
          · exact HV.out j (by omega)
        have hd' : (li l k == x) = false := by simp [hd]
        clear hd
        go_wp2
        go_round
        case rel => exact ⟨k + 1, by omega, HN.out, rfl, by go_num⟩
        case measure => simp [intOf]; omega
    · obtain rfl : k = l.length := by omega
      have HP : Hid (decide (x ∈ l) = false) := by
        show _ = _
        simp only [decide_eq_false_iff_not]
        intro hx
        obtain ⟨i, hi, e⟩ := List.getElem_of_mem hx
        exact HV.out i hi (by rw [li_get hi]; exact e)
      go_wp2
      go_ret
      exact ⟨by rw [HP.out]; rfl, rfl⟩

set_option maxHeartbeats 1000000 in
theorem law_same (A C : Option Addr) (ca cb : Nat) (a b : List Int) (w : World) (ha : RI w w.heap.size A a) (hb : RI w w.heap.size C b) (la : a.length ≤ 1000000000000) (_lb' : b.length ≤ 1000000000000) :
    Calls Try.prog 10 #[.slice A a.length ca, .slice C b.length cb] w fun r w' => r = .returned (.bool (decide (a = b))) ∧ Below w.heap.size w w' := by
  have HA := Lib.hid ha
  have HB := Lib.hid hb
  clear ha hb
  by_cases h : a.length = b.length
  · have hne : ((a.length : Int) != (b.length : Int)) = false := by simp [h]
    have hle : b.length ≤ a.length := by omega
    have hle2 : a.length ≤ b.length := by omega
    clear h
    go_enter Try.func10, Try.ntmps10
    go_wp2
    go_loopw [13] (fun i wr => ∃ k n : Nat, k ≤ a.length ∧ (∀ j, j < k → li a j = li b j) ∧ i = .int .i64 k ∧ wr = w.drewN n) (fun i _ => a.length - (intOf i).toNat)
    case atStart => exact ⟨0, 0, Nat.zero_le _, fun j hj => absurd hj (by omega), rfl, rfl⟩
    case round =>
      obtain ⟨k, n, hka, hv, rfl, rfl⟩ := hrel
      have HV := Lib.hid hv
      clear hv
      by_cases h1 : k < a.length
      · have h2 : k < b.length := by omega
        obtain ⟨g1, o1, rfl, hg1, hc1⟩ := HA.out (by omega)
        obtain ⟨g2, o2, rfl, hg2, hc2⟩ := HB.out (by omega)
        have e1 := hc1 k h1
        have e2 := hc2 k h2
        have h1' : (k : Int) < (a.length : Int) := by omega
        have h2' : (k : Int) < (b.length : Int) := by omega
        have h0' : (0 : Int) ≤ (k : Int) := by omega
        clear hc1 hc2
        by_cases hd : li a k = li b k
        · have HN : Hid (∀ j, j < k + 1 → li a j = li b j) := fun j hj => by
            by_cases e : j = k
            · rw [e]; exact hd
            · exact HV.out j (by omega)
          have hd' : (li a k == li b k) = true := by simp [hd]
          have hd2 : (li a k != li b k) = false := by simp [hd]
          clear hd
          go_wp2
          go_quiet (fail)
          go_wp2
          go_roundw
          case rel => exact ⟨k + 1, _, by omega, HN.out, by go_num, rfl⟩
          case measure => simp [intOf]; omega
        · have HN : Hid (decide (a = b) = false) := by
            show _ = _
            simp; intro e; exact hd (by rw [e])
          have hd' : (li a k == li b k) = false := by simp [hd]
          have hd2 : (li a k != li b k) = true := by simp [hd]
          clear hd
          go_wp2
          go_quiet (fail)
          go_wp2
          go_ret
          exact ⟨by rw [HN.out]; rfl, by simp only [World.drewN_drewN]; exact below_drewN (Below.refl _ _) _⟩
      · have HN : Hid (decide (a = b) = true) := by
          show _ = _
          simp; exact li_ext (by omega) (fun i hi => HV.out i (by omega))
        go_wp2
        go_ret
        exact ⟨by rw [HN.out]; rfl, below_drewN (Below.refl _ _) _⟩
  · have hne : ((a.length : Int) != (b.length : Int)) = true := by simp; omega
    have HN : Hid (decide (a = b) = false) := by
      show _ = _
      simp; intro e; exact h (by rw [e])
    clear h
    go_enter Try.func10, Try.ntmps10
    go_wp2
    go_ret
    exact ⟨by rw [HN.out]; rfl, Below.refl _ _⟩


end Go.Proofs.Ytjohdkcgodaeiaa
