/- Contracts of Right, few, and of Same, Right, Has of the specification of layer 3 (vset), over the translation. -/
import Derived.Test.YtalglfmhmcmgaaaFn1
namespace Go.Proofs.Ytalglfmhmcmgaaa
open Go.RowKit

set_option maxHeartbeats 1000000 in
theorem ref_Same (A C : Option Addr) (ca cb : Nat) (a b : List Int) (w : World) (ha : RI w w.heap.size A a) (hb : RI w w.heap.size C b) (la : a.length ≤ 1000000000000) (_lb' : b.length ≤ 1000000000000) :
    Calls Try.prog 9 #[.slice A a.length ca, .slice C b.length cb] w fun r w' => r = .returned (.bool (decide (a = b))) ∧ Below w.heap.size w w' := by
  have HA := Lib.hid ha
  have HB := Lib.hid hb
  clear ha hb
  by_cases h : a.length = b.length
  · have hne : ((a.length : Int) != (b.length : Int)) = false := by simp [h]
    have hle : b.length ≤ a.length := by omega
    have hle2 : a.length ≤ b.length := by omega
    clear h
    go_enter Try.func9, Try.ntmps9
    go_wp2
    go_loopw [5] (fun i wr => ∃ k n : Nat, k ≤ a.length ∧ (∀ j, j < k → li a j = li b j) ∧ i = .int .i64 k ∧ wr = w.drewN n) (fun i _ => a.length - (intOf i).toNat)
    case atStart => exact ⟨0, 0, Nat.zero_le _, fun j hj => absurd hj (by omega), rfl, rfl⟩
    case round =>
      obtain ⟨k, n, hka, hv, rfl, rfl⟩ := hrel
      have HV := Lib.hid hv
      clear hv
      by_cases h1 : k < a.length
      · have h2 : k < b.length := by omega
        obtain ⟨g1, o1, rfl, hg1, hc1⟩ := HA.out (by omega)
        obtain ⟨g2, o2, rfl, hg2, hc2⟩ := HB.out (by omega)
        have e1 := hc1 k h1
        have e2 := hc2 k h2
        have h1' : (k : Int) < (a.length : Int) := by omega
        have h2' : (k : Int) < (b.length : Int) := by omega
        have h0' : (0 : Int) ≤ (k : Int) := by omega
        clear hc1 hc2
        by_cases hd : li a k = li b k
        · have HN : Hid (∀ j, j < k + 1 → li a j = li b j) := fun j hj => by
            by_cases e : j = k
            · rw [e]; exact hd
            · exact HV.out j (by omega)
          have hd' : (li a k == li b k) = true := by simp [hd]
          have hd2 : (li a k != li b k) = false := by simp [hd]
          clear hd
          go_wp2
          go_quiet (fail)
          go_wp2
          go_roundw
          case rel => exact ⟨k + 1, _, by omega, HN.out, by go_num, rfl⟩
          case measure => simp [intOf]; omega
        · have HN : Hid (decide (a = b) = false) := by
            show _ = _
            simp; intro e; exact hd (by rw [e])
          have hd' : (li a k == li b k) = false := by simp [hd]
          have hd2 : (li a k != li b k) = true := by simp [hd]
          clear hd
          go_wp2
          go_quiet (fail)
          go_wp2
          go_ret
          exact ⟨by rw [HN.out]; rfl, by simp only [World.drewN_drewN]; exact below_drewN (Below.refl _ _) _⟩
      · have HN : Hid (decide (a = b) = true) := by
          show _ = _
          simp; exact li_ext (by omega) (fun i hi => HV.out i (by omega))
        go_wp2
        go_ret
        exact ⟨by rw [HN.out]; rfl, below_drewN (Below.refl _ _) _⟩
  · have hne : ((a.length : Int) != (b.length : Int)) = true := by simp; omega
    have HN : Hid (decide (a = b) = false) := by
      show _ = _
      simp; intro e; exact h (by rw [e])
    clear h
    go_enter Try.func9, Try.ntmps9
    go_wp2
    go_ret
    exact ⟨by rw [HN.out]; rfl, Below.refl _ _⟩


/-- l is strictly increasing. -/
def incTo (l : List Int) (k : Nat) : Prop := ∀ j, j + 1 < k → li l j < li l (j + 1)
instance (l : List Int) (k : Nat) : Decidable (incTo l k) := by
  unfold incTo
  exact decidable_of_iff (∀ j, j < k → (j + 1 < k → li l j < li l (j + 1))) ⟨fun h j hj => h j (by omega) hj, fun h j _ => h j⟩
def incB (l : List Int) : Bool := decide (incTo l l.length)
theorem inc_yes {l : List Int} (h : incTo l l.length) : incB l = true := by unfold incB; simpa using h
theorem inc_no {l : List Int} {k : Nat} (hk : k + 1 < l.length) (h : li l (k + 1) ≤ li l k) : incB l = false := by
  unfold incB; simp only [decide_eq_false_iff_not]; intro e; have := e k hk; omega
theorem incTo_succ {l : List Int} {j : Nat} (h : incTo l (j + 1)) (h1 : li l j < li l (j + 1)) : incTo l (j + 1 + 1) := fun i hi => by
  by_cases e : i = j
  · rw [e]; exact h1
  · exact h i (by omega)
theorem inc_of {l : List Int} (h : Inc l) : incB l = true := inc_yes fun j hj => by
  have := List.pairwise_iff_getElem.1 h j (j + 1) (by omega) hj (by omega)
  rw [li_get (by omega), li_get hj]
  exact this

set_option maxHeartbeats 1000000 in
theorem vset_Right (A : Option Addr) (ca : Nat) (l : List Int) (w : World) (h : RI w w.heap.size A l) (hl : l.length ≤ 1000000000) :
    Calls Try.prog 11 #[.slice A l.length ca] w fun r w' => r = .returned (.bool (incB l)) ∧ Below w.heap.size w w' := by
  have H := Lib.hid h
  clear h
  go_enter Try.func11, Try.ntmps11
  go_wp2
  go_loopw [3] (fun i wr => ∃ j n : Nat, j ≤ l.length ∧ Hid (incTo l (j + 1)) ∧ i = .int .i64 ((j + 1 : Nat) : Int) ∧ wr = w.drewN n) (fun i _ => l.length + 1 - (intOf i).toNat)
  case atStart => exact ⟨0, 0, Nat.zero_le _, fun j hj => absurd hj (by omega), rfl, rfl⟩
  case round =>
    obtain ⟨j, n, hj, HV, rfl, rfl⟩ := hrel
    obtain ⟨k, hk⟩ : ∃ k, j + 1 = k := ⟨_, rfl⟩
    rw [hk]
    by_cases hlt : k < l.length
    · obtain ⟨g, o, rfl, hg, hc⟩ := H.out (by omega)
      have e1 := hc j (by omega)
      have e2 := hc k hlt
      have h1' : (k : Int) < (l.length : Int) := by omega
      have h2' : (j : Int) < (l.length : Int) := by omega
      have z1 : IntKind.i64.wrap ((k : Int) - 1) = (j : Int) := by rw [show (k : Int) - 1 = (j : Int) by omega]; exact IntWalk.i64_in _ (by omega)
      have HK := Lib.hid hk
      clear hc hk
      by_cases hd : li l j < li l k
      · have HN : Hid (incTo l (k + 1)) := by
          have := HV.out
          rw [← HK.out] at hd ⊢
          exact incTo_succ this hd
        go_wp2
        go_quiet (fail)
        clear z1
        go_wp2
        go_roundw
        case rel => exact ⟨k, _, by omega, HN, by go_num, rfl⟩
        case measure => simp [intOf]; omega
      · have hd' : li l k ≤ li l j := by omega
        have HN : Hid (incB l = false) := by
          have h1 := HK.out
          show _ = _
          rw [← h1] at hd' hlt
          exact inc_no hlt hd'
        clear hd
        go_wp2
        go_quiet (fail)
        clear z1
        go_wp2
        go_ret
        exact ⟨by rw [HN.out]; rfl, by simp only [World.drewN_drewN]; exact below_drewN (Below.refl _ _) _⟩
    · have HN : Hid (incB l = true) := inc_yes fun i hi => HV.out i (by omega)
      have h1' : (l.length : Int) ≤ (k : Int) := by omega
      clear hk
      go_wp2
      go_ret
      exact ⟨by rw [HN.out]; rfl, below_drewN (Below.refl _ _) _⟩

set_option maxHeartbeats 1000000 in
theorem ref_Right (A : Option Addr) (ca : Nat) (l : List Int) (w : World) (h : RI w w.heap.size A l) (hl : l.length ≤ 1000000000) :
    Calls Try.prog 12 #[.slice A l.length ca] w fun r w' => r = .returned (.bool (incB l)) ∧ Below w.heap.size w w' := by
  have H := Lib.hid h
  clear h
  go_enter Try.func12, Try.ntmps12
  go_wp2
  go_loopw [3] (fun i wr => ∃ j n : Nat, j ≤ l.length ∧ Hid (incTo l (j + 1)) ∧ i = .int .i64 ((j + 1 : Nat) : Int) ∧ wr = w.drewN n) (fun i _ => l.length + 1 - (intOf i).toNat)
  case atStart => exact ⟨0, 0, Nat.zero_le _, fun j hj => absurd hj (by omega), rfl, rfl⟩
  case round =>
    obtain ⟨j, n, hj, HV, rfl, rfl⟩ := hrel
    obtain ⟨k, hk⟩ : ∃ k, j + 1 = k := ⟨_, rfl⟩
    rw [hk]
    by_cases hlt : k < l.length
    · obtain ⟨g, o, rfl, hg, hc⟩ := H.out (by omega)
      have e1 := hc j (by omega)
      have e2 := hc k hlt
      have h1' : (k : Int) < (l.length : Int) := by omega
      have h2' : (j : Int) < (l.length : Int) := by omega
      have z1 : IntKind.i64.wrap ((k : Int) - 1) = (j : Int) := by rw [show (k : Int) - 1 = (j : Int) by omega]; exact IntWalk.i64_in _ (by omega)
      have HK := Lib.hid hk
      clear hc hk
      by_cases hd : li l j < li l k
      · have HN : Hid (incTo l (k + 1)) := by
          have := HV.out
          rw [← HK.out] at hd ⊢
          exact incTo_succ this hd
        go_wp2
        go_quiet (fail)
        clear z1
        go_wp2
        go_roundw
        case rel => exact ⟨k, _, by omega, HN, by go_num, rfl⟩
        case measure => simp [intOf]; omega
      · have hd' : li l k ≤ li l j := by omega
        have HN : Hid (incB l = false) := by
          have h1 := HK.out
          show _ = _
          rw [← h1] at hd' hlt
          exact inc_no hlt hd'
        clear hd
        go_wp2
        go_quiet (fail)
        clear z1
        go_wp2
        go_ret
        exact ⟨by rw [HN.out]; rfl, by simp only [World.drewN_drewN]; exact below_drewN (Below.refl _ _) _⟩
    · have HN : Hid (incB l = true) := inc_yes fun i hi => HV.out i (by omega)
      have h1' : (l.length : Int) ≤ (k : Int) := by omega
      clear hk
      go_wp2
      go_ret
      exact ⟨by rw [HN.out]; rfl, below_drewN (Below.refl _ _) _⟩

set_option maxHeartbeats 1000000 in
theorem ref_Has (A : Option Addr) (ca : Nat) (l : List Int) (x : Int) (w : World) (h : RI w w.heap.size A l) (hl : l.length ≤ 1000000000) :
    Calls Try.prog 14 #[.slice A l.length ca, .int .i64 x] w fun r w' => r = .returned (.bool (decide (x ∈ l))) ∧ w = w' := by
  have H := Lib.hid h
  clear h
  go_enter Try.func14, Try.ntmps14
  go_wp2
  go_loop [4, 5] (fun r i => ∃ k : Nat, k ≤ l.length ∧ (∀ j, j < k → li l j ≠ x) ∧ r = .bool false ∧ i = .int .i64 k) (fun _ i => l.length - (intOf i).toNat)
  case atStart => exact ⟨0, Nat.zero_le _, fun j hj => absurd hj (by omega), rfl, rfl⟩
  case round =>
    obtain ⟨k, hk, hv, rfl, rfl⟩ := hrel
    have HV := Lib.hid hv
    clear hv
    by_cases hlt : k < l.length
    · obtain ⟨g, o, rfl, hg, hc⟩ := H.out (by omega)
      have e1 := hc k hlt
      have h1' : (k : Int) < (l.length : Int) := by omega
      clear hc
      by_cases hd : li l k = x
      · have HP : Hid (decide (x ∈ l) = true) := by show _ = _; simp; rw [← hd]; exact li_mem hlt
        have hd' : (li l k == x) = true := by simp [hd]
        clear hd
        go_wp2
        go_ret
        exact ⟨by rw [HP.out]; rfl, rfl⟩
      · have HN : Hid (∀ j, j < k + 1 → li l j ≠ x) := fun j hj => by
          by_cases e : j = k
          · rw [e]; exact hd
          · exact HV.out j (by omega)
        have hd' : (li l k == x) = false := by simp [hd]
        clear hd
        go_wp2
        go_round
        case rel => exact ⟨k + 1, by omega, HN.out, rfl, by go_num⟩
        case measure => simp [intOf]; omega
    · obtain rfl : k = l.length := by omega
      have HP : Hid (decide (x ∈ l) = false) := by
        show _ = _
        simp only [decide_eq_false_iff_not]
        intro hx
        obtain ⟨i, hi, e⟩ := List.getElem_of_mem hx
        exact HV.out i hi (by rw [li_get hi]; exact e)
      go_wp2
      go_ret
      exact ⟨by rw [HP.out]; rfl, rfl⟩

set_option maxHeartbeats 1000000 in
theorem few_any (A : Option Addr) (ca : Nat) (l : List Int) (w : World) (h : RI w w.heap.size A l) (hA : A = none → ca = 0) (hl : l.length ≤ maxLen) (hc : l.length ≤ ca) (hm : ca ≤ maxLen) :
    Calls Try.prog 7 #[.slice A l.length ca] w fun r w' => ∃ ca', r = .returned (.slice A (l.take 60).length ca') ∧ RI w w.heap.size A (l.take 60) ∧ (A = none → ca' = 0) ∧ w = w' := by
  unfold maxLen at hl hm
  have hR : Hid (RI w w.heap.size A (l.take 60)) := fun hp => by
    rw [List.length_take] at hp
    obtain ⟨b, off, e, hb, hcc⟩ := h (by omega)
    refine ⟨b, off, e, hb, fun i hi => ?_⟩
    rw [List.length_take] at hi
    rw [hcc i (by omega)]
    unfold li; simp [List.getD, show i < 60 by omega]
  have HA := Lib.hid hA
  clear h hA
  have h2 : min (l.length : Int) 60 ≤ (ca : Int) := by omega
  have h3 : (min (l.length : Int) 60).toNat = (l.take 60).length := by rw [List.length_take]; omega
  have HE := Lib.hid h3
  have h4 : (min (l.length : Int) 60).toNat ≤ ca := by omega
  have h5 : 0 ≤ min (l.length : Int) 60 := by omega
  clear h3
  rw [← HE.out]
  go_enter Try.func7, Try.ntmps7
  go_wp2
  go_ret
  exact ⟨ca, rfl, hR.out, HA.out, rfl⟩
end Go.Proofs.Ytalglfmhmcmgaaa
