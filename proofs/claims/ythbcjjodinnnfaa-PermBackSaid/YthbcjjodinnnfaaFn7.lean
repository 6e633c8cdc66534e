/- Contract of Right of the specification of layer 5 (perm), over the translation. -/
import Derived.Test.YthbcjjodinnnfaaFn6
import Derived.Deep.LoopGhost
namespace Go.Proofs.Ythbcjjodinnnfaa
open Go.RowKit

/-- The first k numbers of l are indices of l, each another. -/
def okTo (l : List Int) (k : Nat) : Prop := ∀ j, j < k → (0 ≤ li l j ∧ li l j < l.length) ∧ ∀ i, i < j → li l i ≠ li l j
instance (l : List Int) (k : Nat) : Decidable (okTo l k) := by unfold okTo; infer_instance
def rightB (l : List Int) : Bool := decide (okTo l l.length)
theorem okTo_zero (l : List Int) : okTo l 0 := fun j hj => absurd hj (by omega)
theorem right_no {l : List Int} {k : Nat} (hk : k < l.length) (h : ¬ ((0 ≤ li l k ∧ li l k < l.length) ∧ ∀ i, i < k → li l i ≠ li l k)) : rightB l = false := by
  unfold rightB; simp only [decide_eq_false_iff_not]; intro e; exact h (e k hk)
theorem okTo_succ {l : List Int} {k : Nat} (h : okTo l k) (h1 : 0 ≤ li l k) (h2 : li l k < l.length) (h3 : ∀ i, i < k → li l i ≠ li l k) : okTo l (k + 1) := fun j hj => by
  by_cases e : j = k
  · rw [e]; exact ⟨⟨h1, h2⟩, h3⟩
  · exact h j (by omega)
theorem right_yes {l : List Int} (h : okTo l l.length) : rightB l = true := by unfold rightB; simpa using h

set_option maxHeartbeats 1000000 in
theorem ref_Right (A : Option Addr) (ca : Nat) (l : List Int) (w : World) (h : RI w w.heap.size A l) (hl : l.length ≤ 1000000000000) :
    Calls Try.prog 9 #[.slice A l.length ca] w fun r w' => r = .returned (.bool (rightB l)) ∧ Below w.heap.size w w' := by
  have H := Lib.hid h
  clear h
  go_enter Try.func9, Try.ntmps9
  go_wp2
  go_loopg [3] l.length (fun g s3 wx => ∃ k n : Nat, k + g = l.length ∧ Hid (okTo l k) ∧ s3 = .int .i64 k ∧ wx = w.drewN n)
  case atStart => exact ⟨0, 0, by omega, okTo_zero l, rfl, rfl⟩
  case round =>
    obtain ⟨k, n, hk, HV, rfl, rfl⟩ := hrel
    cases gk with
    | succ gg =>
      have hlt : k < l.length := by omega
      obtain ⟨g, o, rfl, hg, hc⟩ := H.out (by omega)
      have e1 := hc k hlt
      have HC := Lib.hid hc
      have h1' : (k : Int) < (l.length : Int) := by omega
      clear hc
      by_cases c1 : li l k < 0
      · have HN := Lib.hid (right_no hlt (fun h => by omega))
        go_wp2
        go_ret
        exact ⟨by rw [HN.out]; rfl, below_drewN (Below.refl _ _) _⟩
      · by_cases c2 : (l.length : Int) ≤ li l k
        · have HN := Lib.hid (right_no hlt (fun h => by omega))
          go_wp2
          go_ret
          exact ⟨by rw [HN.out]; rfl, below_drewN (Below.refl _ _) _⟩
        · go_wp2
          go_loopg [4] k (fun g2 s4 wy => ∃ q m : Nat, q + g2 = k ∧ Hid (∀ j, j < q → li l j ≠ li l k) ∧ s4 = .int .i64 q ∧ wy = w.drewN m)
          case atStart => exact ⟨0, n, by omega, fun j hj => absurd hj (by omega), rfl, rfl⟩
          case round =>
            obtain ⟨q, m, hq, HV2, rfl, rfl⟩ := hrel
            cases gk with
            | succ gg2 =>
              have hqt : q < k := by omega
              have e2 := HC.out q (by omega)
              have h2' : (q : Int) < (l.length : Int) := by omega
              have h3' : (q : Int) < (k : Int) := by omega
              by_cases hd : li l q = li l k
              · have HN := Lib.hid (right_no hlt (fun h => h.2 q hqt hd))
                have hd' : (li l q == li l k) = true := by simp [hd]
                have hd2 : (li l k == li l q) = true := by simp [hd]
                clear hd
                go_wp2
                go_quiet (fail)
                go_wp2
                first | go_ret | (rw [Exit.noGoto_ret]; go_ret)
                exact ⟨by rw [HN.out]; rfl, by simp only [World.drewN_drewN]; exact below_drewN (Below.refl _ _) _⟩
              · have HN : Hid (∀ j, j < q + 1 → li l j ≠ li l k) := fun j hj => by
                  by_cases e : j = q
                  · rw [e]; exact hd
                  · exact HV2.out j (by omega)
                have hd' : (li l q == li l k) = false := by simp [hd]
                clear hd
                go_wp2
                go_quiet (fail)
                go_wp2
                go_roundg gg2
                case measure => omega
                case rel => exact ⟨q + 1, _, by omega, HN, by go_num, rfl⟩
            | zero =>
              obtain rfl : q = k := by omega
              have HN := Lib.hid (okTo_succ HV.out (by omega) (by omega) HV2.out)
              go_wp2
              go_roundg gg
              case measure => omega
              case rel => exact ⟨q + 1, _, by omega, HN, by go_num, rfl⟩
    | zero =>
      obtain rfl : k = l.length := by omega
      have HP := Lib.hid (right_yes HV.out)
      go_wp2
      go_ret
      exact ⟨by rw [HP.out]; rfl, below_drewN (Below.refl _ _) _⟩
end Go.Proofs.Ythbcjjodinnnfaa
