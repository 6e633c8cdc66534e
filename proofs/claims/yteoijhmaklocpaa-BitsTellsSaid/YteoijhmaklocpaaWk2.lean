/- The walk of the law BitsOrders. -/
import Derived.Test.YteoijhmaklocpaaWk1
import Derived.Test.YteoijhmaklocpaaOpen
namespace Go.Proofs.Yteoijhmaklocpaa
open Go.RowKit Go.PlainAid

theorem less_asym : ∀ (a b : List Bool), (lessL a b && lessL b a) = false
  | [], [] => rfl
  | [], _ :: _ => rfl
  | _ :: _, [] => rfl
  | x :: a, y :: b => by
    by_cases h : x = y
    · subst h; have := less_asym a b; simp [lessL] at this ⊢; exact this
    · have h' : ¬ y = x := fun e => h e.symm
      cases x <;> cases y <;> simp_all [lessL]
theorem less_total : ∀ (a b : List Bool), (lessL a b || lessL b a) = !decide (a = b)
  | [], [] => rfl
  | [], _ :: _ => rfl
  | _ :: _, [] => rfl
  | x :: a, y :: b => by
    by_cases h : x = y
    · subst h; have := less_total a b; simp [lessL] at this ⊢; exact this
    · have h' : ¬ y = x := fun e => h e.symm
      cases x <;> cases y <;> simp_all [lessL]

theorem less_b {A C : Option Addr} {ca cb : Nat} {a b : List Bool} {w : World} (ha : RB w w.heap.size A a) (hb : RB w w.heap.size C b) (la : a.length ≤ 1000000000000) (lb' : b.length ≤ 1000000000000) :
    Calls Try.prog 18 #[.slice A a.length ca, .slice C b.length cb] w fun r w' => r = .returned (.bool (lessL a b)) ∧ Below w.heap.size w w' :=
  (bits_Less A C ca cb a b w ha hb la lb').mono fun _ _ ⟨h1, n, h2⟩ => ⟨h1, by rw [h2]; exact below_drewN (Below.refl _ _) _⟩
theorem less_r {A C : Option Addr} {ca cb : Nat} {a b : List Bool} {w : World} (ha : RB w w.heap.size A a) (hb : RB w w.heap.size C b) (la : a.length ≤ 1000000000000) (lb' : b.length ≤ 1000000000000) :
    Calls Try.prog 19 #[.slice A a.length ca, .slice C b.length cb] w fun r w' => r = .returned (.bool (lessL a b)) ∧ Below w.heap.size w w' :=
  (ref_Less A C ca cb a b w ha hb la lb').mono fun _ _ ⟨h1, n, h2⟩ => ⟨h1, by rw [h2]; exact below_drewN (Below.refl _ _) _⟩
theorem same_r {A C : Option Addr} {ca cb : Nat} {a b : List Bool} {w : World} (ha : RB w w.heap.size A a) (hb : RB w w.heap.size C b) (la : a.length ≤ 1000000000000) (lb' : b.length ≤ 1000000000000) :
    Calls Try.prog 9 #[.slice A a.length ca, .slice C b.length cb] w fun r w' => r = .returned (.bool (decide (a = b))) ∧ Below w.heap.size w w' :=
  (ref_Same A C ca cb a b w ha hb la lb').mono fun _ _ ⟨h1, n, h2⟩ => ⟨h1, by rw [h2]; exact below_drewN (Below.refl _ _) _⟩

set_option maxHeartbeats 1000000 in
theorem bitsOrders_walk (A : Option Addr) (ca : Nat) (a : List Bool) (C : Option Addr) (cb : Nat) (b : List Bool) (w : World) (ha : RB w w.heap.size A a) (ma : a.length ≤ maxLen) (hb : RB w w.heap.size C b) (mb : b.length ≤ maxLen) :
    Calls Try.prog 4 #[.slice A a.length ca, .slice C b.length cb] w fun r w' => r = .returned (.bool true) ∧ Below w.heap.size w w' := by
  unfold maxLen at ma mb
  by_cases l1 : 300 < a.length
  · go_enter Try.func4, Try.ntmps4
    go_wp2_with (first
      | (go_at_call 8; refine (lives_any _).mono ?_; rintro e w1 ⟨rfl, hb1⟩))
    go_ret
    exact ⟨rfl, hb1⟩
  by_cases l2 : 300 < b.length
  · go_enter Try.func4, Try.ntmps4
    go_wp2_with (first
      | (go_at_call 8; refine (lives_any _).mono ?_; rintro e w1 ⟨rfl, hb1⟩))
    go_ret
    exact ⟨rfl, hb1⟩
  have t1 := less_asym a b
  have t2 := less_total a b
  have HA := Lib.hid ha
  have HB := Lib.hid hb
  clear ha hb
  have hx : ∀ x y z : Bool, (x && y) = false → (x || y) = !z → (x = true ∧ y = false ∧ z = false) ∨ (x = false ∧ y = true ∧ z = false) ∨ (x = false ∧ y = false ∧ z = true) := by
    intro x y z; cases x <;> cases y <;> cases z <;> simp
  have h3 := hx _ _ _ t1 t2
  clear hx t1 t2
  obtain ⟨x, ex⟩ : ∃ x, lessL a b = x := ⟨_, rfl⟩
  obtain ⟨y, ey⟩ : ∃ y, lessL b a = y := ⟨_, rfl⟩
  obtain ⟨z, ez⟩ : ∃ z, decide (a = b) = z := ⟨_, rfl⟩
  rw [ex, ey, ez] at h3
  rcases h3 with ⟨rfl, rfl, rfl⟩ | ⟨rfl, rfl, rfl⟩ | ⟨rfl, rfl, rfl⟩
  all_goals
    go_enter Try.func4, Try.ntmps4
    go_wp2_with fail
    refine (less_b HA.out HB.out (by omega) (by omega)).mono ?_; rintro e w1 ⟨rfl, h1⟩; rw [ex]
    have HA1 := Lib.hid ((HA.out.below h1).more h1.size)
    have HB1 := Lib.hid ((HB.out.below h1).more h1.size)
    go_wp2_with fail
    refine (less_b HB1.out HA1.out (by omega) (by omega)).mono ?_; rintro e w2 ⟨rfl, h2⟩; rw [ey]
    have HA2 := Lib.hid ((HA1.out.below h2).more h2.size)
    have HB2 := Lib.hid ((HB1.out.below h2).more h2.size)
    go_wp2_with fail
    refine (less_r HA2.out HB2.out (by omega) (by omega)).mono ?_; rintro e w3 ⟨rfl, h3⟩; rw [ex]
    have HA3 := Lib.hid ((HA2.out.below h3).more h3.size)
    have HB3 := Lib.hid ((HB2.out.below h3).more h3.size)
    go_wp2_with fail
    refine (less_r HB3.out HA3.out (by omega) (by omega)).mono ?_; rintro e w4 ⟨rfl, h4⟩; rw [ey]
    have HA4 := Lib.hid ((HA3.out.below h4).more h4.size)
    have HB4 := Lib.hid ((HB3.out.below h4).more h4.size)
    go_wp2_with fail
    refine (same_r HA4.out HB4.out (by omega) (by omega)).mono ?_; rintro e w5 ⟨rfl, h5⟩; rw [ez]
    go_wp2_with fail
    refine (lives_any _).mono ?_; rintro e w6 ⟨rfl, h6⟩
    go_wp2_with fail
    go_ret
    have c2 := h1.trans (h2.mono h1.size)
    have c3 := c2.trans (h3.mono c2.size)
    have c4 := c3.trans (h4.mono c3.size)
    have c5 := c4.trans (h5.mono c4.size)
    exact ⟨rfl, c5.trans (h6.mono c5.size)⟩
end Go.Proofs.Yteoijhmaklocpaa
