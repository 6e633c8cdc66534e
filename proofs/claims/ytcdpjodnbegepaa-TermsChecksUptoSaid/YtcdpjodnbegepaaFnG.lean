/- Contracts of truth, within, valueOfVar, of the specification's truth, far, of layer 30 (terms). -/
import Derived.Test.YtcdpjodnbegepaaFnB
namespace Go.Proofs.Ytcdpjodnbegepaa
open Go.RowKit

def truthS (b : Bool) : Int := if b then 1 else 0
theorem pr_truth (b : Bool) (w : World) : Calls Try.prog 70 #[.bool b] w fun e w' => e = .returned (.int .i64 (truthS b)) ∧ w = w' := by
  cases b
  all_goals
    go_enter Try.func70, Try.ntmps70
    go_wp2
    go_ret
    exact ⟨rfl, rfl⟩
theorem rf_truth (b : Bool) (w : World) : Calls Try.prog 75 #[.bool b] w fun e w' => e = .returned (.int .i64 (truthS b)) ∧ w = w' := by
  cases b
  all_goals
    go_enter Try.func75, Try.ntmps75
    go_wp2
    go_ret
    exact ⟨rfl, rfl⟩
def withS (n : Int) (b : Bool) : Int × Int := if b then (n, 0) else (0, 2)
theorem pr_within (n : Int) (b : Bool) (w : World) : Calls Try.prog 71 #[.int .i64 n, .bool b] w fun e w' => e = .returned (.tuple #[.int .i64 (withS n b).1, .int .i64 (withS n b).2]) ∧ w = w' := by
  cases b
  all_goals
    go_enter Try.func71, Try.ntmps71
    go_wp2
    go_ret2
    exact ⟨rfl, rfl⟩
def farS (n : Int) : Bool := decide (n < -9007199254740992 ∨ 9007199254740992 < n)
theorem rf_far (n : Int) (w : World) : Calls Try.prog 76 #[.int .i64 n] w fun e w' => e = .returned (.bool (farS n)) ∧ w = w' := by
  have X : Hid (farS n = decide (n < -9007199254740992 ∨ 9007199254740992 < n)) := Lib.hid rfl
  by_cases h1 : n < -9007199254740992
  · have Y : Hid (farS n = true) := Lib.hid (by rw [X.out, decide_eq_true (.inl h1)])
    rw [Y.out]
    go_enter Try.func76, Try.ntmps76
    go_wp2
    go_ret
    exact ⟨by first | rfl | simp_all, rfl⟩
  · by_cases h2 : 9007199254740992 < n
    · have Y : Hid (farS n = true) := Lib.hid (by rw [X.out, decide_eq_true (.inr h2)])
      rw [Y.out]
      go_enter Try.func76, Try.ntmps76
      go_wp2
      go_ret
      exact ⟨by first | rfl | simp_all, rfl⟩
    · have Y : Hid (farS n = false) := Lib.hid (by rw [X.out, decide_eq_false (by omega)])
      rw [Y.out]
      go_enter Try.func76, Try.ntmps76
      go_wp2
      go_ret
      exact ⟨by first | rfl | simp_all, rfl⟩
/-- The value of a variable. -/
def vvS (v : Vr) (n : Int) : Int × Int := if v.b then (truthS (n != 0), 0) else withS (addF n 0).1 (addF n 0).2
theorem pr_valueOfVar (v : Vr) (n : Int) (w : World) (hn : I64 n) : Calls Try.prog 50 #[vrV v, .int .i64 n] w fun e w' => e = .returned (.tuple #[.int .i64 (vvS v n).1, .int .i64 (vvS v n).2]) ∧ Below w.heap.size w w' := by
  obtain ⟨m, b, lo, hi⟩ := v
  have HB : Hid (∀ ob, Below w.heap.size w (w.alloc ob)) := Lib.hid (fun ob => (Below.refl _ _).alloc (Nat.le_refl _) ob)
  cases b
  · have HA := Lib.hid (fun w => num_Add n 0 w hn.1 hn.2 (by decide) (by decide))
    obtain ⟨⟨a, y⟩, hp⟩ : ∃ p, addF n 0 = p := ⟨_, rfl⟩
    have X : Hid (vvS ⟨m, false, lo, hi⟩ n = withS a y) := Lib.hid (by show withS (addF n 0).1 (addF n 0).2 = _; rw [hp])
    rw [hp] at HA
    rw [X.out]
    have HW := Lib.hid (fun w => pr_within a y w)
    generalize withS a y = R at *
    clear hp hn X
    go_enter Try.func50, Try.ntmps50
    go_wp2_with (first
      | (go_at_call 72; (with_reducible refine (HA.out _).mono ?_); rintro e w1 ⟨rfl, rfl⟩)
      | (go_at_call 71; (with_reducible refine (HW.out _).mono ?_); rintro e w1 ⟨rfl, rfl⟩))
    go_ret2
    exact ⟨rfl, HB.out _⟩
  · have HT := Lib.hid (fun w => pr_truth (n != 0) w)
    have X : Hid (vvS ⟨m, true, lo, hi⟩ n = (truthS (n != 0), 0)) := Lib.hid rfl
    rw [X.out]
    generalize truthS (n != 0) = R at *
    clear hn X
    go_enter Try.func50, Try.ntmps50
    go_wp2_with (go_at_call 70; (with_reducible refine (HT.out _).mono ?_); rintro e w1 ⟨rfl, rfl⟩)
    go_ret2
    exact ⟨rfl, HB.out _⟩
end Go.Proofs.Ytcdpjodnbegepaa
