/- Contracts of cmp.Compare, Cmp and the law's same of layer 4 (cnt), over the translation. -/
import Derived.Test.YtjnabmchejdhpaaFn3
namespace Go.Proofs.Ytjnabmchejdhpaa
open Go.RowKit

theorem nan_i (x : Int) (w : World) : Calls Try.prog 45 #[.int .i64 x] w fun e w' => e = .returned (.bool false) ∧ w' = w := by
  go_enter Try.func45, Try.ntmps45
  go_wp2
  go_ret
  exact ⟨by simp, rfl⟩
theorem nan_u (x : Int) (w : World) : Calls Try.prog 46 #[.int .u32 x] w fun e w' => e = .returned (.bool false) ∧ w' = w := by
  go_enter Try.func46, Try.ntmps46
  go_wp2
  go_ret
  exact ⟨by simp, rfl⟩
set_option maxHeartbeats 1000000 in
theorem compare_i (x y : Int) (w : World) : Calls Try.prog 38 #[.int .i64 x, .int .i64 y] w fun e w' => e = .returned (.int .i64 (cmpF x y)) ∧ w' = w := by
  obtain ⟨r, hr⟩ : ∃ r, cmpF x y = r := ⟨_, rfl⟩
  rw [hr]
  unfold cmpF at hr
  by_cases c1 : x < y
  · rw [if_pos c1] at hr
    subst hr
    go_enter Try.func38, Try.ntmps38
    go_wp2_with (first
      | (go_at_call 45; refine (nan_i _ _).mono ?_; rintro e w1 ⟨rfl, rfl⟩))
    go_ret
    exact ⟨rfl, rfl⟩
  · rw [if_neg c1] at hr
    by_cases c2 : y < x
    · rw [if_pos c2] at hr
      subst hr
      go_enter Try.func38, Try.ntmps38
      go_wp2_with (first
        | (go_at_call 45; refine (nan_i _ _).mono ?_; rintro e w1 ⟨rfl, rfl⟩))
      go_ret
      exact ⟨rfl, rfl⟩
    · rw [if_neg c2] at hr
      subst hr
      go_enter Try.func38, Try.ntmps38
      go_wp2_with (first
        | (go_at_call 45; refine (nan_i _ _).mono ?_; rintro e w1 ⟨rfl, rfl⟩))
      go_ret
      exact ⟨rfl, rfl⟩
set_option maxHeartbeats 1000000 in
theorem compare_u (x y : Int) (w : World) : Calls Try.prog 39 #[.int .u32 x, .int .u32 y] w fun e w' => e = .returned (.int .i64 (cmpF x y)) ∧ w' = w := by
  obtain ⟨r, hr⟩ : ∃ r, cmpF x y = r := ⟨_, rfl⟩
  rw [hr]
  unfold cmpF at hr
  by_cases c1 : x < y
  · rw [if_pos c1] at hr
    subst hr
    go_enter Try.func39, Try.ntmps39
    go_wp2_with (first
      | (go_at_call 46; refine (nan_u _ _).mono ?_; rintro e w1 ⟨rfl, rfl⟩))
    go_ret
    exact ⟨rfl, rfl⟩
  · rw [if_neg c1] at hr
    by_cases c2 : y < x
    · rw [if_pos c2] at hr
      subst hr
      go_enter Try.func39, Try.ntmps39
      go_wp2_with (first
        | (go_at_call 46; refine (nan_u _ _).mono ?_; rintro e w1 ⟨rfl, rfl⟩))
      go_ret
      exact ⟨rfl, rfl⟩
    · rw [if_neg c2] at hr
      subst hr
      go_enter Try.func39, Try.ntmps39
      go_wp2_with (first
        | (go_at_call 46; refine (nan_u _ _).mono ?_; rintro e w1 ⟨rfl, rfl⟩))
      go_ret
      exact ⟨rfl, rfl⟩
end Go.Proofs.Ytjnabmchejdhpaa
