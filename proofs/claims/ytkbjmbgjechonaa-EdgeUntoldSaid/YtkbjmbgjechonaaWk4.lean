/- The walk of the law EdgeUntold. -/
import Derived.Test.YtkbjmbgjechonaaWk2
namespace Go.Proofs.Ytkbjmbgjechonaa
open Go.RowKit

theorem notF_iff {f g : Int} : f = notF g ↔ g = notF f := by
  unfold notF; split <;> split <;> omega
theorem meet_symm (f g : Int) : meetF g f = meetF f g := by
  unfold meetF
  have h := @notF_iff f g
  by_cases c : f = 1 ∨ g = 1 ∨ f = notF g
  · rw [if_pos c, if_pos (by omega)]
  · rw [if_neg c, if_neg (by omega)]
    by_cases a : f = 0 <;> by_cases b : g = 0 <;> by_cases d : f = g <;> simp [a, b, d] <;> omega
theorem meet_ok {f g : Int} (f0 : 0 ≤ f) (g0 : 0 ≤ g) : (meetF f g).2 = !((nodeF f != nodeF g) && !constF f && !constF g) := by
  have hn : ∀ e : Int, 0 ≤ e → nodeF e = e / 2 := fun e h => by unfold nodeF; rw [if_neg (by omega)]
  rw [hn f f0, hn g g0]
  have hx : f = notF g ↔ (f / 2 = g / 2 ∧ f ≠ g) := by unfold notF; split <;> omega
  apply Bool.eq_iff_iff.2
  unfold constF
  unfold meetF
  split
  · simp; omega
  · split
    · simp; omega
    · split
      · simp; omega
      · simp; omega

theorem edgeUntold_walk (a0 a1 : Int) (w : World) (w0 : (Lit.int .i64 a0).wf = true) (w1 : (Lit.int .i64 a1).wf = true) :
    Calls Try.prog 7 #[.int .i64 a0, .int .i64 a1] w fun e w' => e = .returned (.bool true) ∧ Below w.heap.size w w' := by
  clear w0 w1
  by_cases c0 : 0 ≤ a0 ∧ 0 ≤ a1 ∧ a0 ≤ 4294967296 ∧ a1 ≤ 4294967296
  · obtain ⟨d0, d1, d2, d3⟩ := c0
    have hs := meet_symm a0 a1
    have hk := meet_ok d0 d1
    generalize hm : meetF a0 a1 = m at hs hk
    have hm := Lib.hid hm
    generalize hq : nodeF a0 = q at hk
    generalize hr : nodeF a1 = r at hk
    have e0 : ((q == r) = true ∧ (q != r) = false) ∨ ((q == r) = false ∧ (q != r) = true) := by
      by_cases h : q = r <;> simp [h]
    rcases e0 with ⟨e1, e2⟩ | ⟨e1, e2⟩ <;> cases hc : constF a0 <;> cases hd : constF a1 <;> simp only [e2, hc, hd, Bool.not_true, Bool.not_false, Bool.and_true, Bool.and_false, Bool.false_and, Bool.true_and] at hk
    all_goals
      go_enter Try.func7, Try.ntmps7
      go_wp2_with (first
        | (go_at_call 22; refine (edge_Meet _ _ _ (by omega) (by omega) (by omega) (by omega)).mono ?_; rintro e w' ⟨rfl, rfl⟩; try simp only [hm.out, hs])
        | (go_at_call 11; refine (edge_Node _ _ (by omega) (by omega)).mono ?_; rintro e w' ⟨rfl, rfl⟩; try simp only [hq, hr])
        | (go_at_call 19; refine (edge_Const _ _).mono ?_; rintro e w' ⟨rfl, rfl⟩)
        | (go_at_call 8; refine (lives_any _).mono ?_; rintro e w1 ⟨rfl, hb1⟩))
      go_ret
      exact ⟨rfl, hb1⟩
  · by_cases d0 : a0 < 0
    · go_enter Try.func7, Try.ntmps7
      go_wp2_with (first
        | (go_at_call 8; refine (lives_any _).mono ?_; rintro e w1 ⟨rfl, hb1⟩))
      go_ret
      exact ⟨rfl, hb1⟩
    by_cases d1 : a1 < 0
    · go_enter Try.func7, Try.ntmps7
      go_wp2_with (first
        | (go_at_call 8; refine (lives_any _).mono ?_; rintro e w1 ⟨rfl, hb1⟩))
      go_ret
      exact ⟨rfl, hb1⟩
    by_cases d2 : 4294967296 < a0
    · go_enter Try.func7, Try.ntmps7
      go_wp2_with (first
        | (go_at_call 8; refine (lives_any _).mono ?_; rintro e w1 ⟨rfl, hb1⟩))
      go_ret
      exact ⟨rfl, hb1⟩
    have d3 : 4294967296 < a1 := by omega
    clear c0
    go_enter Try.func7, Try.ntmps7
    go_wp2_with (first
      | (go_at_call 8; refine (lives_any _).mono ?_; rintro e w1 ⟨rfl, hb1⟩))
    go_ret
    exact ⟨rfl, hb1⟩
end Go.Proofs.Ytkbjmbgjechonaa
