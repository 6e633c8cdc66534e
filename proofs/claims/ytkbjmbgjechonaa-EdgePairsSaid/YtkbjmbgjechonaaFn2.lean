/- Contracts of Ite, its helpers and lives, over the translation. -/
import Derived.Test.YtkbjmbgjechonaaFns
import Derived.Deep.QuietTactic
import Derived.BigQuiet
import Derived.ChangeKeysEq
import Derived.WalkLawsBesides
namespace Go.Proofs.Ytkbjmbgjechonaa
open Go.RowKit

theorem bcell {W w1 : World} (hb : Below W.heap.size W w1) : (∀ b o, b < W.heap.size → w1.cell? ⟨b, o, none⟩ = W.cell? ⟨b, o, none⟩) ∧ (∀ b o, b < W.heap.size → w1.frozen? ⟨b, o, none⟩ = W.frozen? ⟨b, o, none⟩) :=
  ⟨fun b o h => hb.cell (p := ⟨b, o, none⟩) h, fun b o h => hb.frozen (p := ⟨b, o, none⟩) h⟩

theorem eq_arr (a b c x y z : Int) (w : World) : (binOp .eql 54 (.agg #[.int .i64 a, .int .i64 b, .int .i64 c]) (.agg #[.int .i64 x, .int .i64 y, .int .i64 z])).run Try.prog w = .ok (.bool (a == x && (b == y && c == z))) w := by
  obtain ⟨i, hi⟩ := Option.isSome_iff_exists.1 (by kernel_rfl : (Try.prog.info? 23).isSome = true)
  have hc : Try.prog.cellsOf 23 = 1 := by kernel_rfl
  have u23 := Try.underlying23
  rw [run_eql_struct, show (10000 : Nat) = 9998 + 1 + 1 from rfl, run_equalIn_array w _ _ _ Try.underlying54 hi, hc]
  simp only [show List.range 3 = [0, 1, 2] from rfl, Op.eqItems]
  go_simp
  by_cases h1 : a = x <;> by_cases h2 : b = y <;> by_cases h3 : c = z <;> simp [h1, h2, h3]

theorem set_1 {f g h : Int} (c : f = 0 ∨ g = h) : settledF f g h = (g, true) := by unfold settledF; rw [if_pos c]
theorem set_2 {f g h : Int} (c : ¬ (f = 0 ∨ g = h)) (d : f = 1) : settledF f g h = (h, true) := by unfold settledF; rw [if_neg c, if_pos d]
theorem set_3 {f g h : Int} (c : ¬ (f = 0 ∨ g = h)) (d : ¬ f = 1) (e : g = 0 ∧ h = 1) : settledF f g h = (f, true) := by unfold settledF; rw [if_neg c, if_neg d, if_pos e]
theorem set_4 {f g h : Int} (c : ¬ (f = 0 ∨ g = h)) (d : ¬ f = 1) (e : ¬ (g = 0 ∧ h = 1)) (k : g = 1 ∧ h = 0) : settledF f g h = (notF f, true) := by unfold settledF; rw [if_neg c, if_neg d, if_neg e, if_pos k]
theorem set_5 {f g h : Int} (c : ¬ (f = 0 ∨ g = h)) (d : ¬ f = 1) (e : ¬ (g = 0 ∧ h = 1)) (k : ¬ (g = 1 ∧ h = 0)) : settledF f g h = (0, false) := by unfold settledF; rw [if_neg c, if_neg d, if_neg e, if_neg k]
theorem ret_s {f g h a : Int} {b : Bool} (e : settledF f g h = (a, b)) : Ending.returned (.tuple #[.int .i64 a, .bool b]) = .returned (.tuple #[.int .i64 (settledF f g h).1, .bool (settledF f g h).2]) := by rw [e]

theorem edge_settled (f g h : Int) (w : World) (h1 : 0 ≤ f) (h2 : f ≤ 1152921504606846976) :
    Calls Try.prog 30 #[.agg #[.int .i64 f, .int .i64 g, .int .i64 h]] w fun r w' => r = .returned (.tuple #[.int .i64 (settledF f g h).1, .bool (settledF f g h).2]) ∧ Below w.heap.size w w' := by
  have ea := eq_arr f g h f 0 1
  have eb := eq_arr f g h f 1 0
  have eg := Try.eqGuardType54
  go_enter Try.func30, Try.ntmps30
  go_wp2
  go_quiet (fail)
  go_wp2_with (first
      | (go_at_call 15; refine (edge_Not _ _ (by omega) (by omega)).mono ?_; rintro e w' ⟨rfl, rfl⟩))
  all_goals
    go_ret2
    refine ⟨ret_s ?_, by simpa using below_drewN (((Below.refl w.heap.size w).alloc (Nat.le_refl _) _)) _⟩
    clear ea eb
    try simp only [beq_iff_eq, beq_eq_false_iff_ne, ne_eq] at *
    first
      | (apply set_1; omega)
      | (apply set_2 <;> omega)
      | (apply set_3 <;> omega)
      | (apply set_4 <;> omega)
      | (apply set_5 <;> omega)

end Go.Proofs.Ytkbjmbgjechonaa
