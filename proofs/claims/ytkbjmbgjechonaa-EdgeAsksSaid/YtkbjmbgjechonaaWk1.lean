/- The walks of the laws EdgeIs, EdgePairs and EdgeUntold. -/
import Derived.Test.YtkbjmbgjechonaaFn3
namespace Go.Proofs.Ytkbjmbgjechonaa
open Go.RowKit

theorem eq_ask (a b c r a' b' c' r' : Int) (n d n' d' : Bool) (w : World) :
    (binOp .eql 42 (.agg #[.int .i64 a, .int .i64 b, .int .i64 c, .bool n, .int .i64 r, .bool d]) (.agg #[.int .i64 a', .int .i64 b', .int .i64 c', .bool n', .int .i64 r', .bool d'])).run Try.prog w
      = .ok (.bool (a == a' && (b == b' && (c == c' && (n == n' && (r == r' && d == d')))))) w := by
  have u3 := Try.underlying3
  have u4 := Try.underlying4
  have a3 := Try.isAgg3
  have z3 := Try.sizeOf3
  have a4 := Try.isAgg4
  have z4 := Try.sizeOf4
  have hS : Try.prog.underlying 42 = some (.struct (Try.prog.fieldsOf 42)) := by kernel_rfl
  have hp : Try.prog.stoodInHeld 42 = false := by kernel_rfl
  rw [run_eql_struct, show (10000 : Nat) = 9999 + 1 from rfl, run_equalIn_agg w 9999 42 _ _ hS hp]
  simp only [Program.fieldsOf, Try.underlying42]
  go_simp
  by_cases h1 : a = a' <;> by_cases h2 : b = b' <;> by_cases h3 : c = c' <;> by_cases h4 : n = n' <;> by_cases h5 : r = r' <;> by_cases h6 : d = d' <;> simp [h1, h2, h3, h4, h5, h6]

theorem lives_any (w : World) : Calls Try.prog 8 #[] w fun r w' => r = .returned (.bool true) ∧ Below w.heap.size w w' := by
  have a1 : ofF 3 true = 7 := by decide
  have a2 : notF 7 = 6 := by decide
  have a3 : normF 4 7 = (5, 6, true) := by decide
  have a4 : meetF 6 7 = (1, true) := by decide
  have a5 : iteF 6 6 1 = (0, 0, 0, false, 6, true) := by decide
  have a6 : iteF 7 4 9 = (6, 8, 5, true, 0, false) := by decide
  have e1 := eq_ask 0 0 0 6 0 0 0 6 false true false true
  have e2 := eq_ask 6 8 5 0 6 8 5 0 true false true false
  go_enter Try.func8, Try.ntmps8
  go_wp2_with (first
      | (go_at_call 9; refine (edge_Of _ _ _ (by omega) (by omega)).mono ?_; rintro e w' ⟨rfl, rfl⟩)
      | (go_at_call 15; refine (edge_Not _ _ (by omega) (by omega)).mono ?_; rintro e w' ⟨rfl, rfl⟩)
      | (go_at_call 20; refine (edge_Norm _ _ _ (by omega) (by omega) (by omega) (by omega)).mono ?_; rintro e w' ⟨rfl, rfl⟩)
      | (go_at_call 22; refine (edge_Meet _ _ _ (by omega) (by omega) (by omega) (by omega)).mono ?_; rintro e w' ⟨rfl, rfl⟩))
  refine (law_ite _ _ _ _ (by omega) (by omega) (by omega) (by omega) (by omega) (by omega)).mono ?_; rintro e w1 ⟨rfl, hb1⟩; unfold Ask; rw [a5]
  go_wp2_with fail
  refine (law_ite _ _ _ _ (by omega) (by omega) (by omega) (by omega) (by omega) (by omega)).mono ?_; rintro e w2 ⟨rfl, hb2⟩; unfold Ask; rw [a6]
  go_wp2_with fail
  go_ret
  exact ⟨rfl, hb1.trans (hb2.mono hb1.size)⟩
end Go.Proofs.Ytkbjmbgjechonaa
