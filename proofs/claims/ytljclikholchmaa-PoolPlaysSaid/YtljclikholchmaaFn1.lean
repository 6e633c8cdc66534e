/- Contracts on the nil pool, of layer 9 (pool), over the translation. -/
import Derived.Test.YtljclikholchmaaBase
import Derived.Laws.ResultCell
import Derived.Laws.AppendOwn
namespace Go.Proofs.Ytljclikholchmaa
open Go.RowKit

theorem nil_Len (w : World) : Calls Try.prog 13 #[.pointer none] w fun e w' => e = .returned (.int .i64 0) ∧ w = w' := by
  go_enter Try.func13, Try.ntmps13
  go_wp2
  go_ret
  exact ⟨rfl, rfl⟩
theorem nil_Room (w : World) : Calls Try.prog 15 #[.pointer none] w fun e w' => e = .returned (.int .i64 0) ∧ w = w' := by
  go_enter Try.func15, Try.ntmps15
  go_wp2
  go_ret
  exact ⟨rfl, rfl⟩
theorem nil_has (id : Int) (w : World) : Calls Try.prog 25 #[.pointer none, .int .i64 id] w fun e w' => e = .returned (.bool false) ∧ w = w' := by
  go_enter Try.func25, Try.ntmps25
  go_wp2
  go_ret
  exact ⟨rfl, rfl⟩
/-- A node. -/
structure Nd where
  id : Int
  v : Int
  lo : Int
  hi : Int
  refs : Int
def ndRow (x : Nd) : Array Value := #[.int .i64 x.id, .int .i64 x.v, .int .i64 x.lo, .int .i64 x.hi, .int .i64 x.refs]
def ndV (x : Nd) : Value := .agg (ndRow x)
def nd0 : Nd := ⟨0, 0, 0, 0, 0⟩
theorem nil_At (id : Int) (w : World) : Calls Try.prog 11 #[.pointer none, .int .i64 id] w fun e w' => e = .returned (.tuple #[ndV nd0, .bool false]) ∧ Below w.heap.size w w' := by
  go_enter Try.func11, Try.ntmps11
  go_wp2_with fail
  refine (nil_has _ _).mono ?_; rintro e w1 ⟨rfl, rfl⟩
  go_wp2
  refine bodyPost_ret (v := .tuple #[ndV nd0, .bool false]) ?_ rfl ⟨rfl, (Below.refl _ _).alloc (Nat.le_refl _) _⟩
  rw [results_cell_tmp rfl]
  go_simp
  rfl
theorem nil_Take (x : Nd) (w : World) : Calls Try.prog 19 #[.pointer none, ndV x] w fun e w' => e = .returned (.tuple #[.int .i64 0, .int .i64 5]) ∧ Below w.heap.size w w' := by
  obtain ⟨a, b, c, d, f⟩ := x
  unfold ndV ndRow
  go_enter Try.func19, Try.ntmps19
  go_wp2
  go_ret2
  exact ⟨rfl, (Below.refl _ _).alloc (Nat.le_refl _) _⟩
theorem nil_Give (id : Int) (w : World) : Calls Try.prog 20 #[.pointer none, .int .i64 id] w fun e w' => e = .returned (.int .i64 5) ∧ w = w' := by
  go_enter Try.func20, Try.ntmps20
  go_wp2_with fail
  refine (nil_has _ _).mono ?_; rintro e w1 ⟨rfl, rfl⟩
  go_wp2
  go_ret
  exact ⟨rfl, rfl⟩
theorem nil_Set (x : Nd) (w : World) : Calls Try.prog 21 #[.pointer none, ndV x] w fun e w' => e = .returned (.int .i64 5) ∧ Below w.heap.size w w' := by
  obtain ⟨a, b, c, d, f⟩ := x
  unfold ndV ndRow
  go_enter Try.func21, Try.ntmps21
  go_wp2_with fail
  refine (nil_has _ _).mono ?_; rintro e w1 ⟨rfl, rfl⟩
  go_wp2
  go_ret
  exact ⟨rfl, (Below.refl _ _).alloc (Nat.le_refl _) _⟩
end Go.Proofs.Ytljclikholchmaa
