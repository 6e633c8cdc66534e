/- The generator: its step and its draws; layer 28 (events). -/
import Derived.Test.YtfppplalgdopjaaDoorBase
import Derived.Laws.ResultCell
import Derived.Laws.AppendOwn
namespace Go.Proofs.YtfppplalgdopjaaDoor
open Go.RowKit

/-- The generator's step. -/
def nx (x : Int) : Int := IntKind.u64.wrap (IntKind.u64.wrap (x * 6364136223846793005) + 1442695040888963407)
theorem nx_bd (x : Int) : 0 ≤ nx x ∧ nx x ≤ 18446744073709551615 := by
  unfold nx
  rw [IntKind.wrap_u64]
  omega
theorem r_next (x : Int) (w : World) : Calls Tryd.prog 33 #[.int .u64 x] w fun e w' => e = .returned (.int .u64 (nx x)) ∧ w = w' := by
  go_enter Tryd.func33, Tryd.ntmps33
  go_wp2
  go_ret
  exact ⟨rfl, rfl⟩
theorem ret_i {a b : Int} (h : a = b) : Ending.returned (.int .i64 a) = .returned (.int .i64 b) := by rw [h]
def nearF (n lo hi : Int) : Int := if n < lo then lo else if hi < n then hi else n
theorem e_Near (n lo hi : Int) (w : World) :
    Calls Tryd.prog 32 #[.int .i64 n, .int .i64 lo, .int .i64 hi] w fun r w' => r = .returned (.int .i64 (nearF n lo hi)) ∧ w = w' := by
  go_enter Tryd.func32, Tryd.ntmps32
  go_wp2
  all_goals
    go_ret
    exact ⟨ret_i (by unfold nearF; split <;> (try split) <;> omega), rfl⟩
theorem e_draw (g : Nat) (x : Int) (w : World) (h : Blk w g 42 #[.int .u64 x]) :
    Calls Tryd.prog 31 #[.pointer (some ⟨g, 0, none⟩)] w fun e w' => e = .returned (.int .i64 (nx x / 8589934592)) ∧ w' = w.setCell ⟨g, 0, none⟩ (.int .u64 (nx x)) := by
  have h0 := h.cell 0
  have hf := h.frozen 0
  have hl := h.lt
  simp at h0
  have H := Lib.hid h
  clear h
  go_enter Tryd.func31, Tryd.ntmps31
  go_wp2
  go_ret
  exact ⟨ret_i (by rw [show IntKind.u64.wrap (IntKind.u64.wrap (x * 6364136223846793005) + 1442695040888963407) = nx x from rfl]; have := nx_bd x; unfold wrap64; omega), rfl⟩
end Go.Proofs.YtfppplalgdopjaaDoor
