/- MemoNil, over the contracts on the nil table. -/
import Derived.Test.YtejmnjgmmjpenaaOpen
namespace Go.Proofs.Ytejmnjgmmjpenaa
open Go.RowKit

set_option maxRecDepth 100000 in
set_option maxHeartbeats 2000000 in
theorem memoNil_walk (x : Act) (w : World) : Calls Try.prog 6 #[actV x] w fun e w' => e = .returned (.bool true) ∧ Below w.heap.size w w' := by
  have hb0 : Below w.heap.size w (w.alloc (.cells (actRow x) 27)) := (Below.refl _ _).alloc (Nat.le_refl _) _
  have hz0 : w.heap.size < (w.alloc (.cells (actRow x) 27)).heap.size := by simp
  have hx0 : Blk (w.alloc (.cells (actRow x) 27)) w.heap.size 27 (actRow x) := Blk.new _ _ _
  have HZ := Lib.hid hz0
  have HB := Lib.hid hb0
  have HX := Lib.hid hx0
  clear hb0 hx0 hz0
  obtain ⟨kind, op, a, b, c, r⟩ := x
  unfold actV
  have hP := fun w => Lib.hid (law_put_nil ⟨kind, op, a, b, c, r⟩ w)
  have hG := fun w => Lib.hid (law_get_nil ⟨kind, op, a, b, c, r⟩ w)
  unfold actV at hP hG
  unfold actRow at hP hG HB ⊢
  dsimp only at hP hG HB ⊢
  go_enter Try.func6, Try.ntmps6
  go_wp2_with fail
  refine (hP _).out.mono ?_; rintro e w1 ⟨rfl, hb1⟩
  have HB1 := Lib.hid (HB.out.trans (hb1.mono (Nat.le_of_lt HZ.out)))
  obtain ⟨y0, y1, y2, y3, y4, y5⟩ := act_cells (HX.out.below hb1 HZ.out)
  dsimp only at y0 y1 y2 y3 y4 y5
  clear hb1 HX HZ HB
  go_wp2_with fail
  refine (hG _).out.mono ?_; rintro e w2 ⟨rfl, hb2⟩
  have HB2 := Lib.hid (HB1.out.trans (hb2.mono HB1.out.size))
  clear hb2 y0 y1 y2 y3 y4 y5 HB1
  go_wp2_with fail
  refine (nil_Clear _).mono ?_; rintro e w3 ⟨rfl, rfl⟩
  go_wp2_with fail
  refine (nil_Count _).mono ?_; rintro e w3 ⟨rfl, rfl⟩
  go_wp2_with fail
  refine (nil_Size _).mono ?_; rintro e w3 ⟨rfl, rfl⟩
  go_wp2_with fail
  refine (lives_any _).mono ?_; rintro e w3 ⟨rfl, hb3⟩
  have HB3 := Lib.hid (HB2.out.trans (hb3.mono HB2.out.size))
  clear hb3 HB2
  go_wp2
  go_ret
  exact ⟨rfl, HB3.out⟩
end Go.Proofs.Ytejmnjgmmjpenaa
