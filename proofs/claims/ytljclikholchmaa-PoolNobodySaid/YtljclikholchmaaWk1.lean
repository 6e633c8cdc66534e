/- PoolNobody, over the contracts. -/
import Derived.Test.YtljclikholchmaaFnC
import Derived.Test.YtljclikholchmaaOpen
namespace Go.Proofs.Ytljclikholchmaa
open Go.RowKit

section
set_option maxRecDepth 100000 in
set_option maxHeartbeats 1000000 in
theorem poolNobody_walk (id : Int) (x : Nd) (w : World) (_hid : (Lit.int .i64 id).wf = true) (_hx : (Lit.int .i64 x.id).wf = true) :
    Calls Try.prog 6 #[.int .i64 id, ndV x] w fun e w' => e = .returned (.bool true) ∧ Below w.heap.size w w' := by
  obtain ⟨x0, x1, x2, x3, x4⟩ := x
  obtain ⟨Z, hZ⟩ : ∃ Z, w.heap.size = Z := ⟨_, rfl⟩
  have hX := Blk.new w 38 (ndRow ⟨x0, x1, x2, x3, x4⟩)
  rw [hZ] at hX ⊢
  have hb : Below Z w (w.alloc (.cells (ndRow ⟨x0, x1, x2, x3, x4⟩) 38)) := (Below.refl _ _).alloc (by omega) _
  have C1 := Lib.hid (nil_Take ⟨x0, x1, x2, x3, x4⟩ (w.alloc (.cells (ndRow ⟨x0, x1, x2, x3, x4⟩) 38)))
  unfold ndV ndRow at C1
  unfold ndRow at hX hb
  unfold ndV ndRow
  dsimp only at C1 hX hb ⊢
  have hz : Z < (w.alloc (.cells #[.int .i64 x0, .int .i64 x1, .int .i64 x2, .int .i64 x3, .int .i64 x4] 38)).heap.size := by simp; omega
  have HX := Lib.hid hX
  have HB := Lib.hid hb
  have HZ := Lib.hid hz
  clear hX hb hz _hid _hx
  go_enter Try.func6, Try.ntmps6
  go_wp2_with fail
  refine C1.out.mono ?_; rintro e w1 ⟨rfl, b1⟩
  have HX1 := Lib.hid (HX.out.below b1 HX.out.lt)
  have HB1 := Lib.hid (HB.out.trans (b1.mono (Nat.le_of_lt HZ.out)))
  clear b1 C1 HX HB HZ
  have C2 := Lib.hid (nil_At id w1)
  go_wp2_with fail
  refine C2.out.mono ?_; rintro e w2 ⟨he, b2⟩
  have he2 : e = .returned (.tuple #[.agg #[.int .i64 0, .int .i64 0, .int .i64 0, .int .i64 0, .int .i64 0], .bool false]) := he
  subst he2
  have HX2 := Lib.hid (HX1.out.below b2 HX1.out.lt)
  have hz1 : Z ≤ w1.heap.size := by have := HX1.out.lt; omega
  have HB2 := Lib.hid (HB1.out.trans (b2.mono hz1))
  clear b2 C2 HX1 HB1 hz1 he
  have hz2 : Z ≤ w2.heap.size := by have := HX2.out.lt; omega
  have HZ2 := Lib.hid hz2
  clear hz2
  obtain ⟨w3, hw3⟩ : ∃ w3, w2.alloc (.cells #[.int .i64 0, .int .i64 0, .int .i64 0, .int .i64 0, .int .i64 0] 38) = w3 := ⟨_, rfl⟩
  have HW3 := Lib.hid hw3
  have C3 := Lib.hid (nil_Give id w3)
  have C4 := Lib.hid (nil_Set ⟨x0, x1, x2, x3, x4⟩ w3)
  have HX3 := Lib.hid (show Blk w3 Z 38 #[.int .i64 x0, .int .i64 x1, .int .i64 x2, .int .i64 x3, .int .i64 x4] by rw [← hw3]; exact HX2.out.alloc _)
  have HB3 := Lib.hid (show Below Z w w3 by rw [← hw3]; exact HB2.out.alloc HZ2.out _)
  have HM3 := Lib.hid (show Blk w3 w2.heap.size 38 #[.int .i64 0, .int .i64 0, .int .i64 0, .int .i64 0, .int .i64 0] by rw [← hw3]; exact Blk.new _ _ _)
  have c0 := HX3.out.cell 0
  have c1 := HX3.out.cell 1
  have c2 := HX3.out.cell 2
  have c3 := HX3.out.cell 3
  have c4 := HX3.out.cell 4
  simp at c0 c1 c2 c3 c4
  clear hw3 HX2 HB2
  unfold ndV ndRow at C4
  dsimp only at C4
  go_wp2_with fail
  rw [HW3.out]
  refine C3.out.mono ?_; rintro e w4 ⟨rfl, rfl⟩
  clear C3 HW3
  go_wp2_with fail
  refine C4.out.mono ?_; rintro e w4 ⟨rfl, b4⟩
  have HM4 := Lib.hid (HM3.out.below b4 HM3.out.lt)
  have hz3 : Z ≤ w3.heap.size := by have := HX3.out.lt; omega
  have HB4 := Lib.hid (HB3.out.trans (b4.mono hz3))
  have d0 := HM4.out.cell 0
  have d1 := HM4.out.cell 1
  have d2 := HM4.out.cell 2
  have d3 := HM4.out.cell 3
  have d4 := HM4.out.cell 4
  simp at d0 d1 d2 d3 d4
  have HZ4 := Lib.hid (show Z ≤ w4.heap.size by have := HM4.out.lt; have := HZ2.out; omega)
  clear C4 b4 HX3 HB3 HM3 hz3 c0 c1 c2 c3 c4
  go_wp2_with fail
  refine (nil_Room _).mono ?_; rintro e w5 ⟨rfl, rfl⟩
  clear d0 d1 d2 d3 d4
  go_wp2_with fail
  refine (nil_Len _).mono ?_; rintro e w5 ⟨rfl, rfl⟩
  go_wp2_with fail
  refine (law_All_nil 9).mono ?_; rintro e w5 ⟨v, rfl, ho, b5⟩
  obtain ⟨A, c, rfl⟩ := ownN_form ho
  have HB5 := Lib.hid (HB4.out.trans (b5.mono HZ4.out))
  have HZ5 := Lib.hid (Nat.le_trans HZ4.out b5.size)
  clear ho b5 HB4 HZ4
  go_wp2_with fail
  refine (lives_any _).mono ?_; rintro e w6 ⟨rfl, b6⟩
  have HB6 := Lib.hid (HB5.out.trans (b6.mono HZ5.out))
  clear b6 HB5
  go_wp2
  go_ret
  exact ⟨rfl, HB6.out⟩
end
end Go.Proofs.Ytljclikholchmaa
