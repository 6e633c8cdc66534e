/- The law's lives; layer 10 (uniq). -/
import Derived.Test.YtmnolldomipgiaaFnD
namespace Go.Proofs.Ytmnolldomipgiaa
open Go.RowKit Go.Shelf Go.Maps

set_option maxRecDepth 100000 in
set_option maxHeartbeats 400000 in
theorem l_lives (w : World) : Calls Try.prog 7 #[] w fun e w' => e = .returned (.bool true) ∧ Below w.heap.size w w' := by
  have hx : (⟨1, 0, 7⟩ : En).ok := ⟨by unfold In64; decide, by unfold In64; decide, by unfold In64; decide⟩
  have hx1 : In64 1 := by unfold In64; decide
  have hx0 : In64 0 := by unfold In64; decide
  have f1 : lookE (insE [] ⟨1, 0, 7⟩) 1 0 = some 7 := by decide
  have f2 : lookE (insE [] ⟨1, 0, 7⟩) 0 1 = none := by decide
  have HP : Hid (∀ w1 T b, Own10 w.heap.size w w1 T b 0 [] → Calls Try.prog 15 #[.pointer (some ⟨T, 0, none⟩), .int .i64 1, .int .i64 0, .int .i64 7] w1 fun e w' => e = .returned (.int .i64 0) ∧ Own10 w.heap.size w w' T b 1 (insE [] ⟨1, 0, 7⟩)) := Lib.hid (fun w1 T b h => p_Put h hx rfl (by omega))
  have HQ : Hid (∀ w1 T b, Own10 w.heap.size w w1 T b 1 (insE [] ⟨1, 0, 7⟩) → (Calls Try.prog 15 #[.pointer (some ⟨T, 0, none⟩), .int .i64 1, .int .i64 0, .int .i64 8] w1 fun e w' => e = .returned (.int .i64 6) ∧ w1 = w') ∧
      (Calls Try.prog 11 #[.pointer (some ⟨T, 0, none⟩), .int .i64 1, .int .i64 0] w1 fun e w' => e = .returned (.tuple #[.int .i64 7, .bool true]) ∧ w1 = w') ∧ (Calls Try.prog 11 #[.pointer (some ⟨T, 0, none⟩), .int .i64 0, .int .i64 1] w1 fun e w' => e = .returned (.tuple #[.int .i64 0, .bool false]) ∧ w1 = w') ∧
      (∀ w2, Below w1.heap.size w1 w2 → Calls Try.prog 12 #[.pointer (some ⟨T, 0, none⟩)] w2 fun e w' => e = .returned (.int .i64 1) ∧ w2 = w')) := Lib.hid (fun w1 T b h => ⟨p_Put_no h hx1 hx0 (by rw [f1]; rfl), by
        have := p_Find h hx1 hx0
        rw [f1] at this
        exact this, by
        have := p_Find h hx0 hx1
        rw [f2] at this
        exact this, fun w2 hb => p_Len (h.below hb)⟩)
  clear hx hx1 hx0 f1 f2
  have HN := Lib.hid (p_New w)
  go_enter Try.func7, Try.ntmps7
  go_upto_region 8 with (first
    | (go_at_call 6; refine HN.out.mono ?_; rintro e w1 ⟨T, b, rfl, ho⟩; have HP1 := Lib.hid (HP.out _ _ _ ho); clear ho)
    | (go_at_call 11; refine HF1.out.mono ?_; rintro e w3 ⟨rfl, rfl⟩; clear HF1)
    | (go_at_call 11; refine HF2.out.mono ?_; rintro e w3 ⟨rfl, rfl⟩; clear HF2)
    | (go_at_call 15; refine HP1.out.mono ?_; rintro e w2 ⟨rfl, ho⟩; have HO := Lib.hid ho.bel; have HQ1 := Lib.hid (HQ.out _ _ _ ho); have HF0 := Lib.hid HQ1.out.1; have HF1 := Lib.hid HQ1.out.2.1; have HF2 := Lib.hid HQ1.out.2.2.1; clear ho HP1)
    | (go_at_call 15; refine HF0.out.mono ?_; rintro e w3 ⟨rfl, rfl⟩; clear HF0))
  have HL := Lib.hid (HQ1.out.2.2.2 _ (Below.refl _ w2))
  go_wp2_with (go_at_call 12; refine HL.out.mono ?_; rintro e w3 ⟨rfl, rfl⟩)
  go_ret
  exact ⟨rfl, HO.out⟩
end Go.Proofs.Ytmnolldomipgiaa
