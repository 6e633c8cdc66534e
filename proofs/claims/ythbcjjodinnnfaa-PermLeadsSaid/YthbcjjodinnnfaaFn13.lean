/- Contract of Move of layer 5 (perm) out of range, over the translation. -/
import Derived.Test.YthbcjjodinnnfaaFn12
import Derived.Deep.RegionLaw
namespace Go.Proofs.Ythbcjjodinnnfaa
open Go.RowKit

set_option maxHeartbeats 400000 in
theorem perm_Move_out (A : Option Addr) (ca : Nat) (l : List Int) (f t : Int) (w : World) (h : RI w w.heap.size A l) (hl : l.length ≤ 1000000000000) (hi : ¬ ((0 ≤ f ∧ f < l.length) ∧ (0 ≤ t ∧ t < l.length))) :
    Calls Try.prog 17 #[.slice A l.length ca, .int .i64 f, .int .i64 t] w fun r w' => ∃ g, r = .returned (.slice (some ⟨g, 0, none⟩) l.length l.length) ∧ Blk w' g 3 (intRow l) ∧ w.heap.size ≤ g ∧ Below w.heap.size w w' := by
  have H := Lib.hid h
  clear h
  by_cases a1 : f < 0
  · go_enter Try.func17, Try.ntmps17
    go_wp2_with (first | (go_at_call 25; refine (perm_clone _ _ _ _ H.out (by omega)).mono ?_; rintro e w1 ⟨g, rfl, B1, hg, hb1⟩; have HB := Lib.hid B1; clear B1))
    go_ret
    exact ⟨g, rfl, HB.out, hg, hb1⟩
  · by_cases a2 : (l.length : Int) ≤ f
    · clear hi
      go_enter Try.func17, Try.ntmps17
      go_wp2_with (first | (go_at_call 25; refine (perm_clone _ _ _ _ H.out (by omega)).mono ?_; rintro e w1 ⟨g, rfl, B1, hg, hb1⟩; have HB := Lib.hid B1; clear B1))
      go_ret
      exact ⟨g, rfl, HB.out, hg, hb1⟩
    · by_cases a3 : t < 0
      · clear hi
        go_enter Try.func17, Try.ntmps17
        go_wp2_with (first | (go_at_call 25; refine (perm_clone _ _ _ _ H.out (by omega)).mono ?_; rintro e w1 ⟨g, rfl, B1, hg, hb1⟩; have HB := Lib.hid B1; clear B1))
        go_ret
        exact ⟨g, rfl, HB.out, hg, hb1⟩
      · have a4 : (l.length : Int) ≤ t := by omega
        clear hi
        go_enter Try.func17, Try.ntmps17
        go_wp2_with (first | (go_at_call 25; refine (perm_clone _ _ _ _ H.out (by omega)).mono ?_; rintro e w1 ⟨g, rfl, B1, hg, hb1⟩; have HB := Lib.hid B1; clear B1))
        go_ret
        exact ⟨g, rfl, HB.out, hg, hb1⟩

end Go.Proofs.Ythbcjjodinnnfaa
