/- Right; layer 28 (events). -/
import Derived.Test.YtfppplalgdopjaaDoorE4
namespace Go.Proofs.YtfppplalgdopjaaDoor
open Go.RowKit

def rightE (vars : Int) (L : List Ev) : Int := if vars < 0 ∨ 64 < vars then 2 else planR vars L
theorem e_Right (vars : Int) (L : List Ev) (A : Option Addr) (c : Nat) (w : World) (hR : RowG w w.heap.size A c (evC L)) (hl : L.length ≤ 1000000) :
    Calls Tryd.prog 10 #[.int .i64 vars, .slice A L.length c] w fun e w' => e = .returned (.int .i64 (rightE vars L)) ∧ Below w.heap.size w w' := by
  have HR := Lib.hid hR
  clear hR
  have HN := Lib.hid (e_ddNew vars 1 w (by decide) (by decide))
  by_cases hv : vars < 0 ∨ 64 < vars
  · have HN' : Hid (Calls Tryd.prog 12 #[.int .i64 vars, .int .i64 1] w fun e w' => e = .returned (.tuple #[.pointer none, .int .i64 2]) ∧ Below w.heap.size w w') := Lib.hid (HN.out.mono (by
      rintro e w' (⟨_, h⟩ | ⟨n, g, s, A, c, r, m, rfl, hn, _⟩)
      · exact h
      · omega))
    have HE : Hid (rightE vars L = 2) := Lib.hid (if_pos hv)
    go_enter Tryd.func10, Tryd.ntmps10
    go_wp2_with (go_at_call 12; (with_reducible refine HN'.out.mono ?_); rintro e w1 ⟨rfl, hb1⟩; have HB1 := Lib.hid hb1; clear hb1)
    go_ret
    exact ⟨by rw [HE.out]; rfl, HB1.out⟩
  · have HN' : Hid (Calls Tryd.prog 12 #[.int .i64 vars, .int .i64 1] w fun e w' => ∃ (n g : Nat), vars = (n : Int) ∧ n ≤ 64 ∧ e = .returned (.tuple #[.pointer (some ⟨g, 0, none⟩), .int .i64 0]) ∧ Man w' g n (.slice none 0 0) ∧ w.heap.size ≤ g ∧ Below w.heap.size w w') := Lib.hid (HN.out.mono (by
      rintro e w' (⟨h, _⟩ | ⟨n, g, s, A, c, r, m, hvn, hn, he, hK, hc, hsg, hws, hb⟩)
      · omega
      · exact ⟨n, g, hvn, hn, he, ⟨s, _, _, _, hK, A, c, hc, Nat.lt_trans hsg hK.lt⟩, by omega, hb⟩))
    have HE : Hid (rightE vars L = planR vars L) := Lib.hid (if_neg hv)
    clear HN
    go_enter Tryd.func10, Tryd.ntmps10
    go_wp2_with (first
      | (go_at_call 13; (with_reducible refine (e_Plan g n L A c w1 hn HM.out (HR2.out) w.heap.size hg hl).mono ?_); rintro e w2 ⟨rfl, hb2⟩; have HB2 := Lib.hid (HB1.out.trans hb2); clear hb2)
      | (go_at_call 12; (with_reducible refine HN'.out.mono ?_); rintro e w1 ⟨n, g, hvn, hn, rfl, hM, hg, hb1⟩; have HM := Lib.hid hM; have HR2 : Hid (RowG w1 g A c (evC L)) := Lib.hid ((HR.out.below hb1).more hg); have HB1 := Lib.hid hb1; have HVN := Lib.hid hvn; clear hb1 hM))
    go_ret
    exact ⟨by rw [← HVN.out, HE.out, HVN.out]; rfl, HB2.out⟩
end Go.Proofs.YtfppplalgdopjaaDoor
