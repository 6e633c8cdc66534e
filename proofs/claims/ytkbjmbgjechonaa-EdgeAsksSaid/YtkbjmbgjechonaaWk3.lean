/- The contract of the specification's Ite; the walks of the laws EdgeAsks and EdgeUntold. -/
import Derived.Test.YtkbjmbgjechonaaFn5a
import Derived.Test.YtkbjmbgjechonaaFn5b
import Derived.Test.YtkbjmbgjechonaaFn5c
import Derived.Test.YtkbjmbgjechonaaWk2
namespace Go.Proofs.Ytkbjmbgjechonaa
open Go.RowKit

theorem ref_Ite (f g h : Int) (w : World) (f1 : 0 ≤ f) (f2 : f ≤ 4294967296) (g1 : 0 ≤ g) (g2 : g ≤ 4294967296) (h1 : 0 ≤ h) (h2 : h ≤ 4294967296) :
    Calls Try.prog 25 #[.int .i64 f, .int .i64 g, .int .i64 h] w fun r w' => r = .returned (.agg (Ask (iteF f g h))) ∧ Below w.heap.size w w' := by
  have e : iteF f g h = iteK f (knownF f g 0) (knownF f h 1) := rfl
  rw [e]
  clear e
  rcases known_0 f g with ⟨rfl, e⟩ | ⟨a, rfl, e⟩ | ⟨a, b, e⟩
  · rcases known_1 g h with ⟨rfl, e'⟩ | ⟨c, rfl, e'⟩ | ⟨c, d, e'⟩
    · rw [e, e']; exact ref_Ite_ffhf _ w f1 (by omega)
    · rw [e, e']; exact ref_Ite_ffhn _ w f1 (by omega)
    · rw [e, e']; exact ref_Ite_ffho _ _ w f1 (by omega) h1 (by omega) c d
  · rcases known_1 f h with ⟨rfl, e'⟩ | ⟨c, rfl, e'⟩ | ⟨c, d, e'⟩
    · rw [e, e']; exact ref_Ite_fnhf _ w f1 (by omega)
    · rw [e, e']; exact ref_Ite_fnhn _ w f1 (by omega)
    · rw [e, e']; exact ref_Ite_fnho _ _ w f1 (by omega) h1 (by omega) c d
  · rcases known_1 f h with ⟨rfl, e'⟩ | ⟨c, rfl, e'⟩ | ⟨c, d, e'⟩
    · rw [e, e']; exact ref_Ite_fohf _ _ w f1 (by omega) g1 (by omega) a b
    · rw [e, e']; exact ref_Ite_fohn _ _ w f1 (by omega) g1 (by omega) a b
    · rw [e, e']; exact ref_Ite_foho _ _ _ w f1 (by omega) g1 (by omega) a b h1 (by omega) c d

theorem edgeAsks_walk (a0 a1 a2 : Int) (w : World) (w0 : (Lit.int .i64 a0).wf = true) (w1 : (Lit.int .i64 a1).wf = true) (w2 : (Lit.int .i64 a2).wf = true) :
    Calls Try.prog 5 #[.int .i64 a0, .int .i64 a1, .int .i64 a2] w fun e w' => e = .returned (.bool true) ∧ Below w.heap.size w w' := by
  clear w0 w1 w2
  by_cases c0 : 0 ≤ a0 ∧ 0 ≤ a1 ∧ 0 ≤ a2 ∧ a0 ≤ 4294967296 ∧ a1 ≤ 4294967296 ∧ a2 ≤ 4294967296
  · obtain ⟨d0, d1, d2, d3, d4, d5⟩ := c0
    have he := eq_ask (iteF a0 a1 a2).1 (iteF a0 a1 a2).2.1 (iteF a0 a1 a2).2.2.1 (iteF a0 a1 a2).2.2.2.2.1 (iteF a0 a1 a2).1 (iteF a0 a1 a2).2.1 (iteF a0 a1 a2).2.2.1 (iteF a0 a1 a2).2.2.2.2.1 (iteF a0 a1 a2).2.2.2.1 (iteF a0 a1 a2).2.2.2.2.2 (iteF a0 a1 a2).2.2.2.1 (iteF a0 a1 a2).2.2.2.2.2
    have eg := Try.eqGuardType42
    go_enter Try.func5, Try.ntmps5
    go_wp2_with fail
    refine (law_ite _ _ _ _ (by omega) (by omega) (by omega) (by omega) (by omega) (by omega)).mono ?_; rintro e w1 ⟨rfl, hb1⟩; unfold Ask
    go_wp2_with fail
    refine (ref_Ite _ _ _ _ (by omega) (by omega) (by omega) (by omega) (by omega) (by omega)).mono ?_; rintro e w2 ⟨rfl, hb2⟩; unfold Ask
    go_wp2_with fail
    refine (lives_any _).mono ?_; rintro e w3 ⟨rfl, hb3⟩
    go_wp2_with fail
    go_ret
    exact ⟨rfl, (hb1.trans (hb2.mono hb1.size)).trans (hb3.mono (Nat.le_trans hb1.size hb2.size))⟩
  · by_cases d0 : a0 < 0
    · go_enter Try.func5, Try.ntmps5
      go_wp2_with (first
        | (go_at_call 8; refine (lives_any _).mono ?_; rintro e w1 ⟨rfl, hb1⟩))
      go_ret
      exact ⟨rfl, hb1⟩
    by_cases d1 : a1 < 0
    · go_enter Try.func5, Try.ntmps5
      go_wp2_with (first
        | (go_at_call 8; refine (lives_any _).mono ?_; rintro e w1 ⟨rfl, hb1⟩))
      go_ret
      exact ⟨rfl, hb1⟩
    by_cases d2 : a2 < 0
    · go_enter Try.func5, Try.ntmps5
      go_wp2_with (first
        | (go_at_call 8; refine (lives_any _).mono ?_; rintro e w1 ⟨rfl, hb1⟩))
      go_ret
      exact ⟨rfl, hb1⟩
    by_cases d3 : 4294967296 < a0
    · go_enter Try.func5, Try.ntmps5
      go_wp2_with (first
        | (go_at_call 8; refine (lives_any _).mono ?_; rintro e w1 ⟨rfl, hb1⟩))
      go_ret
      exact ⟨rfl, hb1⟩
    by_cases d4 : 4294967296 < a1
    · go_enter Try.func5, Try.ntmps5
      go_wp2_with (first
        | (go_at_call 8; refine (lives_any _).mono ?_; rintro e w1 ⟨rfl, hb1⟩))
      go_ret
      exact ⟨rfl, hb1⟩
    have d5 : 4294967296 < a2 := by omega
    clear c0
    go_enter Try.func5, Try.ntmps5
    go_wp2_with (first
      | (go_at_call 8; refine (lives_any _).mono ?_; rintro e w1 ⟨rfl, hb1⟩))
    go_ret
    exact ⟨rfl, hb1⟩
end Go.Proofs.Ytkbjmbgjechonaa
