/- The walk of the law EdgeMeans. -/
import Derived.Test.YtkbjmbgjechonaaWk5
import Derived.Deep.QuietTactic
import Derived.BigQuiet
namespace Go.Proofs.Ytkbjmbgjechonaa
open Go.RowKit

theorem norm_range {f g : Int} (f0 : 0 ≤ f) (f1 : f ≤ 100) (g0 : 0 ≤ g) (g1 : g ≤ 100) : 0 ≤ (normF f g).1 ∧ (normF f g).1 ≤ 4294967296 ∧ 0 ≤ (normF f g).2.1 ∧ (normF f g).2.1 ≤ 4294967296 := by
  have a := notF_range f0
  have b := notF_range g0
  unfold normF
  split <;> simp <;> omega
theorem meet_range {f g : Int} (f0 : 0 ≤ f) (f1 : f ≤ 100) (g0 : 0 ≤ g) (g1 : g ≤ 100) : 0 ≤ (meetF f g).1 ∧ (meetF f g).1 ≤ 4294967296 := by
  unfold meetF
  split
  · simp
  · split
    · simp; omega
    · split <;> simp; omega
theorem turned_range {f g h : Int} (f0 : 0 ≤ f) (f1 : f ≤ 200) (g0 : 0 ≤ g) (g1 : g ≤ 200) (h0 : 0 ≤ h) (h1 : h ≤ 200) :
    0 ≤ (turnedF f g h).1 ∧ (turnedF f g h).1 ≤ 4294967296 ∧ 0 ≤ (turnedF f g h).2.1 ∧ (turnedF f g h).2.1 ≤ 4294967296 ∧ 0 ≤ (turnedF f g h).2.2.1 ∧ (turnedF f g h).2.2.1 ≤ 4294967296 ∧ 0 ≤ (turnedF f g h).2.2.2.2.1 ∧ (turnedF f g h).2.2.2.2.1 ≤ 4294967296 := by
  have a := notF_range g0
  have b := notF_range h0
  unfold turnedF
  split <;> simp <;> omega
theorem ite_range {f g h : Int} (f0 : 0 ≤ f) (f1 : f ≤ 100) (g0 : 0 ≤ g) (g1 : g ≤ 100) (h0 : 0 ≤ h) (h1 : h ≤ 100) :
    0 ≤ (iteF f g h).1 ∧ (iteF f g h).1 ≤ 4294967296 ∧ 0 ≤ (iteF f g h).2.1 ∧ (iteF f g h).2.1 ≤ 4294967296 ∧ 0 ≤ (iteF f g h).2.2.1 ∧ (iteF f g h).2.2.1 ≤ 4294967296 ∧ 0 ≤ (iteF f g h).2.2.2.2.1 ∧ (iteF f g h).2.2.2.2.1 ≤ 4294967296 := by
  have a := notF_range f0
  have k : 0 ≤ knownF f g 0 ∧ knownF f g 0 ≤ 100 := by have := notF_range (e := 0) (by omega); unfold knownF; split <;> (try split) <;> omega
  have k1 : 0 ≤ knownF f h 1 ∧ knownF f h 1 ≤ 100 := by have := notF_range (e := 1) (by omega); unfold knownF; split <;> (try split) <;> omega
  unfold iteF
  split
  · have : 0 ≤ (settledF f (knownF f g 0) (knownF f h 1)).1 ∧ (settledF f (knownF f g 0) (knownF f h 1)).1 ≤ 4294967296 := by
      unfold settledF
      split
      · simp; omega
      · split
        · simp; omega
        · split
          · simp; omega
          · split <;> simp; omega
    simp; omega
  · split
    · exact turned_range (by omega) (by omega) (by omega) (by omega) (by omega) (by omega)
    · exact turned_range (by omega) (by omega) (by omega) (by omega) (by omega) (by omega)

set_option maxHeartbeats 4000000 in
theorem edgeMeans_walk (x0 x1 x2 n : Int) (w : World) (w0 : (Lit.int .u8 x0).wf = true) (w1 : (Lit.int .u8 x1).wf = true) (w2 : (Lit.int .u8 x2).wf = true) (w3 : (Lit.int .u64 n).wf = true) :
    Calls Try.prog 6 #[.agg #[.int .u8 x0, .int .u8 x1, .int .u8 x2], .int .u64 n] w fun e w' => e = .returned (.bool true) ∧ Below w.heap.size w w' := by
  obtain ⟨b01, b02⟩ := bounds_u8 w0
  obtain ⟨b11, b12⟩ := bounds_u8 w1
  obtain ⟨b21, b22⟩ := bounds_u8 w2
  obtain ⟨n1, n2⟩ := bounds_u64 w3
  clear w0 w1 w2 w3
  have f0 : 0 ≤ x0 % 42 := by omega
  have f1 : x0 % 42 ≤ 100 := by omega
  have g0 : 0 ≤ x1 % 42 := by omega
  have g1 : x1 % 42 ≤ 100 := by omega
  have h0 : 0 ≤ x2 % 42 := by omega
  have h1 : x2 % 42 ≤ 100 := by omega
  obtain ⟨p1, p2⟩ := notF_range f0
  obtain ⟨p3, p4, p5, p6⟩ := norm_range f0 f1 g0 g1
  obtain ⟨p7, p8⟩ := meet_range f0 f1 g0 g1
  obtain ⟨p9, p10, p11, p12, p13, p14, p15, p16⟩ := ite_range f0 f1 g0 g1 h0 h1
  have q1 := is_notF n f0
  obtain ⟨q2, q3, q4⟩ := norm_is n f0 g0
  have q5 := meet_is n f0 g0
  have q6 := ite_done n f0 g0 h0
  have q7 := ite_open n f0 g0 h0
  have q2 : (!(isF (normF (x0 % 42) (x1 % 42)).1 n == !(isF (x0 % 42) n == (normF (x0 % 42) (x1 % 42)).2.2))) = false := by rw [q2]; cases isF (x0 % 42) n <;> cases (normF (x0 % 42) (x1 % 42)).2.2 <;> rfl
  have q3 : (!(isF (normF (x0 % 42) (x1 % 42)).2.1 n == !(isF (x1 % 42) n == (normF (x0 % 42) (x1 % 42)).2.2))) = false := by rw [q3]; cases isF (x1 % 42) n <;> cases (normF (x0 % 42) (x1 % 42)).2.2 <;> rfl
  cases hA : isF (x0 % 42) n <;> cases hM : (meetF (x0 % 42) (x1 % 42)).2 <;> cases hD : (iteF (x0 % 42) (x1 % 42) (x2 % 42)).2.2.2.2.2
  all_goals
    simp only [hA] at q1
    simp only [hA, hM, hD, wantF, cond_true, cond_false, forall_const, true_imp_iff, Bool.false_eq_true, false_imp_iff, Bool.true_eq_false] at q5 q6 q7
  case false.false.true =>
    go_enter Try.func6, Try.ntmps6
    go_wp2
    go_quiet (fail)
    go_wp2_with (first
      | (go_at_call 26; refine (ref_Is _ _ _ (by omega) (by omega) (by omega) (by omega)).mono ?_; rintro e w' ⟨rfl, rfl⟩)
      | (go_at_call 15; refine (edge_Not _ _ (by omega) (by omega)).mono ?_; rintro e w' ⟨rfl, rfl⟩)
      | (go_at_call 13; refine (edge_Neg _ _ (by omega) (by omega)).mono ?_; rintro e w' ⟨rfl, rfl⟩)
      | (go_at_call 14; refine (ref_Neg _ _ (by omega) (by omega)).mono ?_; rintro e w' ⟨rfl, rfl⟩)
      | (go_at_call 20; refine (edge_Norm _ _ _ (by omega) (by omega) (by omega) (by omega)).mono ?_; rintro e w' ⟨rfl, rfl⟩)
      | (go_at_call 22; refine (edge_Meet _ _ _ (by omega) (by omega) (by omega) (by omega)).mono ?_; rintro e w' ⟨rfl, rfl⟩)
      | (go_at_call 24; refine (law_ite _ _ _ _ (by omega) (by omega) (by omega) (by omega) (by omega) (by omega)).mono ?_; rintro e w1 ⟨rfl, hb1⟩; unfold Ask)
      | (go_at_call 8; refine (lives_any _).mono ?_; rintro e w2 ⟨rfl, hb2⟩))
    go_ret
    have hw : Below w.heap.size w ((w.alloc (Obj.cells #[Value.int IntKind.u8 x0, Value.int IntKind.u8 x1, Value.int IntKind.u8 x2] 45)).drewN nq) := by simpa using below_drewN (((Below.refl w.heap.size w).alloc (Nat.le_refl _) _)) _
    have hw1 := hw.trans (hb1.mono hw.size)
    first
      | exact ⟨rfl, hw1.trans (hb2.mono hw1.size)⟩
      | exact ⟨rfl, (hw1.alloc hw1.size _).trans (hb2.mono (by have := hw1.size; simp; omega))⟩
  case false.false.false =>
    obtain ⟨q7, q8, q9⟩ := q7
    cases hX : isF (iteF (x0 % 42) (x1 % 42) (x2 % 42)).1 n
    all_goals
      simp only [hX, cond_true, cond_false, bne] at q7
      go_enter Try.func6, Try.ntmps6
      go_wp2
      go_quiet (fail)
      go_wp2_with (first
        | (go_at_call 26; refine (ref_Is _ _ _ (by omega) (by omega) (by omega) (by omega)).mono ?_; rintro e w' ⟨rfl, rfl⟩)
        | (go_at_call 15; refine (edge_Not _ _ (by omega) (by omega)).mono ?_; rintro e w' ⟨rfl, rfl⟩)
        | (go_at_call 13; refine (edge_Neg _ _ (by omega) (by omega)).mono ?_; rintro e w' ⟨rfl, rfl⟩)
        | (go_at_call 14; refine (ref_Neg _ _ (by omega) (by omega)).mono ?_; rintro e w' ⟨rfl, rfl⟩)
        | (go_at_call 20; refine (edge_Norm _ _ _ (by omega) (by omega) (by omega) (by omega)).mono ?_; rintro e w' ⟨rfl, rfl⟩)
        | (go_at_call 22; refine (edge_Meet _ _ _ (by omega) (by omega) (by omega) (by omega)).mono ?_; rintro e w' ⟨rfl, rfl⟩)
        | (go_at_call 24; refine (law_ite _ _ _ _ (by omega) (by omega) (by omega) (by omega) (by omega) (by omega)).mono ?_; rintro e w1 ⟨rfl, hb1⟩; unfold Ask)
        | (go_at_call 8; refine (lives_any _).mono ?_; rintro e w2 ⟨rfl, hb2⟩))
      go_ret
      have hw : Below w.heap.size w ((w.alloc (Obj.cells #[Value.int IntKind.u8 x0, Value.int IntKind.u8 x1, Value.int IntKind.u8 x2] 45)).drewN nq) := by simpa using below_drewN (((Below.refl w.heap.size w).alloc (Nat.le_refl _) _)) _
      have hw1 := hw.trans (hb1.mono hw.size)
      first
        | exact ⟨rfl, hw1.trans (hb2.mono hw1.size)⟩
        | exact ⟨rfl, (hw1.alloc hw1.size _).trans (hb2.mono (by have := hw1.size; simp; omega))⟩
  case false.true.true =>
    go_enter Try.func6, Try.ntmps6
    go_wp2
    go_quiet (fail)
    go_wp2_with (first
      | (go_at_call 26; refine (ref_Is _ _ _ (by omega) (by omega) (by omega) (by omega)).mono ?_; rintro e w' ⟨rfl, rfl⟩)
      | (go_at_call 15; refine (edge_Not _ _ (by omega) (by omega)).mono ?_; rintro e w' ⟨rfl, rfl⟩)
      | (go_at_call 13; refine (edge_Neg _ _ (by omega) (by omega)).mono ?_; rintro e w' ⟨rfl, rfl⟩)
      | (go_at_call 14; refine (ref_Neg _ _ (by omega) (by omega)).mono ?_; rintro e w' ⟨rfl, rfl⟩)
      | (go_at_call 20; refine (edge_Norm _ _ _ (by omega) (by omega) (by omega) (by omega)).mono ?_; rintro e w' ⟨rfl, rfl⟩)
      | (go_at_call 22; refine (edge_Meet _ _ _ (by omega) (by omega) (by omega) (by omega)).mono ?_; rintro e w' ⟨rfl, rfl⟩)
      | (go_at_call 24; refine (law_ite _ _ _ _ (by omega) (by omega) (by omega) (by omega) (by omega) (by omega)).mono ?_; rintro e w1 ⟨rfl, hb1⟩; unfold Ask)
      | (go_at_call 8; refine (lives_any _).mono ?_; rintro e w2 ⟨rfl, hb2⟩))
    go_ret
    have hw : Below w.heap.size w ((w.alloc (Obj.cells #[Value.int IntKind.u8 x0, Value.int IntKind.u8 x1, Value.int IntKind.u8 x2] 45)).drewN nq) := by simpa using below_drewN (((Below.refl w.heap.size w).alloc (Nat.le_refl _) _)) _
    have hw1 := hw.trans (hb1.mono hw.size)
    first
      | exact ⟨rfl, hw1.trans (hb2.mono hw1.size)⟩
      | exact ⟨rfl, (hw1.alloc hw1.size _).trans (hb2.mono (by have := hw1.size; simp; omega))⟩
  case false.true.false =>
    obtain ⟨q7, q8, q9⟩ := q7
    cases hX : isF (iteF (x0 % 42) (x1 % 42) (x2 % 42)).1 n
    all_goals
      simp only [hX, cond_true, cond_false, bne] at q7
      go_enter Try.func6, Try.ntmps6
      go_wp2
      go_quiet (fail)
      go_wp2_with (first
        | (go_at_call 26; refine (ref_Is _ _ _ (by omega) (by omega) (by omega) (by omega)).mono ?_; rintro e w' ⟨rfl, rfl⟩)
        | (go_at_call 15; refine (edge_Not _ _ (by omega) (by omega)).mono ?_; rintro e w' ⟨rfl, rfl⟩)
        | (go_at_call 13; refine (edge_Neg _ _ (by omega) (by omega)).mono ?_; rintro e w' ⟨rfl, rfl⟩)
        | (go_at_call 14; refine (ref_Neg _ _ (by omega) (by omega)).mono ?_; rintro e w' ⟨rfl, rfl⟩)
        | (go_at_call 20; refine (edge_Norm _ _ _ (by omega) (by omega) (by omega) (by omega)).mono ?_; rintro e w' ⟨rfl, rfl⟩)
        | (go_at_call 22; refine (edge_Meet _ _ _ (by omega) (by omega) (by omega) (by omega)).mono ?_; rintro e w' ⟨rfl, rfl⟩)
        | (go_at_call 24; refine (law_ite _ _ _ _ (by omega) (by omega) (by omega) (by omega) (by omega) (by omega)).mono ?_; rintro e w1 ⟨rfl, hb1⟩; unfold Ask)
        | (go_at_call 8; refine (lives_any _).mono ?_; rintro e w2 ⟨rfl, hb2⟩))
      go_ret
      have hw : Below w.heap.size w ((w.alloc (Obj.cells #[Value.int IntKind.u8 x0, Value.int IntKind.u8 x1, Value.int IntKind.u8 x2] 45)).drewN nq) := by simpa using below_drewN (((Below.refl w.heap.size w).alloc (Nat.le_refl _) _)) _
      have hw1 := hw.trans (hb1.mono hw.size)
      first
        | exact ⟨rfl, hw1.trans (hb2.mono hw1.size)⟩
        | exact ⟨rfl, (hw1.alloc hw1.size _).trans (hb2.mono (by have := hw1.size; simp; omega))⟩
  case true.false.true =>
    go_enter Try.func6, Try.ntmps6
    go_wp2
    go_quiet (fail)
    go_wp2_with (first
      | (go_at_call 26; refine (ref_Is _ _ _ (by omega) (by omega) (by omega) (by omega)).mono ?_; rintro e w' ⟨rfl, rfl⟩)
      | (go_at_call 15; refine (edge_Not _ _ (by omega) (by omega)).mono ?_; rintro e w' ⟨rfl, rfl⟩)
      | (go_at_call 13; refine (edge_Neg _ _ (by omega) (by omega)).mono ?_; rintro e w' ⟨rfl, rfl⟩)
      | (go_at_call 14; refine (ref_Neg _ _ (by omega) (by omega)).mono ?_; rintro e w' ⟨rfl, rfl⟩)
      | (go_at_call 20; refine (edge_Norm _ _ _ (by omega) (by omega) (by omega) (by omega)).mono ?_; rintro e w' ⟨rfl, rfl⟩)
      | (go_at_call 22; refine (edge_Meet _ _ _ (by omega) (by omega) (by omega) (by omega)).mono ?_; rintro e w' ⟨rfl, rfl⟩)
      | (go_at_call 24; refine (law_ite _ _ _ _ (by omega) (by omega) (by omega) (by omega) (by omega) (by omega)).mono ?_; rintro e w1 ⟨rfl, hb1⟩; unfold Ask)
      | (go_at_call 8; refine (lives_any _).mono ?_; rintro e w2 ⟨rfl, hb2⟩))
    go_ret
    have hw : Below w.heap.size w ((w.alloc (Obj.cells #[Value.int IntKind.u8 x0, Value.int IntKind.u8 x1, Value.int IntKind.u8 x2] 45)).drewN nq) := by simpa using below_drewN (((Below.refl w.heap.size w).alloc (Nat.le_refl _) _)) _
    have hw1 := hw.trans (hb1.mono hw.size)
    first
      | exact ⟨rfl, hw1.trans (hb2.mono hw1.size)⟩
      | exact ⟨rfl, (hw1.alloc hw1.size _).trans (hb2.mono (by have := hw1.size; simp; omega))⟩
  case true.false.false =>
    obtain ⟨q7, q8, q9⟩ := q7
    cases hX : isF (iteF (x0 % 42) (x1 % 42) (x2 % 42)).1 n
    all_goals
      simp only [hX, cond_true, cond_false, bne] at q7
      go_enter Try.func6, Try.ntmps6
      go_wp2
      go_quiet (fail)
      go_wp2_with (first
        | (go_at_call 26; refine (ref_Is _ _ _ (by omega) (by omega) (by omega) (by omega)).mono ?_; rintro e w' ⟨rfl, rfl⟩)
        | (go_at_call 15; refine (edge_Not _ _ (by omega) (by omega)).mono ?_; rintro e w' ⟨rfl, rfl⟩)
        | (go_at_call 13; refine (edge_Neg _ _ (by omega) (by omega)).mono ?_; rintro e w' ⟨rfl, rfl⟩)
        | (go_at_call 14; refine (ref_Neg _ _ (by omega) (by omega)).mono ?_; rintro e w' ⟨rfl, rfl⟩)
        | (go_at_call 20; refine (edge_Norm _ _ _ (by omega) (by omega) (by omega) (by omega)).mono ?_; rintro e w' ⟨rfl, rfl⟩)
        | (go_at_call 22; refine (edge_Meet _ _ _ (by omega) (by omega) (by omega) (by omega)).mono ?_; rintro e w' ⟨rfl, rfl⟩)
        | (go_at_call 24; refine (law_ite _ _ _ _ (by omega) (by omega) (by omega) (by omega) (by omega) (by omega)).mono ?_; rintro e w1 ⟨rfl, hb1⟩; unfold Ask)
        | (go_at_call 8; refine (lives_any _).mono ?_; rintro e w2 ⟨rfl, hb2⟩))
      go_ret
      have hw : Below w.heap.size w ((w.alloc (Obj.cells #[Value.int IntKind.u8 x0, Value.int IntKind.u8 x1, Value.int IntKind.u8 x2] 45)).drewN nq) := by simpa using below_drewN (((Below.refl w.heap.size w).alloc (Nat.le_refl _) _)) _
      have hw1 := hw.trans (hb1.mono hw.size)
      first
        | exact ⟨rfl, hw1.trans (hb2.mono hw1.size)⟩
        | exact ⟨rfl, (hw1.alloc hw1.size _).trans (hb2.mono (by have := hw1.size; simp; omega))⟩
  case true.true.true =>
    go_enter Try.func6, Try.ntmps6
    go_wp2
    go_quiet (fail)
    go_wp2_with (first
      | (go_at_call 26; refine (ref_Is _ _ _ (by omega) (by omega) (by omega) (by omega)).mono ?_; rintro e w' ⟨rfl, rfl⟩)
      | (go_at_call 15; refine (edge_Not _ _ (by omega) (by omega)).mono ?_; rintro e w' ⟨rfl, rfl⟩)
      | (go_at_call 13; refine (edge_Neg _ _ (by omega) (by omega)).mono ?_; rintro e w' ⟨rfl, rfl⟩)
      | (go_at_call 14; refine (ref_Neg _ _ (by omega) (by omega)).mono ?_; rintro e w' ⟨rfl, rfl⟩)
      | (go_at_call 20; refine (edge_Norm _ _ _ (by omega) (by omega) (by omega) (by omega)).mono ?_; rintro e w' ⟨rfl, rfl⟩)
      | (go_at_call 22; refine (edge_Meet _ _ _ (by omega) (by omega) (by omega) (by omega)).mono ?_; rintro e w' ⟨rfl, rfl⟩)
      | (go_at_call 24; refine (law_ite _ _ _ _ (by omega) (by omega) (by omega) (by omega) (by omega) (by omega)).mono ?_; rintro e w1 ⟨rfl, hb1⟩; unfold Ask)
      | (go_at_call 8; refine (lives_any _).mono ?_; rintro e w2 ⟨rfl, hb2⟩))
    go_ret
    have hw : Below w.heap.size w ((w.alloc (Obj.cells #[Value.int IntKind.u8 x0, Value.int IntKind.u8 x1, Value.int IntKind.u8 x2] 45)).drewN nq) := by simpa using below_drewN (((Below.refl w.heap.size w).alloc (Nat.le_refl _) _)) _
    have hw1 := hw.trans (hb1.mono hw.size)
    first
      | exact ⟨rfl, hw1.trans (hb2.mono hw1.size)⟩
      | exact ⟨rfl, (hw1.alloc hw1.size _).trans (hb2.mono (by have := hw1.size; simp; omega))⟩
  case true.true.false =>
    obtain ⟨q7, q8, q9⟩ := q7
    cases hX : isF (iteF (x0 % 42) (x1 % 42) (x2 % 42)).1 n
    all_goals
      simp only [hX, cond_true, cond_false, bne] at q7
      go_enter Try.func6, Try.ntmps6
      go_wp2
      go_quiet (fail)
      go_wp2_with (first
        | (go_at_call 26; refine (ref_Is _ _ _ (by omega) (by omega) (by omega) (by omega)).mono ?_; rintro e w' ⟨rfl, rfl⟩)
        | (go_at_call 15; refine (edge_Not _ _ (by omega) (by omega)).mono ?_; rintro e w' ⟨rfl, rfl⟩)
        | (go_at_call 13; refine (edge_Neg _ _ (by omega) (by omega)).mono ?_; rintro e w' ⟨rfl, rfl⟩)
        | (go_at_call 14; refine (ref_Neg _ _ (by omega) (by omega)).mono ?_; rintro e w' ⟨rfl, rfl⟩)
        | (go_at_call 20; refine (edge_Norm _ _ _ (by omega) (by omega) (by omega) (by omega)).mono ?_; rintro e w' ⟨rfl, rfl⟩)
        | (go_at_call 22; refine (edge_Meet _ _ _ (by omega) (by omega) (by omega) (by omega)).mono ?_; rintro e w' ⟨rfl, rfl⟩)
        | (go_at_call 24; refine (law_ite _ _ _ _ (by omega) (by omega) (by omega) (by omega) (by omega) (by omega)).mono ?_; rintro e w1 ⟨rfl, hb1⟩; unfold Ask)
        | (go_at_call 8; refine (lives_any _).mono ?_; rintro e w2 ⟨rfl, hb2⟩))
      go_ret
      have hw : Below w.heap.size w ((w.alloc (Obj.cells #[Value.int IntKind.u8 x0, Value.int IntKind.u8 x1, Value.int IntKind.u8 x2] 45)).drewN nq) := by simpa using below_drewN (((Below.refl w.heap.size w).alloc (Nat.le_refl _) _)) _
      have hw1 := hw.trans (hb1.mono hw.size)
      first
        | exact ⟨rfl, hw1.trans (hb2.mono hw1.size)⟩
        | exact ⟨rfl, (hw1.alloc hw1.size _).trans (hb2.mono (by have := hw1.size; simp; omega))⟩
end Go.Proofs.Ytkbjmbgjechonaa
