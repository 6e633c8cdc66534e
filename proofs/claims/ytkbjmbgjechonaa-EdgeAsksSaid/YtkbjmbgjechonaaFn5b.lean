/- The contract of the specification's Ite, over the translation: three of nine ways through its first tests. -/
import Derived.Test.YtkbjmbgjechonaaFn4
namespace Go.Proofs.Ytkbjmbgjechonaa
open Go.RowKit

set_option maxHeartbeats 1000000 in
theorem ref_Ite_fnhf (f : Int) (w : World) (f1 : 0 ≤ f) (f2 : f ≤ 4294967297) :
    Calls Try.prog 25 #[.int .i64 f, .int .i64 (notF f), .int .i64 f] w fun r w' => r = .returned (.agg (Ask (iteK f 1 1))) ∧ Below w.heap.size w w' := by
  have nn : (notF f == f) = false := by have := notF_ne f; simp [this]
  obtain ⟨r1, r2⟩ := notF_range f1
  skip
  go_enter Try.func25, Try.ntmps25
  go_wp2_with (first
      | (go_at_call 16; refine (ref_Not _ _ (by omega) (by omega)).mono ?_; rintro e w' ⟨rfl, rfl⟩)
      | (go_at_call 14; refine (ref_Neg _ _ (by omega) (by omega)).mono ?_; rintro e w' ⟨rfl, rfl⟩)
      | (go_at_call 28; refine (ref_turned _ _ _ _ (by omega) (by omega) (by omega) (by omega)).mono ?_; rintro e w1 ⟨rfl, hb1⟩; unfold Ask; obtain ⟨hc1, hf1⟩ := bcell hb1; have hz1 : w.heap.size + 1 ≤ w1.heap.size := (by have := hb1.size; simp at this; omega)))
  all_goals
    first
      | (have hbw : Below w.heap.size w w1 := ((Below.refl _ _).alloc (Nat.le_refl _) _).trans (hb1.mono (by simp))
         have er : iteK f 1 1 = turnedF (notF f) 1 1 := iteK_neg (by simp only [beq_iff_eq, beq_eq_false_iff_ne, ne_eq] at *; apply set_5 <;> omega) (by assumption)
         refine bodyPost_ret (v := .agg (Ask (turnedF (notF f) 1 1))) (by unfold Ask; simp [results, Try.results25, go_sem, hc1]) rfl ⟨ret_a er.symm, ?_⟩
         go_grown; done)
      | (have hbw : Below w.heap.size w w1 := ((Below.refl _ _).alloc (Nat.le_refl _) _).trans (hb1.mono (by simp))
         have er : iteK f 1 1 = turnedF f 1 1 := iteK_pos (by simp only [beq_iff_eq, beq_eq_false_iff_ne, ne_eq] at *; apply set_5 <;> omega) (by assumption)
         refine bodyPost_ret (v := .agg (Ask (turnedF f 1 1))) (by unfold Ask; simp [results, Try.results25, go_sem, hc1]) rfl ⟨ret_a er.symm, ?_⟩
         go_grown; done)
      | (go_returns
         refine ⟨ret_a (x := (0, 0, 0, false, _, true)) (iteK_done ?_).symm, by go_grown⟩
         try simp only [beq_iff_eq, beq_eq_false_iff_ne, ne_eq] at *
         first
           | (apply set_1; omega)
           | (apply set_2 <;> omega)
           | (apply set_3 <;> omega)
           | (apply set_4 <;> omega))

set_option maxHeartbeats 1000000 in
theorem ref_Ite_fnhn (f : Int) (w : World) (f1 : 0 ≤ f) (f2 : f ≤ 4294967297) :
    Calls Try.prog 25 #[.int .i64 f, .int .i64 (notF f), .int .i64 (notF f)] w fun r w' => r = .returned (.agg (Ask (iteK f 1 0))) ∧ Below w.heap.size w w' := by
  have nn : (notF f == f) = false := by have := notF_ne f; simp [this]
  obtain ⟨r1, r2⟩ := notF_range f1
  skip
  go_enter Try.func25, Try.ntmps25
  go_wp2_with (first
      | (go_at_call 16; refine (ref_Not _ _ (by omega) (by omega)).mono ?_; rintro e w' ⟨rfl, rfl⟩)
      | (go_at_call 14; refine (ref_Neg _ _ (by omega) (by omega)).mono ?_; rintro e w' ⟨rfl, rfl⟩)
      | (go_at_call 28; refine (ref_turned _ _ _ _ (by omega) (by omega) (by omega) (by omega)).mono ?_; rintro e w1 ⟨rfl, hb1⟩; unfold Ask; obtain ⟨hc1, hf1⟩ := bcell hb1; have hz1 : w.heap.size + 1 ≤ w1.heap.size := (by have := hb1.size; simp at this; omega)))
  all_goals
    first
      | (have hbw : Below w.heap.size w w1 := ((Below.refl _ _).alloc (Nat.le_refl _) _).trans (hb1.mono (by simp))
         have er : iteK f 1 0 = turnedF (notF f) 0 1 := iteK_neg (by simp only [beq_iff_eq, beq_eq_false_iff_ne, ne_eq] at *; apply set_5 <;> omega) (by assumption)
         refine bodyPost_ret (v := .agg (Ask (turnedF (notF f) 0 1))) (by unfold Ask; simp [results, Try.results25, go_sem, hc1]) rfl ⟨ret_a er.symm, ?_⟩
         go_grown; done)
      | (have hbw : Below w.heap.size w w1 := ((Below.refl _ _).alloc (Nat.le_refl _) _).trans (hb1.mono (by simp))
         have er : iteK f 1 0 = turnedF f 1 0 := iteK_pos (by simp only [beq_iff_eq, beq_eq_false_iff_ne, ne_eq] at *; apply set_5 <;> omega) (by assumption)
         refine bodyPost_ret (v := .agg (Ask (turnedF f 1 0))) (by unfold Ask; simp [results, Try.results25, go_sem, hc1]) rfl ⟨ret_a er.symm, ?_⟩
         go_grown; done)
      | (go_returns
         refine ⟨ret_a (x := (0, 0, 0, false, _, true)) (iteK_done ?_).symm, by go_grown⟩
         try simp only [beq_iff_eq, beq_eq_false_iff_ne, ne_eq] at *
         first
           | (apply set_1; omega)
           | (apply set_2 <;> omega)
           | (apply set_3 <;> omega)
           | (apply set_4 <;> omega))

set_option maxHeartbeats 1000000 in
theorem ref_Ite_fnho (f h : Int) (w : World) (f1 : 0 ≤ f) (f2 : f ≤ 4294967297) (h1 : 0 ≤ h) (h2 : h ≤ 4294967297) (c : ¬ h = f) (d : ¬ h = notF f) :
    Calls Try.prog 25 #[.int .i64 f, .int .i64 (notF f), .int .i64 h] w fun r w' => r = .returned (.agg (Ask (iteK f 1 h))) ∧ Below w.heap.size w w' := by
  have c' : (h == f) = false := by simp [c]
  have d' : (h == notF f) = false := by simp [d]
  have nn : (notF f == f) = false := by have := notF_ne f; simp [this]
  obtain ⟨r1, r2⟩ := notF_range f1
  clear c d
  go_enter Try.func25, Try.ntmps25
  go_wp2_with (first
      | (go_at_call 16; refine (ref_Not _ _ (by omega) (by omega)).mono ?_; rintro e w' ⟨rfl, rfl⟩)
      | (go_at_call 14; refine (ref_Neg _ _ (by omega) (by omega)).mono ?_; rintro e w' ⟨rfl, rfl⟩)
      | (go_at_call 28; refine (ref_turned _ _ _ _ (by omega) (by omega) (by omega) (by omega)).mono ?_; rintro e w1 ⟨rfl, hb1⟩; unfold Ask; obtain ⟨hc1, hf1⟩ := bcell hb1; have hz1 : w.heap.size + 1 ≤ w1.heap.size := (by have := hb1.size; simp at this; omega)))
  all_goals
    first
      | (have hbw : Below w.heap.size w w1 := ((Below.refl _ _).alloc (Nat.le_refl _) _).trans (hb1.mono (by simp))
         have er : iteK f 1 h = turnedF (notF f) h 1 := iteK_neg (by simp only [beq_iff_eq, beq_eq_false_iff_ne, ne_eq] at *; apply set_5 <;> omega) (by assumption)
         refine bodyPost_ret (v := .agg (Ask (turnedF (notF f) h 1))) (by unfold Ask; simp [results, Try.results25, go_sem, hc1]) rfl ⟨ret_a er.symm, ?_⟩
         go_grown; done)
      | (have hbw : Below w.heap.size w w1 := ((Below.refl _ _).alloc (Nat.le_refl _) _).trans (hb1.mono (by simp))
         have er : iteK f 1 h = turnedF f 1 h := iteK_pos (by simp only [beq_iff_eq, beq_eq_false_iff_ne, ne_eq] at *; apply set_5 <;> omega) (by assumption)
         refine bodyPost_ret (v := .agg (Ask (turnedF f 1 h))) (by unfold Ask; simp [results, Try.results25, go_sem, hc1]) rfl ⟨ret_a er.symm, ?_⟩
         go_grown; done)
      | (go_returns
         refine ⟨ret_a (x := (0, 0, 0, false, _, true)) (iteK_done ?_).symm, by go_grown⟩
         try simp only [beq_iff_eq, beq_eq_false_iff_ne, ne_eq] at *
         first
           | (apply set_1; omega)
           | (apply set_2 <;> omega)
           | (apply set_3 <;> omega)
           | (apply set_4 <;> omega))
end Go.Proofs.Ytkbjmbgjechonaa
