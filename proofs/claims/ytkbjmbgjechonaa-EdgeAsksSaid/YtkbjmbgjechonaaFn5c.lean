/- The contract of the specification's Ite, over the translation: three of nine ways through its first tests. -/
import Derived.Test.YtkbjmbgjechonaaFn4
namespace Go.Proofs.Ytkbjmbgjechonaa
open Go.RowKit

set_option maxHeartbeats 1000000 in
theorem ref_Ite_fohf (f g : Int) (w : World) (f1 : 0 ≤ f) (f2 : f ≤ 4294967297) (g1 : 0 ≤ g) (g2 : g ≤ 4294967297) (a : ¬ g = f) (b : ¬ g = notF f) :
    Calls Try.prog 25 #[.int .i64 f, .int .i64 g, .int .i64 f] w fun r w' => r = .returned (.agg (Ask (iteK f g 1))) ∧ Below w.heap.size w w' := by
  have a' : (g == f) = false := by simp [a]
  have b' : (g == notF f) = false := by simp [b]
  obtain ⟨r1, r2⟩ := notF_range f1
  clear a b
  go_enter Try.func25, Try.ntmps25
  go_wp2_with (first
      | (go_at_call 16; refine (ref_Not _ _ (by omega) (by omega)).mono ?_; rintro e w' ⟨rfl, rfl⟩)
      | (go_at_call 14; refine (ref_Neg _ _ (by omega) (by omega)).mono ?_; rintro e w' ⟨rfl, rfl⟩)
      | (go_at_call 28; refine (ref_turned _ _ _ _ (by omega) (by omega) (by omega) (by omega)).mono ?_; rintro e w1 ⟨rfl, hb1⟩; unfold Ask; obtain ⟨hc1, hf1⟩ := bcell hb1; have hz1 : w.heap.size + 1 ≤ w1.heap.size := (by have := hb1.size; simp at this; omega)))
  all_goals
    first
      | (have hbw : Below w.heap.size w w1 := ((Below.refl _ _).alloc (Nat.le_refl _) _).trans (hb1.mono (by simp))
         have er : iteK f g 1 = turnedF (notF f) 1 g := iteK_neg (by simp only [beq_iff_eq, beq_eq_false_iff_ne, ne_eq] at *; apply set_5 <;> omega) (by assumption)
         refine bodyPost_ret (v := .agg (Ask (turnedF (notF f) 1 g))) (by unfold Ask; simp [results, Try.results25, go_sem, hc1]) rfl ⟨ret_a er.symm, ?_⟩
         go_grown; done)
      | (have hbw : Below w.heap.size w w1 := ((Below.refl _ _).alloc (Nat.le_refl _) _).trans (hb1.mono (by simp))
         have er : iteK f g 1 = turnedF f g 1 := iteK_pos (by simp only [beq_iff_eq, beq_eq_false_iff_ne, ne_eq] at *; apply set_5 <;> omega) (by assumption)
         refine bodyPost_ret (v := .agg (Ask (turnedF f g 1))) (by unfold Ask; simp [results, Try.results25, go_sem, hc1]) rfl ⟨ret_a er.symm, ?_⟩
         go_grown; done)
      | (go_returns
         refine ⟨ret_a (x := (0, 0, 0, false, _, true)) (iteK_done ?_).symm, by go_grown⟩
         try simp only [beq_iff_eq, beq_eq_false_iff_ne, ne_eq] at *
         first
           | (apply set_1; omega)
           | (apply set_2 <;> omega)
           | (apply set_3 <;> omega)
           | (apply set_4 <;> omega))

set_option maxHeartbeats 1000000 in
theorem ref_Ite_fohn (f g : Int) (w : World) (f1 : 0 ≤ f) (f2 : f ≤ 4294967297) (g1 : 0 ≤ g) (g2 : g ≤ 4294967297) (a : ¬ g = f) (b : ¬ g = notF f) :
    Calls Try.prog 25 #[.int .i64 f, .int .i64 g, .int .i64 (notF f)] w fun r w' => r = .returned (.agg (Ask (iteK f g 0))) ∧ Below w.heap.size w w' := by
  have a' : (g == f) = false := by simp [a]
  have b' : (g == notF f) = false := by simp [b]
  have nn : (notF f == f) = false := by have := notF_ne f; simp [this]
  obtain ⟨r1, r2⟩ := notF_range f1
  clear a b
  go_enter Try.func25, Try.ntmps25
  go_wp2_with (first
      | (go_at_call 16; refine (ref_Not _ _ (by omega) (by omega)).mono ?_; rintro e w' ⟨rfl, rfl⟩)
      | (go_at_call 14; refine (ref_Neg _ _ (by omega) (by omega)).mono ?_; rintro e w' ⟨rfl, rfl⟩)
      | (go_at_call 28; refine (ref_turned _ _ _ _ (by omega) (by omega) (by omega) (by omega)).mono ?_; rintro e w1 ⟨rfl, hb1⟩; unfold Ask; obtain ⟨hc1, hf1⟩ := bcell hb1; have hz1 : w.heap.size + 1 ≤ w1.heap.size := (by have := hb1.size; simp at this; omega)))
  all_goals
    first
      | (have hbw : Below w.heap.size w w1 := ((Below.refl _ _).alloc (Nat.le_refl _) _).trans (hb1.mono (by simp))
         have er : iteK f g 0 = turnedF (notF f) 0 g := iteK_neg (by simp only [beq_iff_eq, beq_eq_false_iff_ne, ne_eq] at *; apply set_5 <;> omega) (by assumption)
         refine bodyPost_ret (v := .agg (Ask (turnedF (notF f) 0 g))) (by unfold Ask; simp [results, Try.results25, go_sem, hc1]) rfl ⟨ret_a er.symm, ?_⟩
         go_grown; done)
      | (have hbw : Below w.heap.size w w1 := ((Below.refl _ _).alloc (Nat.le_refl _) _).trans (hb1.mono (by simp))
         have er : iteK f g 0 = turnedF f g 0 := iteK_pos (by simp only [beq_iff_eq, beq_eq_false_iff_ne, ne_eq] at *; apply set_5 <;> omega) (by assumption)
         refine bodyPost_ret (v := .agg (Ask (turnedF f g 0))) (by unfold Ask; simp [results, Try.results25, go_sem, hc1]) rfl ⟨ret_a er.symm, ?_⟩
         go_grown; done)
      | (go_returns
         refine ⟨ret_a (x := (0, 0, 0, false, _, true)) (iteK_done ?_).symm, by go_grown⟩
         try simp only [beq_iff_eq, beq_eq_false_iff_ne, ne_eq] at *
         first
           | (apply set_1; omega)
           | (apply set_2 <;> omega)
           | (apply set_3 <;> omega)
           | (apply set_4 <;> omega))


set_option maxHeartbeats 1000000 in
theorem ref_Ite_fo0 (f h : Int) (w : World) (f1 : 0 ≤ f) (f2 : f ≤ 4294967296) (a : ¬ 0 = f) (b : ¬ 0 = notF f) (h1 : 0 ≤ h) (h2 : h ≤ 4294967297) (c : ¬ h = f) (d : ¬ h = notF f) :
    Calls Try.prog 25 #[.int .i64 f, .int .i64 0, .int .i64 h] w fun r w' => r = .returned (.agg (Ask (iteK f 0 h))) ∧ Below w.heap.size w w' := by
  have a' : ((0 : Int) == f) = false := by simp [a]
  have b' : ((0 : Int) == notF f) = false := by simp [b]
  have c' : (h == f) = false := by simp [c]
  have d' : (h == notF f) = false := by simp [d]
  obtain ⟨r1, r2⟩ := notF_range f1
  clear a b c d
  go_enter Try.func25, Try.ntmps25
  go_wp2_with (first
      | (go_at_call 16; refine (ref_Not _ _ (by omega) (by omega)).mono ?_; rintro e w' ⟨rfl, rfl⟩)
      | (go_at_call 14; refine (ref_Neg _ _ (by omega) (by omega)).mono ?_; rintro e w' ⟨rfl, rfl⟩)
      | (go_at_call 28; refine (ref_turned _ _ _ _ (by omega) (by omega) (by omega) (by omega)).mono ?_; rintro e w1 ⟨rfl, hb1⟩; unfold Ask; obtain ⟨hc1, hf1⟩ := bcell hb1; have hz1 : w.heap.size + 1 ≤ w1.heap.size := (by have := hb1.size; simp at this; omega)))
  all_goals
    first
      | (have hbw : Below w.heap.size w w1 := ((Below.refl _ _).alloc (Nat.le_refl _) _).trans (hb1.mono (by simp))
         have er : iteK f 0 h = turnedF (notF f) h 0 := iteK_neg (by simp only [beq_iff_eq, beq_eq_false_iff_ne, ne_eq] at *; apply set_5 <;> omega) (by assumption)
         refine bodyPost_ret (v := .agg (Ask (turnedF (notF f) h 0))) (by unfold Ask; simp [results, Try.results25, go_sem, hc1]) rfl ⟨ret_a er.symm, ?_⟩
         go_grown; done)
      | (have hbw : Below w.heap.size w w1 := ((Below.refl _ _).alloc (Nat.le_refl _) _).trans (hb1.mono (by simp))
         have er : iteK f 0 h = turnedF f 0 h := iteK_pos (by simp only [beq_iff_eq, beq_eq_false_iff_ne, ne_eq] at *; apply set_5 <;> omega) (by assumption)
         refine bodyPost_ret (v := .agg (Ask (turnedF f 0 h))) (by unfold Ask; simp [results, Try.results25, go_sem, hc1]) rfl ⟨ret_a er.symm, ?_⟩
         go_grown; done)
      | (go_returns
         refine ⟨ret_a (x := (0, 0, 0, false, _, true)) (iteK_done ?_).symm, by go_grown⟩
         try simp only [beq_iff_eq, beq_eq_false_iff_ne, ne_eq] at *
         first
           | (apply set_1; omega)
           | (apply set_2 <;> omega)
           | (apply set_3 <;> omega)
           | (apply set_4 <;> omega))

set_option maxHeartbeats 1000000 in
theorem ref_Ite_fo1 (f h : Int) (w : World) (f1 : 0 ≤ f) (f2 : f ≤ 4294967296) (a : ¬ 1 = f) (b : ¬ 1 = notF f) (h1 : 0 ≤ h) (h2 : h ≤ 4294967297) (c : ¬ h = f) (d : ¬ h = notF f) :
    Calls Try.prog 25 #[.int .i64 f, .int .i64 1, .int .i64 h] w fun r w' => r = .returned (.agg (Ask (iteK f 1 h))) ∧ Below w.heap.size w w' := by
  have a' : ((1 : Int) == f) = false := by simp [a]
  have b' : ((1 : Int) == notF f) = false := by simp [b]
  have c' : (h == f) = false := by simp [c]
  have d' : (h == notF f) = false := by simp [d]
  obtain ⟨r1, r2⟩ := notF_range f1
  clear a b c d
  go_enter Try.func25, Try.ntmps25
  go_wp2_with (first
      | (go_at_call 16; refine (ref_Not _ _ (by omega) (by omega)).mono ?_; rintro e w' ⟨rfl, rfl⟩)
      | (go_at_call 14; refine (ref_Neg _ _ (by omega) (by omega)).mono ?_; rintro e w' ⟨rfl, rfl⟩)
      | (go_at_call 28; refine (ref_turned _ _ _ _ (by omega) (by omega) (by omega) (by omega)).mono ?_; rintro e w1 ⟨rfl, hb1⟩; unfold Ask; obtain ⟨hc1, hf1⟩ := bcell hb1; have hz1 : w.heap.size + 1 ≤ w1.heap.size := (by have := hb1.size; simp at this; omega)))
  all_goals
    first
      | (have hbw : Below w.heap.size w w1 := ((Below.refl _ _).alloc (Nat.le_refl _) _).trans (hb1.mono (by simp))
         have er : iteK f 1 h = turnedF (notF f) h 1 := iteK_neg (by simp only [beq_iff_eq, beq_eq_false_iff_ne, ne_eq] at *; apply set_5 <;> omega) (by assumption)
         refine bodyPost_ret (v := .agg (Ask (turnedF (notF f) h 1))) (by unfold Ask; simp [results, Try.results25, go_sem, hc1]) rfl ⟨ret_a er.symm, ?_⟩
         go_grown; done)
      | (have hbw : Below w.heap.size w w1 := ((Below.refl _ _).alloc (Nat.le_refl _) _).trans (hb1.mono (by simp))
         have er : iteK f 1 h = turnedF f 1 h := iteK_pos (by simp only [beq_iff_eq, beq_eq_false_iff_ne, ne_eq] at *; apply set_5 <;> omega) (by assumption)
         refine bodyPost_ret (v := .agg (Ask (turnedF f 1 h))) (by unfold Ask; simp [results, Try.results25, go_sem, hc1]) rfl ⟨ret_a er.symm, ?_⟩
         go_grown; done)
      | (go_returns
         refine ⟨ret_a (x := (0, 0, 0, false, _, true)) (iteK_done ?_).symm, by go_grown⟩
         try simp only [beq_iff_eq, beq_eq_false_iff_ne, ne_eq] at *
         first
           | (apply set_1; omega)
           | (apply set_2 <;> omega)
           | (apply set_3 <;> omega)
           | (apply set_4 <;> omega))

set_option maxHeartbeats 1000000 in
theorem ref_Ite_fogo (f g h : Int) (w : World) (f1 : 0 ≤ f) (f2 : f ≤ 4294967296) (g1 : 0 ≤ g) (g2 : g ≤ 4294967297) (a : ¬ g = f) (b : ¬ g = notF f) (k : ¬ g = 0) (l : ¬ g = 1) (h1 : 0 ≤ h) (h2 : h ≤ 4294967297) (c : ¬ h = f) (d : ¬ h = notF f) :
    Calls Try.prog 25 #[.int .i64 f, .int .i64 g, .int .i64 h] w fun r w' => r = .returned (.agg (Ask (iteK f g h))) ∧ Below w.heap.size w w' := by
  have a' : (g == f) = false := by simp [a]
  have b' : (g == notF f) = false := by simp [b]
  have k' : (g == 0) = false := by simp [k]
  have l' : (g == 1) = false := by simp [l]
  have c' : (h == f) = false := by simp [c]
  have d' : (h == notF f) = false := by simp [d]
  obtain ⟨r1, r2⟩ := notF_range f1
  clear a b c d k l
  go_enter Try.func25, Try.ntmps25
  go_wp2_with (first
      | (go_at_call 16; refine (ref_Not _ _ (by omega) (by omega)).mono ?_; rintro e w' ⟨rfl, rfl⟩)
      | (go_at_call 14; refine (ref_Neg _ _ (by omega) (by omega)).mono ?_; rintro e w' ⟨rfl, rfl⟩)
      | (go_at_call 28; refine (ref_turned _ _ _ _ (by omega) (by omega) (by omega) (by omega)).mono ?_; rintro e w1 ⟨rfl, hb1⟩; unfold Ask; obtain ⟨hc1, hf1⟩ := bcell hb1; have hz1 : w.heap.size + 1 ≤ w1.heap.size := (by have := hb1.size; simp at this; omega)))
  all_goals
    first
      | (have hbw : Below w.heap.size w w1 := ((Below.refl _ _).alloc (Nat.le_refl _) _).trans (hb1.mono (by simp))
         have er : iteK f g h = turnedF (notF f) h g := iteK_neg (by simp only [beq_iff_eq, beq_eq_false_iff_ne, ne_eq] at *; apply set_5 <;> omega) (by assumption)
         refine bodyPost_ret (v := .agg (Ask (turnedF (notF f) h g))) (by unfold Ask; simp [results, Try.results25, go_sem, hc1]) rfl ⟨ret_a er.symm, ?_⟩
         go_grown; done)
      | (have hbw : Below w.heap.size w w1 := ((Below.refl _ _).alloc (Nat.le_refl _) _).trans (hb1.mono (by simp))
         have er : iteK f g h = turnedF f g h := iteK_pos (by simp only [beq_iff_eq, beq_eq_false_iff_ne, ne_eq] at *; apply set_5 <;> omega) (by assumption)
         refine bodyPost_ret (v := .agg (Ask (turnedF f g h))) (by unfold Ask; simp [results, Try.results25, go_sem, hc1]) rfl ⟨ret_a er.symm, ?_⟩
         go_grown; done)
      | (go_returns
         refine ⟨ret_a (x := (0, 0, 0, false, _, true)) (iteK_done ?_).symm, by go_grown⟩
         try simp only [beq_iff_eq, beq_eq_false_iff_ne, ne_eq] at *
         first
           | (apply set_1; omega)
           | (apply set_2 <;> omega)
           | (apply set_3 <;> omega)
           | (apply set_4 <;> omega))

theorem ref_Ite_foho (f g h : Int) (w : World) (f1 : 0 ≤ f) (f2 : f ≤ 4294967296) (g1 : 0 ≤ g) (g2 : g ≤ 4294967297) (a : ¬ g = f) (b : ¬ g = notF f) (h1 : 0 ≤ h) (h2 : h ≤ 4294967297) (c : ¬ h = f) (d : ¬ h = notF f) :
    Calls Try.prog 25 #[.int .i64 f, .int .i64 g, .int .i64 h] w fun r w' => r = .returned (.agg (Ask (iteK f g h))) ∧ Below w.heap.size w w' := by
  by_cases k : g = 0
  · subst k; exact ref_Ite_fo0 f h w f1 f2 a b h1 h2 c d
  · by_cases l : g = 1
    · subst l; exact ref_Ite_fo1 f h w f1 f2 a b h1 h2 c d
    · exact ref_Ite_fogo f g h w f1 f2 g1 g2 a b k l h1 h2 c d
end Go.Proofs.Ytkbjmbgjechonaa
