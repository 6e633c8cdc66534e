/- Contracts of the specification's Kids and Part, of layer 30 (terms). -/
import Derived.Test.YtcdpjodnbegepaaFn1
namespace Go.Proofs.Ytcdpjodnbegepaa
open Go.RowKit
set_option maxHeartbeats 1000000 in
theorem rf_Kids_out (o : Int) (w : World) (h : o < 1 ∨ 18 < o) : Calls Try.prog 83 #[.int .i64 o] w fun e w' => e = .returned (.tuple #[.int .i64 (-1), .int .i64 (-1)]) ∧ w = w' := by
  have ne : ∀ k : Int, 1 ≤ k → k ≤ 18 → (o == k) = false := fun k h1 h2 => by
    rw [beq_eq_false_iff_ne]
    intro e
    omega
  have e1 := ne 1 (by omega) (by omega)
  have e2 := ne 2 (by omega) (by omega)
  have e3 := ne 3 (by omega) (by omega)
  have e4 := ne 4 (by omega) (by omega)
  have e5 := ne 5 (by omega) (by omega)
  have e6 := ne 6 (by omega) (by omega)
  have e7 := ne 7 (by omega) (by omega)
  have e18 := ne 18 (by omega) (by omega)
  clear ne
  rcases h with h | h
  all_goals
    go_enter Try.func83, Try.ntmps83
    go_wp2
    go_ret2
    exact ⟨rfl, rfl⟩
set_option maxHeartbeats 1000000 in
theorem rf_Kids_in (o : Int) (w : World) (h : ¬ (o < 1 ∨ 18 < o)) : Calls Try.prog 83 #[.int .i64 o] w fun e w' => e = .returned (.tuple #[.int .i64 (kidL o), .int .i64 (kidM o)]) ∧ w = w' := by
  by_cases h1 : o = 1
  · subst h1; go_enter Try.func83, Try.ntmps83; go_wp2; go_ret2; exact ⟨rfl, rfl⟩
  by_cases h2 : o = 2
  · subst h2; go_enter Try.func83, Try.ntmps83; go_wp2; go_ret2; exact ⟨rfl, rfl⟩
  by_cases h3 : o = 3
  · subst h3; go_enter Try.func83, Try.ntmps83; go_wp2; go_ret2; exact ⟨rfl, rfl⟩
  by_cases h4 : o = 4
  · subst h4; go_enter Try.func83, Try.ntmps83; go_wp2; go_ret2; exact ⟨rfl, rfl⟩
  by_cases h5 : o = 5
  · subst h5; go_enter Try.func83, Try.ntmps83; go_wp2; go_ret2; exact ⟨rfl, rfl⟩
  by_cases h6 : o = 6
  · subst h6; go_enter Try.func83, Try.ntmps83; go_wp2; go_ret2; exact ⟨rfl, rfl⟩
  by_cases h7 : o = 7
  · subst h7; go_enter Try.func83, Try.ntmps83; go_wp2; go_ret2; exact ⟨rfl, rfl⟩
  by_cases h18 : o = 18
  · subst h18; go_enter Try.func83, Try.ntmps83; go_wp2; go_ret2; exact ⟨rfl, rfl⟩
  have X : Hid (kidL o = 2 ∧ kidM o = 2) := Lib.hid (by simp [kidL, kidM, h1, h2, h3, h4, h5, h6, h7, h18])
  have l1 : ¬ o < 1 := by omega
  have l2 : ¬ 18 < o := by omega
  have e1 : (o == 1) = false := by simp [h1]
  have e2 : (o == 2) = false := by simp [h2]
  have e3 : (o == 3) = false := by simp [h3]
  have e4 : (o == 4) = false := by simp [h4]
  have e5 : (o == 5) = false := by simp [h5]
  have e6 : (o == 6) = false := by simp [h6]
  have e7 : (o == 7) = false := by simp [h7]
  have e18 : (o == 18) = false := by simp [h18]
  clear h
  go_enter Try.func83, Try.ntmps83
  go_wp2
  go_ret2
  exact ⟨by rw [X.out.1, X.out.2]; rfl, rfl⟩
theorem toList_ne {m : ByteArray} : (m.toList == []) = decide (m.size = 0) := by
  have h : m.toList = m.data.toList := ByteArray.toList_eq m
  rw [h]
  have hs : m.data.toList.length = m.size := by rw [Array.length_toList]; rfl
  by_cases hz : m.size = 0
  · have : m.data.toList = [] := List.eq_nil_of_length_eq_zero (hs.trans hz)
    rw [this, decide_eq_true hz]; rfl
  · have : m.data.toList ≠ [] := fun e => hz (by rw [← hs, e]; rfl)
    rw [decide_eq_false hz]
    exact beq_eq_false_iff_ne.2 this
set_option maxHeartbeats 4000000 in
theorem rf_Part (o v : Int) (m : ByteArray) (n : Nat) (A : Option Addr) (c : Nat) (d : Int) (w : World) : Calls Try.prog 62 #[.agg #[.int .i64 o, .int .i64 v, .string m, .slice A n c], .int .i64 d] w fun e w' => e = .returned (.int .i64 (flawS o v m.size n d 0)) ∧ Below w.heap.size w w' := by
  have HB : Hid (∀ ob, Below w.heap.size w (w.alloc ob)) := Lib.hid (fun ob => (Below.refl _ _).alloc (Nat.le_refl _) ob)
  obtain ⟨R, hR⟩ : ∃ R, flawS o v m.size n d 0 = R := ⟨_, rfl⟩
  rw [hR]
  unfold flawS at hR
  have hR := hR.symm
  by_cases h1 : 64 < d
  · rw [if_pos h1] at hR
    have X := Lib.hid hR
    clear hR
    go_enter Try.func62, Try.ntmps62
    go_wp2
    go_ret
    exact ⟨by rw [X.out]; rfl, HB.out _⟩
  rw [if_neg h1] at hR
  by_cases h2 : o < 1 ∨ 18 < o
  · rw [if_pos h2] at hR
    have X := Lib.hid hR
    have HK := Lib.hid (fun w => rf_Kids_out o w h2)
    clear hR h2
    go_enter Try.func62, Try.ntmps62
    go_wp2_with (go_at_call 83; (with_reducible refine (HK.out _).mono ?_); rintro e w1 ⟨rfl, rfl⟩)
    go_ret
    exact ⟨by rw [X.out]; rfl, HB.out _⟩
  rw [if_neg h2] at hR
  have HK := Lib.hid (fun w => rf_Kids_in o w h2)
  have kb : 0 ≤ kidL o := by unfold kidL; split <;> (try split) <;> (try split) <;> omega
  obtain ⟨b, hm⟩ : ∃ b, (m.toList == []) = b := ⟨_, rfl⟩
  have hz : b = decide (m.size = 0) := by rw [← hm, toList_ne]
  by_cases g1 : o = 1
  · subst g1
    have HR : Hid (R = if v < -255 ∨ 255 < v then 2 else if (m.size : Int) < 0 ∨ 0 < (m.size : Int) then 12 else if (n : Int) < kidL 1 ∨ kidM 1 < (n : Int) then 3 else 0) := Lib.hid hR
    generalize kidL 1 = kl at *
    generalize kidM 1 = km at *
    have hn1 : ¬ kl < 0 := by omega
    clear hR h2
    cases b
    · have hz2 : ¬ m.size = 0 := by simpa using hz.symm
      clear hz
      go_enter Try.func62, Try.ntmps62
      go_wp2_with (go_at_call 83; (with_reducible refine (HK.out _).mono ?_); rintro e w1 ⟨rfl, rfl⟩)
      all_goals (go_ret; refine ⟨congrArg Ending.returned (congrArg (Value.int .i64) (?_ : _ = R)), HB.out _⟩; rw [HR.out]; (repeat' split) <;> omega)
    · have hz2 : m.size = 0 := by simpa using hz.symm
      clear hz
      go_enter Try.func62, Try.ntmps62
      go_wp2_with (go_at_call 83; (with_reducible refine (HK.out _).mono ?_); rintro e w1 ⟨rfl, rfl⟩)
      all_goals (go_ret; refine ⟨congrArg Ending.returned (congrArg (Value.int .i64) (?_ : _ = R)), HB.out _⟩; rw [HR.out]; (repeat' split) <;> omega)
  by_cases g2 : o = 2
  · subst g2
    have HR : Hid (R = if v < 0 ∨ 1 < v then 2 else if (m.size : Int) < 0 ∨ 0 < (m.size : Int) then 12 else if (n : Int) < kidL 2 ∨ kidM 2 < (n : Int) then 3 else 0) := Lib.hid hR
    generalize kidL 2 = kl at *
    generalize kidM 2 = km at *
    have hn1 : ¬ kl < 0 := by omega
    clear hR h2
    cases b
    · have hz2 : ¬ m.size = 0 := by simpa using hz.symm
      clear hz
      go_enter Try.func62, Try.ntmps62
      go_wp2_with (go_at_call 83; (with_reducible refine (HK.out _).mono ?_); rintro e w1 ⟨rfl, rfl⟩)
      all_goals (go_ret; refine ⟨congrArg Ending.returned (congrArg (Value.int .i64) (?_ : _ = R)), HB.out _⟩; rw [HR.out]; (repeat' split) <;> omega)
    · have hz2 : m.size = 0 := by simpa using hz.symm
      clear hz
      go_enter Try.func62, Try.ntmps62
      go_wp2_with (go_at_call 83; (with_reducible refine (HK.out _).mono ?_); rintro e w1 ⟨rfl, rfl⟩)
      all_goals (go_ret; refine ⟨congrArg Ending.returned (congrArg (Value.int .i64) (?_ : _ = R)), HB.out _⟩; rw [HR.out]; (repeat' split) <;> omega)
  by_cases g3 : o = 3
  · subst g3
    have HR : Hid (R = if v < 0 ∨ 0 < v then 2 else if (m.size : Int) < 1 ∨ 24 < (m.size : Int) then 12 else if (n : Int) < kidL 3 ∨ kidM 3 < (n : Int) then 3 else 0) := Lib.hid hR
    generalize kidL 3 = kl at *
    generalize kidM 3 = km at *
    have hn1 : ¬ kl < 0 := by omega
    clear hR h2
    cases b
    · have hz2 : ¬ m.size = 0 := by simpa using hz.symm
      clear hz
      go_enter Try.func62, Try.ntmps62
      go_wp2_with (go_at_call 83; (with_reducible refine (HK.out _).mono ?_); rintro e w1 ⟨rfl, rfl⟩)
      all_goals (go_ret; refine ⟨congrArg Ending.returned (congrArg (Value.int .i64) (?_ : _ = R)), HB.out _⟩; rw [HR.out]; (repeat' split) <;> omega)
    · have hz2 : m.size = 0 := by simpa using hz.symm
      clear hz
      go_enter Try.func62, Try.ntmps62
      go_wp2_with (go_at_call 83; (with_reducible refine (HK.out _).mono ?_); rintro e w1 ⟨rfl, rfl⟩)
      all_goals (go_ret; refine ⟨congrArg Ending.returned (congrArg (Value.int .i64) (?_ : _ = R)), HB.out _⟩; rw [HR.out]; (repeat' split) <;> omega)
  by_cases g4 : o = 4
  · subst g4
    have HR : Hid (R = if v < 0 ∨ 0 < v then 2 else if (m.size : Int) < 1 ∨ 24 < (m.size : Int) then 12 else if (n : Int) < kidL 4 ∨ kidM 4 < (n : Int) then 3 else 0) := Lib.hid hR
    generalize kidL 4 = kl at *
    generalize kidM 4 = km at *
    have hn1 : ¬ kl < 0 := by omega
    clear hR h2
    cases b
    · have hz2 : ¬ m.size = 0 := by simpa using hz.symm
      clear hz
      go_enter Try.func62, Try.ntmps62
      go_wp2_with (go_at_call 83; (with_reducible refine (HK.out _).mono ?_); rintro e w1 ⟨rfl, rfl⟩)
      all_goals (go_ret; refine ⟨congrArg Ending.returned (congrArg (Value.int .i64) (?_ : _ = R)), HB.out _⟩; rw [HR.out]; (repeat' split) <;> omega)
    · have hz2 : m.size = 0 := by simpa using hz.symm
      clear hz
      go_enter Try.func62, Try.ntmps62
      go_wp2_with (go_at_call 83; (with_reducible refine (HK.out _).mono ?_); rintro e w1 ⟨rfl, rfl⟩)
      all_goals (go_ret; refine ⟨congrArg Ending.returned (congrArg (Value.int .i64) (?_ : _ = R)), HB.out _⟩; rw [HR.out]; (repeat' split) <;> omega)
  have HR : Hid (R = if v < 0 ∨ 0 < v then 2 else if (m.size : Int) < 0 ∨ 0 < (m.size : Int) then 12 else if (n : Int) < kidL o ∨ kidM o < (n : Int) then 3 else 0) := Lib.hid (by
    have a1 : numL o = 0 := by simp [numL, g1]
    have a2 : numM o = 0 := by simp [numM, g1, g2]
    have a3 : lenL o = 0 := by simp [lenL, g3, g4]
    have a4 : lenM o = 0 := by simp [lenM, g3, g4]
    rw [a1, a2, a3, a4] at hR
    exact hR)
  have e1 : (o == 1) = false := by simp [g1]
  have e2 : (o == 2) = false := by simp [g2]
  have e3 : (o == 3) = false := by simp [g3]
  have e4 : (o == 4) = false := by simp [g4]
  generalize kidL o = kl at *
  generalize kidM o = km at *
  have hn1 : ¬ kl < 0 := by omega
  clear hR h2 g1 g2 g3 g4
  cases b
  · have hz2 : ¬ m.size = 0 := by simpa using hz.symm
    clear hz
    go_enter Try.func62, Try.ntmps62
    go_wp2_with (go_at_call 83; (with_reducible refine (HK.out _).mono ?_); rintro e w1 ⟨rfl, rfl⟩)
    all_goals (go_ret; refine ⟨congrArg Ending.returned (congrArg (Value.int .i64) (?_ : _ = R)), HB.out _⟩; rw [HR.out]; (repeat' split) <;> omega)
  · have hz2 : m.size = 0 := by simpa using hz.symm
    clear hz
    go_enter Try.func62, Try.ntmps62
    go_wp2_with (go_at_call 83; (with_reducible refine (HK.out _).mono ?_); rintro e w1 ⟨rfl, rfl⟩)
    all_goals (go_ret; refine ⟨congrArg Ending.returned (congrArg (Value.int .i64) (?_ : _ = R)), HB.out _⟩; rw [HR.out]; (repeat' split) <;> omega)
end Go.Proofs.Ytcdpjodnbegepaa
