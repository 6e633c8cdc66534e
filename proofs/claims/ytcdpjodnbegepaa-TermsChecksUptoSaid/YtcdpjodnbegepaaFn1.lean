/- Contracts of numbers, lengths, kids and flaw of layer 30 (terms). -/
import Derived.Test.YtcdpjodnbegepaaBase
namespace Go.Proofs.Ytcdpjodnbegepaa
open Go.RowKit

def numL (o : Int) : Int := if o = 1 then -255 else 0
def numM (o : Int) : Int := if o = 1 then 255 else if o = 2 then 1 else 0
def lenL (o : Int) : Int := if o = 3 ∨ o = 4 then 1 else 0
def lenM (o : Int) : Int := if o = 3 ∨ o = 4 then 24 else 0
def kidL (o : Int) : Int := if o = 1 ∨ o = 2 ∨ o = 3 ∨ o = 4 then 0 else if o = 5 ∨ o = 6 ∨ o = 7 then 1 else if o = 18 then 3 else 2
def kidM (o : Int) : Int := if o = 1 ∨ o = 2 ∨ o = 3 ∨ o = 4 then 0 else if o = 5 then 1 else if o = 6 ∨ o = 7 then 64 else if o = 18 then 3 else 2
set_option maxHeartbeats 1000000 in
theorem pr_numbers (o : Int) (w : World) : Calls Try.prog 59 #[.int .i64 o] w fun e w' => e = .returned (.tuple #[.int .i64 (numL o), .int .i64 (numM o)]) ∧ w = w' := by
  by_cases h1 : o = 1
  · subst h1; go_enter Try.func59, Try.ntmps59; go_wp2; go_ret2; exact ⟨rfl, rfl⟩
  by_cases h2 : o = 2
  · subst h2; go_enter Try.func59, Try.ntmps59; go_wp2; go_ret2; exact ⟨rfl, rfl⟩
  have X : Hid (numL o = 0 ∧ numM o = 0) := Lib.hid (by simp [numL, numM, h1, h2])
  have e1 : (o == 1) = false := by simp [h1]
  have e2 : (o == 2) = false := by simp [h2]
  go_enter Try.func59, Try.ntmps59
  go_wp2
  go_ret2
  exact ⟨by rw [X.out.1, X.out.2]; rfl, rfl⟩
set_option maxHeartbeats 1000000 in
theorem pr_lengths (o : Int) (w : World) : Calls Try.prog 60 #[.int .i64 o] w fun e w' => e = .returned (.tuple #[.int .i64 (lenL o), .int .i64 (lenM o)]) ∧ w = w' := by
  by_cases h3 : o = 3
  · subst h3; go_enter Try.func60, Try.ntmps60; go_wp2; go_ret2; exact ⟨rfl, rfl⟩
  by_cases h4 : o = 4
  · subst h4; go_enter Try.func60, Try.ntmps60; go_wp2; go_ret2; exact ⟨rfl, rfl⟩
  have X : Hid (lenL o = 0 ∧ lenM o = 0) := Lib.hid (by simp [lenL, lenM, h3, h4])
  have e3 : (o == 3) = false := by simp [h3]
  have e4 : (o == 4) = false := by simp [h4]
  go_enter Try.func60, Try.ntmps60
  go_wp2
  go_ret2
  exact ⟨by rw [X.out.1, X.out.2]; rfl, rfl⟩
set_option maxHeartbeats 1000000 in
theorem pr_kids (o : Int) (w : World) : Calls Try.prog 61 #[.int .i64 o] w fun e w' => e = .returned (.tuple #[.int .i64 (kidL o), .int .i64 (kidM o)]) ∧ w = w' := by
  by_cases h1 : o = 1
  · subst h1; go_enter Try.func61, Try.ntmps61; go_wp2; go_ret2; exact ⟨rfl, rfl⟩
  by_cases h2 : o = 2
  · subst h2; go_enter Try.func61, Try.ntmps61; go_wp2; go_ret2; exact ⟨rfl, rfl⟩
  by_cases h3 : o = 3
  · subst h3; go_enter Try.func61, Try.ntmps61; go_wp2; go_ret2; exact ⟨rfl, rfl⟩
  by_cases h4 : o = 4
  · subst h4; go_enter Try.func61, Try.ntmps61; go_wp2; go_ret2; exact ⟨rfl, rfl⟩
  by_cases h5 : o = 5
  · subst h5; go_enter Try.func61, Try.ntmps61; go_wp2; go_ret2; exact ⟨rfl, rfl⟩
  by_cases h6 : o = 6
  · subst h6; go_enter Try.func61, Try.ntmps61; go_wp2; go_ret2; exact ⟨rfl, rfl⟩
  by_cases h7 : o = 7
  · subst h7; go_enter Try.func61, Try.ntmps61; go_wp2; go_ret2; exact ⟨rfl, rfl⟩
  by_cases h18 : o = 18
  · subst h18; go_enter Try.func61, Try.ntmps61; go_wp2; go_ret2; exact ⟨rfl, rfl⟩
  have X : Hid (kidL o = 2 ∧ kidM o = 2) := Lib.hid (by simp [kidL, kidM, h1, h2, h3, h4, h5, h6, h7, h18])
  have e1 : (o == 1) = false := by simp [h1]
  have e2 : (o == 2) = false := by simp [h2]
  have e3 : (o == 3) = false := by simp [h3]
  have e4 : (o == 4) = false := by simp [h4]
  have e5 : (o == 5) = false := by simp [h5]
  have e6 : (o == 6) = false := by simp [h6]
  have e7 : (o == 7) = false := by simp [h7]
  have e18 : (o == 18) = false := by simp [h18]
  go_enter Try.func61, Try.ntmps61
  go_wp2
  go_ret2
  exact ⟨by rw [X.out.1, X.out.2]; rfl, rfl⟩
def flawS (o v : Int) (L : Nat) (n : Int) (d k : Int) : Int :=
  if 64 < d then 17 else if o < 1 ∨ 18 < o then 11 else if v < numL o ∨ numM o < v then 2 else if (L : Int) < lenL o ∨ lenM o < (L : Int) then 12 else if n < kidL o ∨ kidM o < n then 3 else if 4096 < k then 4 else 0
set_option maxHeartbeats 4000000 in
theorem pr_flaw (o v : Int) (m : ByteArray) (n : Nat) (A : Option Addr) (c : Nat) (d k : Int) (w : World) : Calls Try.prog 38 #[.agg #[.int .i64 o, .int .i64 v, .string m, .slice A n c], .int .i64 d, .int .i64 k] w fun e w' => e = .returned (.int .i64 (flawS o v m.size n d k)) ∧ Below w.heap.size w w' := by
  have HN := Lib.hid (fun w => pr_numbers o w)
  have HL := Lib.hid (fun w => pr_lengths o w)
  have HK := Lib.hid (fun w => pr_kids o w)
  obtain ⟨R, hR⟩ : ∃ R, flawS o v m.size n d k = R := ⟨_, rfl⟩
  rw [hR]
  unfold flawS at hR
  generalize kidL o = kl at *
  generalize kidM o = km at *
  generalize numL o = nl at *
  generalize numM o = nm at *
  generalize lenL o = ll at *
  generalize lenM o = lm at *
  have HB : Hid (∀ ob, Below w.heap.size w (w.alloc ob)) := Lib.hid (fun ob => (Below.refl _ _).alloc (Nat.le_refl _) ob)
  by_cases h1 : 64 < d
  · have X : Hid (R = 17) := Lib.hid (by rw [← hR, if_pos (h1)])
    clear hR
    go_enter Try.func38, Try.ntmps38
    go_wp2_with (first | (go_at_call 59; refine (HN.out _).mono ?_; rintro e w1 ⟨rfl, rfl⟩) | (go_at_call 60; refine (HL.out _).mono ?_; rintro e w1 ⟨rfl, rfl⟩) | (go_at_call 61; refine (HK.out _).mono ?_; rintro e w1 ⟨rfl, rfl⟩))
    go_ret
    exact ⟨by rw [X.out]; rfl, HB.out _⟩
  rw [if_neg h1] at hR
  by_cases h2 : o < 1
  · have X : Hid (R = 11) := Lib.hid (by rw [← hR, if_pos (.inl h2)])
    clear hR
    go_enter Try.func38, Try.ntmps38
    go_wp2_with (first | (go_at_call 59; refine (HN.out _).mono ?_; rintro e w1 ⟨rfl, rfl⟩) | (go_at_call 60; refine (HL.out _).mono ?_; rintro e w1 ⟨rfl, rfl⟩) | (go_at_call 61; refine (HK.out _).mono ?_; rintro e w1 ⟨rfl, rfl⟩))
    go_ret
    exact ⟨by rw [X.out]; rfl, HB.out _⟩
  by_cases h3 : 18 < o
  · have X : Hid (R = 11) := Lib.hid (by rw [← hR, if_pos (.inr h3)])
    clear hR
    go_enter Try.func38, Try.ntmps38
    go_wp2_with (first | (go_at_call 59; refine (HN.out _).mono ?_; rintro e w1 ⟨rfl, rfl⟩) | (go_at_call 60; refine (HL.out _).mono ?_; rintro e w1 ⟨rfl, rfl⟩) | (go_at_call 61; refine (HK.out _).mono ?_; rintro e w1 ⟨rfl, rfl⟩))
    go_ret
    exact ⟨by rw [X.out]; rfl, HB.out _⟩
  rw [if_neg (by omega)] at hR
  by_cases h4 : v < nl
  · have X : Hid (R = 2) := Lib.hid (by rw [← hR, if_pos (.inl h4)])
    clear hR
    go_enter Try.func38, Try.ntmps38
    go_wp2_with (first | (go_at_call 59; refine (HN.out _).mono ?_; rintro e w1 ⟨rfl, rfl⟩) | (go_at_call 60; refine (HL.out _).mono ?_; rintro e w1 ⟨rfl, rfl⟩) | (go_at_call 61; refine (HK.out _).mono ?_; rintro e w1 ⟨rfl, rfl⟩))
    go_ret
    exact ⟨by rw [X.out]; rfl, HB.out _⟩
  by_cases h5 : nm < v
  · have X : Hid (R = 2) := Lib.hid (by rw [← hR, if_pos (.inr h5)])
    clear hR
    go_enter Try.func38, Try.ntmps38
    go_wp2_with (first | (go_at_call 59; refine (HN.out _).mono ?_; rintro e w1 ⟨rfl, rfl⟩) | (go_at_call 60; refine (HL.out _).mono ?_; rintro e w1 ⟨rfl, rfl⟩) | (go_at_call 61; refine (HK.out _).mono ?_; rintro e w1 ⟨rfl, rfl⟩))
    go_ret
    exact ⟨by rw [X.out]; rfl, HB.out _⟩
  rw [if_neg (by omega)] at hR
  by_cases h6 : (m.size : Int) < ll
  · have X : Hid (R = 12) := Lib.hid (by rw [← hR, if_pos (.inl h6)])
    clear hR
    go_enter Try.func38, Try.ntmps38
    go_wp2_with (first | (go_at_call 59; refine (HN.out _).mono ?_; rintro e w1 ⟨rfl, rfl⟩) | (go_at_call 60; refine (HL.out _).mono ?_; rintro e w1 ⟨rfl, rfl⟩) | (go_at_call 61; refine (HK.out _).mono ?_; rintro e w1 ⟨rfl, rfl⟩))
    go_ret
    exact ⟨by rw [X.out]; rfl, HB.out _⟩
  by_cases h7 : lm < (m.size : Int)
  · have X : Hid (R = 12) := Lib.hid (by rw [← hR, if_pos (.inr h7)])
    clear hR
    go_enter Try.func38, Try.ntmps38
    go_wp2_with (first | (go_at_call 59; refine (HN.out _).mono ?_; rintro e w1 ⟨rfl, rfl⟩) | (go_at_call 60; refine (HL.out _).mono ?_; rintro e w1 ⟨rfl, rfl⟩) | (go_at_call 61; refine (HK.out _).mono ?_; rintro e w1 ⟨rfl, rfl⟩))
    go_ret
    exact ⟨by rw [X.out]; rfl, HB.out _⟩
  rw [if_neg (by omega)] at hR
  by_cases h8 : (n : Int) < kl
  · have X : Hid (R = 3) := Lib.hid (by rw [← hR, if_pos (.inl h8)])
    clear hR
    go_enter Try.func38, Try.ntmps38
    go_wp2_with (first | (go_at_call 59; refine (HN.out _).mono ?_; rintro e w1 ⟨rfl, rfl⟩) | (go_at_call 60; refine (HL.out _).mono ?_; rintro e w1 ⟨rfl, rfl⟩) | (go_at_call 61; refine (HK.out _).mono ?_; rintro e w1 ⟨rfl, rfl⟩))
    go_ret
    exact ⟨by rw [X.out]; rfl, HB.out _⟩
  by_cases h9 : km < (n : Int)
  · have X : Hid (R = 3) := Lib.hid (by rw [← hR, if_pos (.inr h9)])
    clear hR
    go_enter Try.func38, Try.ntmps38
    go_wp2_with (first | (go_at_call 59; refine (HN.out _).mono ?_; rintro e w1 ⟨rfl, rfl⟩) | (go_at_call 60; refine (HL.out _).mono ?_; rintro e w1 ⟨rfl, rfl⟩) | (go_at_call 61; refine (HK.out _).mono ?_; rintro e w1 ⟨rfl, rfl⟩))
    go_ret
    exact ⟨by rw [X.out]; rfl, HB.out _⟩
  rw [if_neg (by omega)] at hR
  by_cases h10 : 4096 < k
  · have X : Hid (R = 4) := Lib.hid (by rw [← hR, if_pos (h10)])
    clear hR
    go_enter Try.func38, Try.ntmps38
    go_wp2_with (first | (go_at_call 59; refine (HN.out _).mono ?_; rintro e w1 ⟨rfl, rfl⟩) | (go_at_call 60; refine (HL.out _).mono ?_; rintro e w1 ⟨rfl, rfl⟩) | (go_at_call 61; refine (HK.out _).mono ?_; rintro e w1 ⟨rfl, rfl⟩))
    go_ret
    exact ⟨by rw [X.out]; rfl, HB.out _⟩
  · have X : Hid (R = 0) := Lib.hid (by rw [← hR, if_neg h10])
    clear hR
    go_enter Try.func38, Try.ntmps38
    go_wp2_with (first | (go_at_call 59; refine (HN.out _).mono ?_; rintro e w1 ⟨rfl, rfl⟩) | (go_at_call 60; refine (HL.out _).mono ?_; rintro e w1 ⟨rfl, rfl⟩) | (go_at_call 61; refine (HK.out _).mono ?_; rintro e w1 ⟨rfl, rfl⟩))
    go_ret
    exact ⟨by rw [X.out]; rfl, HB.out _⟩
end Go.Proofs.Ytcdpjodnbegepaa
