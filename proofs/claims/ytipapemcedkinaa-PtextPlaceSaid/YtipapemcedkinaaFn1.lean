/- Contracts of kids, greatestVar, flaw and of the specification's Kids, of layer 7 (ptext). -/
import Derived.Test.YtipapemcedkinaaBase
namespace Go.Proofs.Ytipapemcedkinaa
open Go.RowKit

def kidL (o : Int) : Int := if o = 4 then 1 else if o = 8 ∨ o = 9 then 2 else if o = 10 then 3 else 0
def kidM (o : Int) : Int := if o = 4 then 1 else if o = 5 ∨ o = 6 ∨ o = 7 then 64 else if o = 8 ∨ o = 9 then 2 else if o = 10 then 3 else 0
def varM (o : Int) : Int := if o = 3 then 63 else 0
set_option maxHeartbeats 1000000 in
theorem pr_kids (o : Int) (w : World) : Calls Try.prog 41 #[.int .i64 o] w fun e w' => e = .returned (.tuple #[.int .i64 (kidL o), .int .i64 (kidM o)]) ∧ w = w' := by
  by_cases h4 : o = 4
  · subst h4; go_enter Try.func41, Try.ntmps41; go_wp2; go_ret2; exact ⟨rfl, rfl⟩
  by_cases h5 : o = 5
  · subst h5; go_enter Try.func41, Try.ntmps41; go_wp2; go_ret2; exact ⟨rfl, rfl⟩
  by_cases h6 : o = 6
  · subst h6; go_enter Try.func41, Try.ntmps41; go_wp2; go_ret2; exact ⟨rfl, rfl⟩
  by_cases h7 : o = 7
  · subst h7; go_enter Try.func41, Try.ntmps41; go_wp2; go_ret2; exact ⟨rfl, rfl⟩
  by_cases h8 : o = 8
  · subst h8; go_enter Try.func41, Try.ntmps41; go_wp2; go_ret2; exact ⟨rfl, rfl⟩
  by_cases h9 : o = 9
  · subst h9; go_enter Try.func41, Try.ntmps41; go_wp2; go_ret2; exact ⟨rfl, rfl⟩
  by_cases h10 : o = 10
  · subst h10; go_enter Try.func41, Try.ntmps41; go_wp2; go_ret2; exact ⟨rfl, rfl⟩
  have X : Hid (kidL o = 0 ∧ kidM o = 0) := Lib.hid (by simp [kidL, kidM, h4, h5, h6, h7, h8, h9, h10])
  have e4 : (o == 4) = false := by simp [h4]
  have e5 : (o == 5) = false := by simp [h5]
  have e6 : (o == 6) = false := by simp [h6]
  have e7 : (o == 7) = false := by simp [h7]
  have e8 : (o == 8) = false := by simp [h8]
  have e9 : (o == 9) = false := by simp [h9]
  have e10 : (o == 10) = false := by simp [h10]
  go_enter Try.func41, Try.ntmps41
  go_wp2
  go_ret2
  exact ⟨by rw [X.out.1, X.out.2]; rfl, rfl⟩
theorem pr_gv (o : Int) (w : World) : Calls Try.prog 42 #[.int .i64 o] w fun e w' => e = .returned (.int .i64 (varM o)) ∧ w = w' := by
  by_cases h : o = 3
  · subst h; go_enter Try.func42, Try.ntmps42; go_wp2; go_ret; exact ⟨rfl, rfl⟩
  · have e3 : (o == 3) = false := by simp [h]
    have X : Hid (varM o = 0) := Lib.hid (by simp [varM, h])
    go_enter Try.func42, Try.ntmps42; go_wp2; go_ret; exact ⟨by rw [X.out]; rfl, rfl⟩
def flawS (o v : Int) (n : Int) (d k : Int) : Int :=
  if 64 < d then 17 else if o < 1 ∨ 10 < o then 11 else if v < 0 ∨ varM o < v then 9 else if n < kidL o ∨ kidM o < n then 3 else if 4096 < k then 4 else 0
set_option maxHeartbeats 2000000 in
theorem pr_flaw (o v : Int) (n : Nat) (A : Option Addr) (c : Nat) (d k : Int) (w : World) : Calls Try.prog 29 #[.agg #[.int .i64 o, .int .i64 v, .slice A n c], .int .i64 d, .int .i64 k] w fun e w' => e = .returned (.int .i64 (flawS o v n d k)) ∧ Below w.heap.size w w' := by
  have HK := Lib.hid (fun w => pr_kids o w)
  have HV := Lib.hid (fun w => pr_gv o w)
  obtain ⟨R, hR⟩ : ∃ R, flawS o v n d k = R := ⟨_, rfl⟩
  rw [hR]
  unfold flawS at hR
  generalize kidL o = kl at *
  generalize kidM o = km at *
  generalize varM o = vm at *
  have HB : Hid (∀ ob, Below w.heap.size w (w.alloc ob)) := Lib.hid (fun ob => (Below.refl _ _).alloc (Nat.le_refl _) ob)
  by_cases h1 : 64 < d
  · have X : Hid (R = 17) := Lib.hid (by rw [← hR, if_pos h1])
    clear hR
    go_enter Try.func29, Try.ntmps29
    go_wp2_with (go_at_call 41; refine (HK.out _).mono ?_; rintro e w1 ⟨rfl, rfl⟩)
    go_ret
    exact ⟨by rw [X.out]; rfl, HB.out _⟩
  rw [if_neg h1] at hR
  by_cases h2 : o < 1
  · have X : Hid (R = 11) := Lib.hid (by rw [← hR, if_pos (.inl h2)])
    clear hR
    go_enter Try.func29, Try.ntmps29
    go_wp2_with (go_at_call 41; refine (HK.out _).mono ?_; rintro e w1 ⟨rfl, rfl⟩)
    go_ret
    exact ⟨by rw [X.out]; rfl, HB.out _⟩
  by_cases h3 : 10 < o
  · have X : Hid (R = 11) := Lib.hid (by rw [← hR, if_pos (.inr h3)])
    clear hR
    go_enter Try.func29, Try.ntmps29
    go_wp2_with (go_at_call 41; refine (HK.out _).mono ?_; rintro e w1 ⟨rfl, rfl⟩)
    go_ret
    exact ⟨by rw [X.out]; rfl, HB.out _⟩
  rw [if_neg (by omega)] at hR
  by_cases h4 : v < 0
  · have X : Hid (R = 9) := Lib.hid (by rw [← hR, if_pos (.inl h4)])
    clear hR
    go_enter Try.func29, Try.ntmps29
    go_upto_region 7 with (go_at_call 41; refine (HK.out _).mono ?_; rintro e w1 ⟨rfl, rfl⟩)
    go_quiet ((go_at_call 42; exact Calls.quiet_of_same ((HV.out _).mono fun _ _ h => ⟨h.1, h.2.symm⟩)))
    go_wp2
    go_ret
    exact ⟨by rw [X.out]; rfl, below_drewN (HB.out _) _⟩
  by_cases h5 : vm < v
  · have X : Hid (R = 9) := Lib.hid (by rw [← hR, if_pos (.inr h5)])
    clear hR
    go_enter Try.func29, Try.ntmps29
    go_upto_region 7 with (go_at_call 41; refine (HK.out _).mono ?_; rintro e w1 ⟨rfl, rfl⟩)
    go_quiet ((go_at_call 42; exact Calls.quiet_of_same ((HV.out _).mono fun _ _ h => ⟨h.1, h.2.symm⟩)))
    go_wp2
    go_ret
    exact ⟨by rw [X.out]; rfl, below_drewN (HB.out _) _⟩
  rw [if_neg (by omega)] at hR
  by_cases h6 : (n : Int) < kl
  · have X : Hid (R = 3) := Lib.hid (by rw [← hR, if_pos (.inl h6)])
    clear hR
    go_enter Try.func29, Try.ntmps29
    go_upto_region 7 with (go_at_call 41; refine (HK.out _).mono ?_; rintro e w1 ⟨rfl, rfl⟩)
    go_quiet ((go_at_call 42; exact Calls.quiet_of_same ((HV.out _).mono fun _ _ h => ⟨h.1, h.2.symm⟩)))
    go_wp2
    go_ret
    exact ⟨by rw [X.out]; rfl, below_drewN (HB.out _) _⟩
  by_cases h7 : km < (n : Int)
  · have X : Hid (R = 3) := Lib.hid (by rw [← hR, if_pos (.inr h7)])
    clear hR
    go_enter Try.func29, Try.ntmps29
    go_upto_region 7 with (go_at_call 41; refine (HK.out _).mono ?_; rintro e w1 ⟨rfl, rfl⟩)
    go_quiet ((go_at_call 42; exact Calls.quiet_of_same ((HV.out _).mono fun _ _ h => ⟨h.1, h.2.symm⟩)))
    go_wp2
    go_ret
    exact ⟨by rw [X.out]; rfl, below_drewN (HB.out _) _⟩
  rw [if_neg (by omega)] at hR
  by_cases h8 : 4096 < k
  · have X : Hid (R = 4) := Lib.hid (by rw [← hR, if_pos (h8)])
    clear hR
    go_enter Try.func29, Try.ntmps29
    go_upto_region 7 with (go_at_call 41; refine (HK.out _).mono ?_; rintro e w1 ⟨rfl, rfl⟩)
    go_quiet ((go_at_call 42; exact Calls.quiet_of_same ((HV.out _).mono fun _ _ h => ⟨h.1, h.2.symm⟩)))
    go_wp2
    go_ret
    exact ⟨by rw [X.out]; rfl, below_drewN (HB.out _) _⟩
  · have X : Hid (R = 0) := Lib.hid (by rw [← hR, if_neg h8])
    clear hR
    go_enter Try.func29, Try.ntmps29
    go_upto_region 7 with (go_at_call 41; refine (HK.out _).mono ?_; rintro e w1 ⟨rfl, rfl⟩)
    go_quiet ((go_at_call 42; exact Calls.quiet_of_same ((HV.out _).mono fun _ _ h => ⟨h.1, h.2.symm⟩)))
    go_wp2
    go_ret
    exact ⟨by rw [X.out]; rfl, below_drewN (HB.out _) _⟩
end Go.Proofs.Ytipapemcedkinaa
