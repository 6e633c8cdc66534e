/- The contract of holds, of layer 30 (terms). -/
import Derived.Test.YtcdpjodnbegepaaFn9
namespace Go.Proofs.Ytcdpjodnbegepaa
open Go.RowKit

def holdS (o : Int) (l : List Int) : Bool :=
  if o = 5 then li l 0 == 0 else if o = 6 then mnN l (l.length - 1) == 1 else if o = 7 then mxN l (l.length - 1) == 1
  else if o = 11 then li l 0 != li l 1 else if o = 12 then decide (li l 0 < li l 1) else if o = 13 ∨ o = 8 then decide (li l 0 ≤ li l 1) else li l 0 == li l 1
set_option maxHeartbeats 4000000 in
theorem pr_holds (o : Int) (l : List Int) (A : Option Addr) (c : Nat) (w : World) (hT : RI w w.heap.size A l) (h1 : 0 < l.length) (h2 : o ≠ 5 → o ≠ 6 → o ≠ 7 → 1 < l.length) (hl : l.length ≤ 1000000000) :
    Calls Try.prog 74 #[.int .i64 o, .slice A l.length c] w fun e w' => e = .returned (.bool (holdS o l)) ∧ Below w.heap.size w w' := by
  have HM := Lib.hid (pr_Min l A c w hT h1 hl)
  have HX := Lib.hid (pr_Max l A c w hT h1 hl)
  obtain ⟨b, f, rfl, hb, hc⟩ := hT h1
  have d0 : w.cell? ⟨b, f, none⟩ = some (.int .i64 (li l 0)) := by simpa using hc 0 h1
  have l0 : (0 : Int) < (l.length : Int) := by omega
  have HD1 : Hid (1 < l.length → w.cell? ⟨b, f + 1, none⟩ = some (.int .i64 (li l 1))) := Lib.hid (fun h => hc 1 h)
  obtain ⟨R, hR⟩ : ∃ R, holdS o l = R := ⟨_, rfl⟩
  rw [hR]
  unfold holdS at hR
  clear hc hT
  generalize mnN l (l.length - 1) = mn at *
  generalize mxN l (l.length - 1) = mx at *
  generalize li l 0 = x at *
  generalize li l 1 = y at *
  by_cases o5 : o = 5
  · subst o5
    have E : Hid ((x == 0) = R) := Lib.hid (by rw [← hR]; rfl)
    clear hR h2
    go_enter Try.func74, Try.ntmps74
    go_wp2_with (first
      | (go_at_call 84; (with_reducible refine HM.out.mono ?_); rintro e w1 ⟨rfl, rfl⟩)
      | (go_at_call 85; (with_reducible refine HX.out.mono ?_); rintro e w1 ⟨rfl, rfl⟩))
    all_goals (go_ret; exact ⟨congrArg (fun b => Ending.returned (.bool b)) E.out, Below.refl _ _⟩)
  by_cases o6 : o = 6
  · subst o6
    have E : Hid ((mn == 1) = R) := Lib.hid (by rw [← hR]; rfl)
    clear hR h2
    go_enter Try.func74, Try.ntmps74
    go_wp2_with (first
      | (go_at_call 84; (with_reducible refine HM.out.mono ?_); rintro e w1 ⟨rfl, rfl⟩)
      | (go_at_call 85; (with_reducible refine HX.out.mono ?_); rintro e w1 ⟨rfl, rfl⟩))
    all_goals (go_ret; exact ⟨congrArg (fun b => Ending.returned (.bool b)) E.out, Below.refl _ _⟩)
  by_cases o7 : o = 7
  · subst o7
    have E : Hid ((mx == 1) = R) := Lib.hid (by rw [← hR]; rfl)
    clear hR h2
    go_enter Try.func74, Try.ntmps74
    go_wp2_with (first
      | (go_at_call 84; (with_reducible refine HM.out.mono ?_); rintro e w1 ⟨rfl, rfl⟩)
      | (go_at_call 85; (with_reducible refine HX.out.mono ?_); rintro e w1 ⟨rfl, rfl⟩))
    all_goals (go_ret; exact ⟨congrArg (fun b => Ending.returned (.bool b)) E.out, Below.refl _ _⟩)
  by_cases o11 : o = 11
  · subst o11
    have E : Hid ((x != y) = R) := Lib.hid (by rw [← hR]; rfl)
    have hlt := h2 (by decide) (by decide) (by decide)
    have l1 : (1 : Int) < (l.length : Int) := by omega
    have d1 := HD1.out hlt
    clear hR h2
    go_enter Try.func74, Try.ntmps74
    go_wp2
    go_region
    all_goals
      go_wp2
      go_ret
      exact ⟨congrArg (fun b => Ending.returned (.bool b)) E.out, by first | exact Below.refl _ _ | exact (Below.refl _ _).drew⟩
  by_cases o12 : o = 12
  · subst o12
    have E : Hid ((decide (x < y)) = R) := Lib.hid (by rw [← hR]; rfl)
    have hlt := h2 (by decide) (by decide) (by decide)
    have l1 : (1 : Int) < (l.length : Int) := by omega
    have d1 := HD1.out hlt
    clear hR h2
    go_enter Try.func74, Try.ntmps74
    go_wp2
    go_region
    all_goals
      go_wp2
      go_ret
      exact ⟨congrArg (fun b => Ending.returned (.bool b)) E.out, by first | exact Below.refl _ _ | exact (Below.refl _ _).drew⟩
  by_cases o13 : o = 13
  · subst o13
    have E : Hid ((decide (x ≤ y)) = R) := Lib.hid (by rw [← hR]; rfl)
    have hlt := h2 (by decide) (by decide) (by decide)
    have l1 : (1 : Int) < (l.length : Int) := by omega
    have d1 := HD1.out hlt
    clear hR h2
    go_enter Try.func74, Try.ntmps74
    go_wp2
    go_region
    all_goals
      go_wp2
      go_ret
      exact ⟨congrArg (fun b => Ending.returned (.bool b)) E.out, by first | exact Below.refl _ _ | exact (Below.refl _ _).drew⟩
  by_cases o8 : o = 8
  · subst o8
    have E : Hid ((decide (x ≤ y)) = R) := Lib.hid (by rw [← hR]; rfl)
    have hlt := h2 (by decide) (by decide) (by decide)
    have l1 : (1 : Int) < (l.length : Int) := by omega
    have d1 := HD1.out hlt
    clear hR h2
    go_enter Try.func74, Try.ntmps74
    go_wp2
    go_region
    all_goals
      go_wp2
      go_ret
      exact ⟨congrArg (fun b => Ending.returned (.bool b)) E.out, by first | exact Below.refl _ _ | exact (Below.refl _ _).drew⟩
  have E : Hid ((x == y) = R) := Lib.hid (by rw [← hR, if_neg o5, if_neg o6, if_neg o7, if_neg o11, if_neg o12, if_neg (by omega)])
  have hlt := h2 o5 o6 o7
  have l1 : (1 : Int) < (l.length : Int) := by omega
  have d1 := HD1.out hlt
  have e5 : (o == 5) = false := by simp [o5]
  have e6 : (o == 6) = false := by simp [o6]
  have e7 : (o == 7) = false := by simp [o7]
  have e11 : (o == 11) = false := by simp [o11]
  have e12 : (o == 12) = false := by simp [o12]
  have e13 : (o == 13) = false := by simp [o13]
  have e8 : (o == 8) = false := by simp [o8]
  clear hR h2 o5 o6 o7 o11 o12 o13 o8
  go_enter Try.func74, Try.ntmps74
  go_wp2
  go_region
  all_goals
    go_wp2
    go_ret
    exact ⟨congrArg (fun b => Ending.returned (.bool b)) E.out, by first | exact Below.refl _ _ | exact (Below.refl _ _).drew⟩
end Go.Proofs.Ytcdpjodnbegepaa
