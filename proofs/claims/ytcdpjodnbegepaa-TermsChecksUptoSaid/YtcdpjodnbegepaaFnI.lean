/- The contract of valueOf of layer 30 (terms), the remainder aside. -/
import Derived.Test.YtcdpjodnbegepaaFnG
import Derived.Test.YtcdpjodnbegepaaFnH
namespace Go.Proofs.Ytcdpjodnbegepaa
open Go.RowKit

/-- The value of a node that is no variable, from the values of its Kids (the remainder aside). -/
def valS (o v : Int) (l : List Int) : Int × Int :=
  if o = 1 ∨ o = 2 then (v, 0) else if o = 14 ∨ o = 15 ∨ o = 16 then withS (compS o (li l 0) (li l 1)).1 (compS o (li l 0) (li l 1)).2
  else if o = 18 then (if li l 0 = 0 then li l 2 else li l 1, 0) else (truthS (holdS o l), 0)
set_option maxHeartbeats 4000000 in
theorem pr_valueOf (t : Ex) (A : Option Addr) (c : Nat) (l : List Int) (K : Option Addr) (ck : Nat) (w : World) (hT : RI w w.heap.size K l) (hl : l.length ≤ 1000000000) (h1 : t.op ≠ 1 → t.op ≠ 2 → 0 < l.length) (h2 : t.op ≠ 1 → t.op ≠ 2 → t.op ≠ 5 → t.op ≠ 6 → t.op ≠ 7 → 1 < l.length) (h3 : t.op = 18 → l.length = 3) (hI : ∀ i, i < l.length → I64 (li l i)) (h17 : t.op ≠ 17) :
    Calls Try.prog 51 #[exV t A c, .slice K l.length ck] w fun e w' => e = .returned (.tuple #[.int .i64 (valS t.op t.vr l).1, .int .i64 (valS t.op t.vr l).2]) ∧ Below w.heap.size w w' := by
  have HB : Hid (∀ ob, Below w.heap.size w (w.alloc ob)) := Lib.hid (fun ob => (Below.refl _ _).alloc (Nat.le_refl _) ob)
  show Calls Try.prog 51 #[.agg #[.int .i64 t.op, .int .i64 t.vr, .string t.nm, .slice A t.ks.length c], .slice K l.length ck] w _
  generalize t.op = o at *
  generalize t.vr = v at *
  generalize t.nm = m at *
  generalize t.ks.length = n at *
  obtain ⟨R, hR⟩ : ∃ R, valS o v l = R := ⟨_, rfl⟩
  rw [hR]
  unfold valS at hR
  have HT := Lib.hid hT
  have HI := Lib.hid hI
  clear hT hI
  by_cases o1 : o = 1
  · subst o1
    obtain rfl : R = (v, 0) := by rw [← hR]; rfl
    clear hR h1 h2 h3 h17
    go_enter Try.func51, Try.ntmps51
    go_wp2
    go_ret2
    exact ⟨rfl, HB.out _⟩
  by_cases o2 : o = 2
  · subst o2
    obtain rfl : R = (v, 0) := by rw [← hR]; rfl
    clear hR h1 h2 h3 h17
    go_enter Try.func51, Try.ntmps51
    go_wp2
    go_ret2
    exact ⟨rfl, HB.out _⟩
  rw [if_neg (by omega)] at hR
  have hl0 := h1 o1 o2
  obtain ⟨b, f, rfl, hb, hc⟩ := HT.out hl0
  have HD : Hid (∀ i, i < l.length → ∀ wr, Below w.heap.size w wr → wr.cell? ⟨b, f + i, none⟩ = some (.int .i64 (li l i))) := Lib.hid (fun i hi wr h => (h.cell (p := ⟨b, f + i, none⟩) hb).trans (hc i hi))
  clear hc h1
  by_cases o14 : o = 14
  · subst o14
    rw [if_pos (.inl rfl)] at hR
    have hl1 := h2 (by decide) (by decide) (by decide) (by decide) (by decide)
    have HC := Lib.hid (fun w => pr_compute 14 (li l 0) (li l 1) w (HI.out 0 hl0) (HI.out 1 hl1))
    obtain ⟨⟨a, y⟩, hp⟩ : ∃ p, compS 14 (li l 0) (li l 1) = p := ⟨_, rfl⟩
    rw [hp] at HC hR
    have HW := Lib.hid (fun w => pr_within a y w)
    have hR : withS a y = R := hR
    rw [hR] at HW
    have d0 : ∀ ob, (w.alloc ob).cell? ⟨b, f, none⟩ = some (.int .i64 (li l 0)) := fun ob => HD.out 0 hl0 _ (HB.out ob)
    have d1 : ∀ ob, (w.alloc ob).cell? ⟨b, f + 1, none⟩ = some (.int .i64 (li l 1)) := fun ob => HD.out 1 hl1 _ (HB.out ob)
    have e0 : w.cell? ⟨b, f, none⟩ = some (.int .i64 (li l 0)) := HD.out 0 hl0 _ (Below.refl _ _)
    have e1 : w.cell? ⟨b, f + 1, none⟩ = some (.int .i64 (li l 1)) := HD.out 1 hl1 _ (Below.refl _ _)
    have l0 : (0 : Int) < (l.length : Int) := by omega
    have l1 : (1 : Int) < (l.length : Int) := by omega
    generalize li l 0 = x0 at *
    generalize li l 1 = x1 at *
    clear hp hR h2 h3 h17 d0 d1
    go_enter Try.func51, Try.ntmps51
    go_wp2
    go_quiet ((first | (go_at_call 73; exact Calls.quiet_of_same ((HC.out _).mono fun _ _ h => ⟨h.1, h.2.symm⟩)) | (go_at_call 71; exact Calls.quiet_of_same ((HW.out _).mono fun _ _ h => ⟨h.1, h.2.symm⟩))))
    go_wp2
    go_ret2
    exact ⟨rfl, by first | exact HB.out _ | exact below_drewN (HB.out _) _⟩
  by_cases o15 : o = 15
  · subst o15
    rw [if_pos (.inr (.inl rfl))] at hR
    have hl1 := h2 (by decide) (by decide) (by decide) (by decide) (by decide)
    have HC := Lib.hid (fun w => pr_compute 15 (li l 0) (li l 1) w (HI.out 0 hl0) (HI.out 1 hl1))
    obtain ⟨⟨a, y⟩, hp⟩ : ∃ p, compS 15 (li l 0) (li l 1) = p := ⟨_, rfl⟩
    rw [hp] at HC hR
    have HW := Lib.hid (fun w => pr_within a y w)
    have hR : withS a y = R := hR
    rw [hR] at HW
    have d0 : ∀ ob, (w.alloc ob).cell? ⟨b, f, none⟩ = some (.int .i64 (li l 0)) := fun ob => HD.out 0 hl0 _ (HB.out ob)
    have d1 : ∀ ob, (w.alloc ob).cell? ⟨b, f + 1, none⟩ = some (.int .i64 (li l 1)) := fun ob => HD.out 1 hl1 _ (HB.out ob)
    have e0 : w.cell? ⟨b, f, none⟩ = some (.int .i64 (li l 0)) := HD.out 0 hl0 _ (Below.refl _ _)
    have e1 : w.cell? ⟨b, f + 1, none⟩ = some (.int .i64 (li l 1)) := HD.out 1 hl1 _ (Below.refl _ _)
    have l0 : (0 : Int) < (l.length : Int) := by omega
    have l1 : (1 : Int) < (l.length : Int) := by omega
    generalize li l 0 = x0 at *
    generalize li l 1 = x1 at *
    clear hp hR h2 h3 h17 d0 d1
    go_enter Try.func51, Try.ntmps51
    go_wp2
    go_quiet ((first | (go_at_call 73; exact Calls.quiet_of_same ((HC.out _).mono fun _ _ h => ⟨h.1, h.2.symm⟩)) | (go_at_call 71; exact Calls.quiet_of_same ((HW.out _).mono fun _ _ h => ⟨h.1, h.2.symm⟩))))
    go_wp2
    go_ret2
    exact ⟨rfl, by first | exact HB.out _ | exact below_drewN (HB.out _) _⟩
  by_cases o16 : o = 16
  · subst o16
    rw [if_pos (.inr (.inr rfl))] at hR
    have hl1 := h2 (by decide) (by decide) (by decide) (by decide) (by decide)
    have HC := Lib.hid (fun w => pr_compute 16 (li l 0) (li l 1) w (HI.out 0 hl0) (HI.out 1 hl1))
    obtain ⟨⟨a, y⟩, hp⟩ : ∃ p, compS 16 (li l 0) (li l 1) = p := ⟨_, rfl⟩
    rw [hp] at HC hR
    have HW := Lib.hid (fun w => pr_within a y w)
    have hR : withS a y = R := hR
    rw [hR] at HW
    have d0 : ∀ ob, (w.alloc ob).cell? ⟨b, f, none⟩ = some (.int .i64 (li l 0)) := fun ob => HD.out 0 hl0 _ (HB.out ob)
    have d1 : ∀ ob, (w.alloc ob).cell? ⟨b, f + 1, none⟩ = some (.int .i64 (li l 1)) := fun ob => HD.out 1 hl1 _ (HB.out ob)
    have e0 : w.cell? ⟨b, f, none⟩ = some (.int .i64 (li l 0)) := HD.out 0 hl0 _ (Below.refl _ _)
    have e1 : w.cell? ⟨b, f + 1, none⟩ = some (.int .i64 (li l 1)) := HD.out 1 hl1 _ (Below.refl _ _)
    have l0 : (0 : Int) < (l.length : Int) := by omega
    have l1 : (1 : Int) < (l.length : Int) := by omega
    generalize li l 0 = x0 at *
    generalize li l 1 = x1 at *
    clear hp hR h2 h3 h17 d0 d1
    go_enter Try.func51, Try.ntmps51
    go_wp2
    go_quiet ((first | (go_at_call 73; exact Calls.quiet_of_same ((HC.out _).mono fun _ _ h => ⟨h.1, h.2.symm⟩)) | (go_at_call 71; exact Calls.quiet_of_same ((HW.out _).mono fun _ _ h => ⟨h.1, h.2.symm⟩))))
    go_wp2
    go_ret2
    exact ⟨rfl, by first | exact HB.out _ | exact below_drewN (HB.out _) _⟩
  rw [if_neg (by omega)] at hR
  by_cases o18 : o = 18
  · subst o18
    rw [if_pos rfl] at hR
    have hl3 := h3 rfl
    have e0 : w.cell? ⟨b, f, none⟩ = some (.int .i64 (li l 0)) := HD.out 0 hl0 _ (Below.refl _ _)
    have e1 : w.cell? ⟨b, f + 1, none⟩ = some (.int .i64 (li l 1)) := HD.out 1 (by omega) _ (Below.refl _ _)
    have e2 : w.cell? ⟨b, f + 2, none⟩ = some (.int .i64 (li l 2)) := HD.out 2 (by omega) _ (Below.refl _ _)
    rw [hl3]
    generalize li l 0 = x0 at *
    generalize li l 1 = x1 at *
    generalize li l 2 = x2 at *
    by_cases g : x0 = 0
    · subst g
      obtain rfl : R = (x2, 0) := by rw [← hR]; rfl
      clear hR h2 h3 h17 hl3
      go_enter Try.func51, Try.ntmps51
      go_wp2
      go_ret2
      exact ⟨rfl, HB.out _⟩
    · obtain rfl : R = (x1, 0) := by rw [← hR, if_neg g]
      have g1 : (x0 != 0) = true := by simp [g]
      have g2 : (x0 == 0) = false := by simp [g]
      clear hR h2 h3 h17 hl3
      go_enter Try.func51, Try.ntmps51
      go_wp2
      go_ret2
      exact ⟨rfl, HB.out _⟩
  rw [if_neg o18] at hR
  have HH : Hid (∀ ob, Calls Try.prog 74 #[.int .i64 o, .slice (some ⟨b, f, none⟩) l.length ck] (w.alloc ob) fun e w' => e = .returned (.bool (holdS o l)) ∧ Below (w.alloc ob).heap.size (w.alloc ob) w') := Lib.hid (fun ob => pr_holds o l _ ck _ (HT.out.step (HB.out ob)) hl0 (fun a b c => h2 o1 o2 a b c) hl)
  generalize holdS o l = hv at *
  have HU := Lib.hid (fun w => pr_truth hv w)
  obtain rfl : R = (truthS hv, 0) := hR.symm
  generalize truthS hv = tv at *
  have e1 : (o == 1) = false := by simp [o1]
  have e2 : (o == 2) = false := by simp [o2]
  have e14 : (o == 14) = false := by simp [o14]
  have e15 : (o == 15) = false := by simp [o15]
  have e16 : (o == 16) = false := by simp [o16]
  have e17 : (o == 17) = false := by simp [h17]
  have e18 : (o == 18) = false := by simp [o18]
  clear hR h2 h3 h17 o1 o2 o14 o15 o16 o18
  go_enter Try.func51, Try.ntmps51
  go_wp2_with (first
    | (go_at_call 74; (with_reducible refine (HH.out _).mono ?_); rintro e w1 ⟨rfl, hb1⟩; have HB1 := Lib.hid hb1; clear hb1)
    | (go_at_call 70; (with_reducible refine (HU.out _).mono ?_); rintro e w2 ⟨rfl, rfl⟩))
  go_ret2
  exact ⟨rfl, (HB.out _).trans (HB1.out.mono (HB.out _).size)⟩
end Go.Proofs.Ytcdpjodnbegepaa
