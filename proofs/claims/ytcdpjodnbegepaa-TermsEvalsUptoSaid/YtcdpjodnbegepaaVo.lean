/- The specification's value of a node against the program's; layer 30 (terms). -/
import Derived.Test.YtcdpjodnbegepaaVn
namespace Go.Proofs.Ytcdpjodnbegepaa
open Go.RowKit

/-- x, tested for being far, answers as R. -/
def Fit (R : Int × Int) (x : Int) : Prop := (!farS x) = (R.2 == 0) ∧ (R.2 = 0 → x = R.1)
theorem far_no {x : Int} (h : NearV x) : farS x = false := by
  unfold farS
  rw [decide_eq_false]
  unfold NearV at h; omega
theorem far_yes {x : Int} (h : ¬ NearV x) : farS x = true := by
  unfold farS
  rw [decide_eq_true]
  unfold NearV at h; omega
theorem fit_near {x : Int} (h : NearV x) : Fit (x, 0) x := ⟨by rw [far_no h]; rfl, fun _ => rfl⟩
theorem fit_b {b b' : Bool} (h : b = b') : Fit (truthS b', 0) (truthS b) := by
  rw [h]; exact fit_near (truth_near _)
theorem fit_with {x : Int} {p : Int × Bool} (hp : p = if -9007199254740992 ≤ x ∧ x ≤ 9007199254740992 then (x, true) else (0, false)) : Fit (withS p.1 p.2) x := by
  by_cases g : -9007199254740992 ≤ x ∧ x ≤ 9007199254740992
  · rw [hp, if_pos g]
    exact fit_near g
  · rw [hp, if_neg g]
    refine ⟨by rw [far_yes g]; rfl, fun h => ?_⟩
    have h2 : (2 : Int) = 0 := h
    omega
theorem nv_valN {vs : List Vr} {s n : List Int} {t : Ex} {L : List Int} (hs : s.length = vs.length) (ho : 5 ≤ t.op) (h17 : t.op ≠ 17) : valN vs s n t L = valS t.op t.vr L := by
  unfold valN
  rw [if_neg (show ¬ t.op = 4 by omega), if_neg (by omega), if_neg (by omega), if_neg (by omega)]
theorem nv_mod {vs : List Vr} {s n : List Int} {t : Ex} {L : List Int} (hs : s.length = vs.length) (ho : t.op = 17) : valN vs s n t L = (modS (li L 0) (li L 1), 0) := by
  unfold valN
  rw [if_neg (show ¬ t.op = 4 by omega), if_neg (by omega), if_neg (by omega), if_pos (by omega)]
theorem nv_hold {vs : List Vr} {s n : List Int} {t : Ex} {L : List Int} (hs : s.length = vs.length) (ho : 5 ≤ t.op) (h2 : t.op ≤ 13) : valN vs s n t L = (truthS (holdS t.op L), 0) := by
  rw [nv_valN hs ho (by omega)]
  unfold valS
  rw [if_neg (by omega), if_neg (by omega), if_neg (by omega)]
section
variable {vs : List Vr} {s n : List Int} {t : Ex} {L : List Int} (hs : s.length = vs.length) (hok : okE vs t) (hL : fdL (0 : Int) (valN vs s n) t.ks = ((L, (0 : Int)), 0)) (hl : L.length = t.ks.length) (hk : ∀ y, y ∈ L → NearV y)
theorem ok_pos {t : Ex} (h : Good t) (ho : 5 ≤ t.op) : 0 < t.ks.length ∧ (8 ≤ t.op → 1 < t.ks.length) ∧ (t.op = 18 → t.ks.length = 3) ∧ t.ks.length ≤ 64 := by
  obtain ⟨_, _, _, _, _, _, h1, h2⟩ := h.node
  unfold kidL at h1
  unfold kidM at h2
  refine ⟨?_, fun a => ?_, fun a => ?_, ?_⟩
  · (repeat' split at h1) <;> omega
  · (repeat' split at h1) <;> omega
  · (repeat' split at h1) <;> (repeat' split at h2) <;> omega
  · (repeat' split at h2) <;> omega
include hs hok hL in
theorem fit_not (ho : t.op = 5) : Fit (valN vs s n t L) (1 - li L 0) := by
  have hz := kids_01 hs hok hL (i := 0) (ok_pos hok.1 (by omega)).1 (.inl (by omega))
  rw [nv_hold hs (by omega) (by omega)]
  have e : holdS t.op L = (li L 0 == 0) := by unfold holdS; rw [if_pos ho]
  rw [e]
  generalize li L 0 = x at hz
  rcases hz with rfl | rfl
  · show Fit ((1 : Int), 0) 1
    exact fit_near (by unfold NearV; omega)
  · show Fit ((0 : Int), 0) 0
    exact fit_near (by unfold NearV; omega)
include hs hok hL hl in
theorem fit_and (ho : t.op = 6) : Fit (valN vs s n t L) (truthS (smL L == (L.length : Int))) := by
  rw [nv_hold hs (by omega) (by omega)]
  refine fit_b ?_
  rw [and_is (fun i hi => kids_01 hs hok hL (by omega) (.inl (by omega))) (by have := (ok_pos hok.1 (by omega)).1; omega)]
  unfold holdS; rw [if_neg (by omega), if_pos ho]
include hs hok hL hl in
theorem fit_or (ho : t.op = 7) : Fit (valN vs s n t L) (truthS (decide (0 < smL L))) := by
  rw [nv_hold hs (by omega) (by omega)]
  refine fit_b ?_
  rw [or_is (fun i hi => kids_01 hs hok hL (by omega) (.inl (by omega))) (by have := (ok_pos hok.1 (by omega)).1; omega)]
  unfold holdS; rw [if_neg (by omega), if_neg (by omega), if_pos ho]
include hs hok hL in
theorem fit_imp (ho : t.op = 8) : Fit (valN vs s n t L) (truthS (li L 0 == 0 || li L 1 == 1)) := by
  have hp := ok_pos hok.1 (by omega)
  have z0 := kids_01 hs hok hL (i := 0) hp.1 (.inl (by omega))
  have z1 := kids_01 hs hok hL (i := 1) (hp.2.1 (by omega)) (.inl (by omega))
  rw [nv_hold hs (by omega) (by omega)]
  refine fit_b ?_
  unfold holdS
  rw [if_neg (by omega), if_neg (by omega), if_neg (by omega), if_neg (by omega), if_neg (by omega), if_pos (.inr ho)]
  generalize li L 0 = x at *
  generalize li L 1 = y at *
  rcases z0 with rfl | rfl <;> rcases z1 with rfl | rfl <;> rfl
include hs in
theorem fit_eq (ho : t.op = 9 ∨ t.op = 10) : Fit (valN vs s n t L) (truthS (li L 0 == li L 1)) := by
  rw [nv_hold hs (by omega) (by omega)]
  refine fit_b ?_
  unfold holdS
  rw [if_neg (by omega), if_neg (by omega), if_neg (by omega), if_neg (by omega), if_neg (by omega), if_neg (by omega)]
include hs in
theorem fit_ne (ho : t.op = 11) : Fit (valN vs s n t L) (truthS (li L 0 != li L 1)) := by
  rw [nv_hold hs (by omega) (by omega)]
  refine fit_b ?_
  unfold holdS
  rw [if_neg (by omega), if_neg (by omega), if_neg (by omega), if_pos ho]
include hs in
theorem fit_lt (ho : t.op = 12) : Fit (valN vs s n t L) (truthS (decide (li L 0 < li L 1))) := by
  rw [nv_hold hs (by omega) (by omega)]
  refine fit_b ?_
  unfold holdS
  rw [if_neg (by omega), if_neg (by omega), if_neg (by omega), if_neg (by omega), if_pos ho]
include hs in
theorem fit_le (ho : t.op = 13) : Fit (valN vs s n t L) (truthS (decide (li L 0 ≤ li L 1))) := by
  rw [nv_hold hs (by omega) (by omega)]
  refine fit_b ?_
  unfold holdS
  rw [if_neg (by omega), if_neg (by omega), if_neg (by omega), if_neg (by omega), if_neg (by omega), if_pos (.inl ho)]
include hs in
theorem fit_add (ho : t.op = 14) : Fit (valN vs s n t L) (li L 0 + li L 1) := by
  rw [nv_valN hs (by omega) (by omega)]
  unfold valS
  rw [if_neg (by omega), if_pos (.inl ho)]
  exact fit_with (by unfold compS; rw [if_pos ho]; rfl)
include hs hk in
theorem fit_sub (ho : t.op = 15) : Fit (valN vs s n t L) (li L 0 - li L 1) := by
  rw [nv_valN hs (by omega) (by omega)]
  unfold valS
  rw [if_neg (by omega), if_pos (.inr (.inl ho))]
  have h1 := li_near hk 1
  have e : IntKind.i64.wrap (-li L 1) = -li L 1 := by unfold NearV at h1; rw [IntKind.wrap_i64]; omega
  exact fit_with (by unfold compS addF; rw [if_neg (by omega), if_pos ho, e, ← Int.sub_eq_add_neg])
include hs in
theorem fit_mul (ho : t.op = 16) : Fit (valN vs s n t L) (li L 0 * li L 1) := by
  rw [nv_valN hs (by omega) (by omega)]
  unfold valS
  rw [if_neg (by omega), if_pos (.inr (.inr ho))]
  exact fit_with (by unfold compS; rw [if_neg (by omega), if_neg (by omega)]; rfl)
include hs in
theorem fit_mulOut (ho : t.op = 16) (h : ¬ NearV (li L 0 * li L 1)) : (valN vs s n t L).2 ≠ 0 := by
  have h1 := fit_mul (n := n) (L := L) hs ho
  rw [Fit, far_yes h] at h1
  intro e
  rw [e] at h1
  exact absurd h1.1 (by decide)
include hs hk in
theorem fit_mod (ho : t.op = 17) : Fit (valN vs s n t L) (modS (li L 0) (li L 1)) := by
  rw [nv_mod hs ho]
  exact fit_near (mod_near (li_near hk 0) (li_near hk 1))
include hs hok hL hk in
theorem fit_if (ho : t.op = 18) : Fit (valN vs s n t L) (if li L 0 = 1 then li L 1 else li L 2) := by
  have z0 := kids_01 hs hok hL (i := 0) (ok_pos hok.1 (by omega)).1 (.inr ⟨ho, rfl⟩)
  rw [nv_valN hs (by omega) (by omega)]
  unfold valS
  rw [if_neg (by omega), if_neg (by omega), if_pos ho]
  have h1 := li_near hk 1
  have h2 := li_near hk 2
  generalize li L 0 = x at *
  rcases z0 with rfl | rfl
  · exact fit_near h2
  · exact fit_near h1
end
end Go.Proofs.Ytcdpjodnbegepaa
