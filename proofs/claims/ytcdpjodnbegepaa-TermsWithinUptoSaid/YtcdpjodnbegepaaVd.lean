/- The contract of ranged, of layer 30 (terms). -/
import Derived.Test.YtcdpjodnbegepaaVi
namespace Go.Proofs.Ytcdpjodnbegepaa
open Go.RowKit

/-- A value in the range of a variable. -/
def inV (v : Vr) (x : Int) : Bool := if v.b then decide (0 ≤ x ∧ x ≤ 1) else decide (v.lo ≤ x ∧ x ≤ v.hi)
def rgB (vs : List Vr) (s : List Int) : Bool := decide (s.length = vs.length) && (List.range vs.length).all fun i => inV (va vs i) (li s i)
theorem rgB_iff {vs : List Vr} {s : List Int} (h : rgB vs s = true) : RgS vs s := by
  unfold rgB at h
  simp only [Bool.and_eq_true, decide_eq_true_eq, List.all_eq_true, List.mem_range] at h
  refine ⟨h.1, fun i hi => ?_⟩
  have h2 := h.2 i hi
  unfold inV at h2
  by_cases g : (va vs i).b = true
  · rw [if_pos g] at h2 ⊢
    have := of_decide_eq_true h2
    unfold Z1; omega
  · rw [if_neg g] at h2 ⊢
    exact of_decide_eq_true h2
theorem rgB_no {vs : List Vr} {s : List Int} {i : Nat} (hi : i < vs.length) (h : inV (va vs i) (li s i) = false) : rgB vs s = false := by
  cases e : rgB vs s with
  | false => rfl
  | true =>
    unfold rgB at e
    simp only [Bool.and_eq_true, List.all_eq_true, List.mem_range] at e
    rw [e.2 i hi] at h
    cases h
theorem rgB_len {vs : List Vr} {s : List Int} (h : s.length ≠ vs.length) : rgB vs s = false := by
  unfold rgB
  rw [decide_eq_false h]; rfl
theorem rgB_yes {vs : List Vr} {s : List Int} (h : s.length = vs.length) (hi : ∀ i, i < vs.length → inV (va vs i) (li s i) = true) : rgB vs s = true := by
  unfold rgB
  simp only [Bool.and_eq_true, decide_eq_true_eq, List.all_eq_true, List.mem_range]
  exact ⟨h, hi⟩
set_option maxRecDepth 100000 in
set_option maxHeartbeats 8000000 in
theorem lw_ranged (vs : List Vr) (V : Option Addr) (cv : Nat) (s : List Int) (Sa : Option Addr) (cs : Nat) (w : World) (hV : Vars w.heap.size w V vs) (hvl : vs.length ≤ 1000000000) (hS : RI w w.heap.size Sa s) :
    Calls Try.prog 28 #[.slice V vs.length cv, .slice Sa s.length cs] w fun e w' => e = .returned (.bool (rgB vs s)) ∧ Below w.heap.size w w' := by
  have HV := Lib.hid hV
  have HS := Lib.hid hS
  clear hV hS
  by_cases hl : s.length = vs.length
  · have g1 : ((s.length : Int) == (vs.length : Int)) = true := by simp [hl]
    have g2 : ((s.length : Int) != (vs.length : Int)) = false := by simp [hl]
    obtain ⟨R, hR⟩ : ∃ R, rgB vs s = R := ⟨_, rfl⟩
    have HR := Lib.hid hR
    have HL := Lib.hid hl
    rw [hR, hl]
    clear hR g1 g2 hl
    go_enter Try.func28, Try.ntmps28
    go_wp2
    go_loopw [5] (fun i wr => ∃ k : Nat, k ≤ vs.length ∧ i = .int .i64 (k : Int) ∧ Hid (∀ j, j < k → inV (va vs j) (li s j) = true) ∧ Hid (Below w.heap.size w wr)) (fun i _ => vs.length - (intOf i).toNat)
    case atStart => exact ⟨0, Nat.zero_le _, rfl, Lib.hid (fun j hj => by omega), Lib.hid (Below.refl _ _)⟩
    case round =>
      obtain ⟨k, hk, rfl, HK, HB⟩ := hrel
      by_cases hlt : k < vs.length
      · have l1 : (k : Int) < (vs.length : Int) := by omega
        have l0 : (0 : Int) ≤ (k : Int) := by omega
        obtain ⟨b, f0, rfl, hbl, hc⟩ := HV.out (by omega)
        obtain ⟨_, c1, c2, c3⟩ := hc k hlt
        obtain ⟨b2, f2, rfl, hbl2, hc2⟩ := HS.out (by rw [HL.out]; omega)
        have c4 := hc2 k (by rw [HL.out]; exact hlt)
        have d1 := (HB.out.cell (p := ⟨b, f0 + k * 4 + 1, none⟩) hbl).trans c1
        have d2 := (HB.out.cell (p := ⟨b, f0 + k * 4 + 2, none⟩) hbl).trans c2
        have d3 := (HB.out.cell (p := ⟨b, f0 + k * 4 + 3, none⟩) hbl).trans c3
        have d4 := (HB.out.cell (p := ⟨b2, f2 + k, none⟩) hbl2).trans c4
        have HN : Hid (inV (va vs k) (li s k) = false → R = false) := Lib.hid (fun h => by rw [← HR.out]; exact rgB_no hlt h)
        have HY : Hid (inV (va vs k) (li s k) = true → ∀ j, j < k + 1 → inV (va vs j) (li s j) = true) := Lib.hid (fun h j hj => by
          rcases (by omega : j < k ∨ j = k) with g | rfl
          · exact HK.out j g
          · exact h)
        clear hc hc2 c1 c2 c3 c4
        generalize va vs k = u at d1 d2 d3 HN HY
        generalize li s k = x at d4 HN HY
        obtain ⟨um, ub, ul, uh⟩ := u
        dsimp only at d1 d2 d3
        cases ub
        · by_cases a1 : x < ul
          · have X := HN.out (by unfold inV; rw [if_neg (by simp)]; exact decide_eq_false (by simp only; omega))
            subst X
            go_wp2
            go_big_quiet (fail)
            go_wp2
            go_ret
            exact ⟨rfl, by first | exact below_drewN HB.out _ | exact HB.out⟩
          · have a1d : decide (x < ul) = false := decide_eq_false a1
            by_cases a2 : uh < x
            · have X := HN.out (by unfold inV; rw [if_neg (by simp)]; exact decide_eq_false (by simp only; omega))
              subst X
              go_wp2
              go_big_quiet (fail)
              go_wp2
              go_ret
              exact ⟨rfl, by first | exact below_drewN HB.out _ | exact HB.out⟩
            · have a2d : decide (uh < x) = false := decide_eq_false a2
              have X := Lib.hid (HY.out (by unfold inV; rw [if_neg (by simp)]; exact decide_eq_true (by simp only; omega)))
              go_wp2
              go_big_quiet (fail)
              go_wp2
              go_roundw
              case rel => exact ⟨k + 1, by omega, by go_num, X, Lib.hid (by first | exact below_drewN HB.out _ | exact HB.out)⟩
              case measure => simp [intOf]; try omega
        · by_cases a1 : x < 0
          · have X := HN.out (by unfold inV; rw [if_pos rfl]; exact decide_eq_false (by omega))
            subst X
            go_wp2
            go_big_quiet (fail)
            go_wp2
            go_ret
            exact ⟨rfl, by first | exact below_drewN HB.out _ | exact HB.out⟩
          · have a1d : decide (x < 0) = false := decide_eq_false a1
            by_cases a2 : 1 < x
            · have X := HN.out (by unfold inV; rw [if_pos rfl]; exact decide_eq_false (by omega))
              subst X
              go_wp2
              go_big_quiet (fail)
              go_wp2
              go_ret
              exact ⟨rfl, by first | exact below_drewN HB.out _ | exact HB.out⟩
            · have a2d : decide (1 < x) = false := decide_eq_false a2
              have X := Lib.hid (HY.out (by unfold inV; rw [if_pos rfl]; exact decide_eq_true (by omega)))
              go_wp2
              go_big_quiet (fail)
              go_wp2
              go_roundw
              case rel => exact ⟨k + 1, by omega, by go_num, X, Lib.hid (by first | exact below_drewN HB.out _ | exact HB.out)⟩
              case measure => simp [intOf]; try omega
      · have l1 : ¬ (k : Int) < (vs.length : Int) := by omega
        obtain rfl : k = vs.length := by omega
        have X : R = true := by rw [← HR.out]; exact rgB_yes HL.out HK.out
        subst X
        go_wp2
        go_ret
        exact ⟨rfl, HB.out⟩
  · have g1 : ((s.length : Int) == (vs.length : Int)) = false := by simp; omega
    have g2 : ((s.length : Int) != (vs.length : Int)) = true := by simp; omega
    rw [rgB_len hl]
    clear hl
    go_enter Try.func28, Try.ntmps28
    go_wp2
    go_ret
    exact ⟨rfl, Below.refl _ _⟩
end Go.Proofs.Ytcdpjodnbegepaa
