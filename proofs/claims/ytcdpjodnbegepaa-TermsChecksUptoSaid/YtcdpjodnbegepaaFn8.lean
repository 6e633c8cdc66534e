/- Rows of types; the contract of suited, of layer 30 (terms). -/
import Derived.Test.YtcdpjodnbegepaaFn6
namespace Go.Proofs.Ytcdpjodnbegepaa
open Go.RowKit

/-- The i-th of the types. -/
def ty (l : List Ty) (i : Nat) : Ty := l.getD i ty0
/-- The types lie at A, below block B. -/
def Tys (B : Nat) (w : World) (A : Option Addr) (l : List Ty) : Prop :=
  0 < l.length → ∃ b f, A = some ⟨b, f, none⟩ ∧ b < B ∧ ∀ i, i < l.length → w.cell? ⟨b, f + i * 3, none⟩ = some (.bool (ty l i).b) ∧ w.cell? ⟨b, f + i * 3 + 1, none⟩ = some (.int .i64 (ty l i).lo) ∧ w.cell? ⟨b, f + i * 3 + 2, none⟩ = some (.int .i64 (ty l i).hi)
theorem Tys.under {B : Nat} {w w' : World} {A : Option Addr} {l : List Ty} (h : Tys B w A l) (hb : Below B w w') : Tys B w' A l := fun hp => by
  obtain ⟨b, f, e, hB, hc⟩ := h hp
  exact ⟨b, f, e, hB, fun i hi => ⟨(hb.cell (p := ⟨b, f + i * 3, none⟩) hB).trans (hc i hi).1, (hb.cell (p := ⟨b, f + i * 3 + 1, none⟩) hB).trans (hc i hi).2.1, (hb.cell (p := ⟨b, f + i * 3 + 2, none⟩) hB).trans (hc i hi).2.2⟩⟩
theorem Tys.more {B B' : Nat} {w : World} {A : Option Addr} {l : List Ty} (h : Tys B w A l) (hB : B ≤ B') : Tys B' w A l := fun hp => by
  obtain ⟨b, f, e, hb, hc⟩ := h hp
  exact ⟨b, f, e, by omega, hc⟩
theorem Tys.step {w w' : World} {A : Option Addr} {l : List Ty} (h : Tys w.heap.size w A l) (hb : Below w.heap.size w w') : Tys w'.heap.size w' A l := (h.under hb).more hb.size
/-- How many are Boolean. -/
def trC : List Ty → Nat
  | [] => 0
  | y :: r => (if y.b then 1 else 0) + trC r
theorem trC_le : ∀ l : List Ty, trC l ≤ l.length
  | [] => Nat.le_refl _
  | y :: r => by
    have := trC_le r
    simp only [trC, List.length_cons]
    split <;> omega
theorem trC_take : ∀ {l : List Ty} {k : Nat}, k < l.length → trC (l.take (k + 1)) = trC (l.take k) + (if (ty l k).b then 1 else 0)
  | [], k, h => by simp at h
  | y :: r, 0, _ => by simp [trC, ty]
  | y :: r, k + 1, h => by
    have := trC_take (l := r) (k := k) (by simpa using h)
    simp only [List.take_succ_cons, trC, this]
    have e : ty (y :: r) (k + 1) = ty r k := by simp [ty]
    rw [e]; omega
def suitS (o : Int) (l : List Ty) : Bool :=
  if o = 10 ∨ o = 11 then trC l != 1 else if o = 18 then (ty l 0).b && trC l != 2 else if 12 ≤ o ∧ o ≤ 17 then trC l == 0 else trC l == l.length
set_option maxHeartbeats 4000000 in
theorem pr_suited (o : Int) (l : List Ty) (A : Option Addr) (c : Nat) (w : World) (hT : Tys w.heap.size w A l) (h18 : o = 18 → 0 < l.length) (hl : l.length ≤ 1000000000) :
    Calls Try.prog 64 #[.int .i64 o, .slice A l.length c] w fun e w' => e = .returned (.bool (suitS o l)) ∧ Below w.heap.size w w' := by
  have HT := Lib.hid hT
  obtain ⟨R, hR⟩ : ∃ R, suitS o l = R := ⟨_, rfl⟩
  have HR := Lib.hid hR
  have hcl := trC_le l
  rw [hR]
  clear hR hT
  go_enter Try.func64, Try.ntmps64
  go_wp2
  go_loopw [5, 10] (fun cn i wr => ∃ k : Nat, k ≤ l.length ∧ i = .int .i64 (k : Int) ∧ cn = .int .i64 (trC (l.take k) : Int) ∧ Below w.heap.size w wr) (fun _ i _ => l.length - (intOf i).toNat)
  case atStart => exact ⟨0, Nat.zero_le _, rfl, rfl, Below.refl _ _⟩
  case round =>
    obtain ⟨k, hk, rfl, rfl, hb⟩ := hrel
    by_cases hlt : k < l.length
    · have l1 : (k : Int) < (l.length : Int) := by omega
      obtain ⟨b, f0, rfl, hbl, hc⟩ := HT.out (by omega)
      obtain ⟨c0, c1, c2⟩ := hc k hlt
      have d0 := (hb.cell (p := ⟨b, f0 + k * 3, none⟩) hbl).trans c0
      have d1 := (hb.cell (p := ⟨b, f0 + k * 3 + 1, none⟩) hbl).trans c1
      have d2 := (hb.cell (p := ⟨b, f0 + k * 3 + 2, none⟩) hbl).trans c2
      have hs := hb.size
      have hn := trC_take hlt
      have hkl := trC_le (l.take k)
      rw [List.length_take] at hkl
      have hb2 : Hid (∀ ob, Below w.heap.size w (wr.alloc ob)) := Lib.hid (fun ob => al hb ob)
      clear hc c0 c1 c2
      generalize ty l k = y at *
      obtain ⟨yb, yl, yh⟩ := y
      dsimp only at d0 d1 d2 hn
      generalize trC (l.take k) = n at *
      cases yb
      · go_wp2
        go_roundw
        case rel => exact ⟨k + 1, by omega, by go_num, by rw [hn]; rfl, hb2.out _⟩
        case measure => simp [intOf]; try omega
      · go_wp2
        go_roundw
        case rel => exact ⟨k + 1, by omega, by go_num, by rw [hn]; go_num, hb2.out _⟩
        case measure => simp [intOf]; try omega
    · have l1 : ¬ (k : Int) < (l.length : Int) := by omega
      obtain rfl : k = l.length := by omega
      rw [List.take_length]
      have hh := HR.out
      unfold suitS at hh
      have hn : ∀ m : Nat, ((trC l : Int) == (m : Int)) = (trC l == m) := fun m => by
        rw [Bool.eq_iff_iff]; simp only [beq_iff_eq]; omega
      have hn1 : ((trC l : Int) != 1) = (trC l != 1) := by have := hn 1; simp only [bne]; rw [← this]; rfl
      have hn2 : ((trC l : Int) != 2) = (trC l != 2) := by have := hn 2; simp only [bne]; rw [← this]; rfl
      have hn0 : ((trC l : Int) == 0) = (trC l == 0) := hn 0
      have hnl : ((trC l : Int) == (l.length : Int)) = (trC l == l.length) := hn l.length
      have HB := Lib.hid hb
      clear hn hb
      generalize hN : ((trC l : Nat) : Int) = N at *
      by_cases g10 : o = 10
      · subst g10
        have E : Hid ((N != 1) = R) := Lib.hid (by rw [hn1, ← hh]; rfl)
        clear hh hn0 hn1 hn2 hnl
        go_wp2
        all_goals (go_ret; exact ⟨congrArg (fun b => Ending.returned (.bool b)) E.out, HB.out⟩)
      by_cases g11 : o = 11
      · subst g11
        have E : Hid ((N != 1) = R) := Lib.hid (by rw [hn1, ← hh]; rfl)
        clear hh hn0 hn1 hn2 hnl
        go_wp2
        all_goals (go_ret; exact ⟨congrArg (fun b => Ending.returned (.bool b)) E.out, HB.out⟩)
      by_cases g18 : o = 18
      · subst g18
        have h0 : 0 < l.length := h18 rfl
        obtain ⟨b, f0, rfl, hbl, hc⟩ := HT.out h0
        obtain ⟨c0, c1, c2⟩ := hc 0 h0
        have d0 := (HB.out.cell (p := ⟨b, f0, none⟩) hbl).trans (by simpa using c0)
        have l0 : (0 : Int) < (l.length : Int) := by omega
        have hh2 : ((ty l 0).b && trC l != 2) = R := hh
        clear hc c0 c1 c2 hh h18
        generalize ty l 0 = y at *
        obtain ⟨yb, yl, yh⟩ := y
        dsimp only at d0 hh2
        cases yb
        · have E : Hid (false = R) := Lib.hid hh2
          clear hh2 hn0 hn1 hn2 hnl
          go_wp2
          all_goals (go_ret; exact ⟨congrArg (fun b => Ending.returned (.bool b)) E.out, HB.out⟩)
        · have E : Hid ((N != 2) = R) := Lib.hid (by rw [hn2]; exact hh2)
          clear hh2 hn0 hn1 hn2 hnl
          go_wp2
          all_goals (go_ret; exact ⟨congrArg (fun b => Ending.returned (.bool b)) E.out, HB.out⟩)
      have e10 : (o == 10) = false := by simp [g10]
      have e11 : (o == 11) = false := by simp [g11]
      have e18 : (o == 18) = false := by simp [g18]
      rw [if_neg (by omega), if_neg g18] at hh
      by_cases g12 : o = 12
      · subst g12
        have E : Hid ((N == 0) = R) := Lib.hid (by rw [hn0, ← hh]; rfl)
        clear hh hn0 hn1 hn2 hnl
        go_wp2
        all_goals (go_ret; exact ⟨congrArg (fun b => Ending.returned (.bool b)) E.out, HB.out⟩)
      have e12 : (o == 12) = false := by simp [g12]
      by_cases g13 : o = 13
      · subst g13
        have E : Hid ((N == 0) = R) := Lib.hid (by rw [hn0, ← hh]; rfl)
        clear hh hn0 hn1 hn2 hnl
        go_wp2
        all_goals (go_ret; exact ⟨congrArg (fun b => Ending.returned (.bool b)) E.out, HB.out⟩)
      have e13 : (o == 13) = false := by simp [g13]
      by_cases g14 : o = 14
      · subst g14
        have E : Hid ((N == 0) = R) := Lib.hid (by rw [hn0, ← hh]; rfl)
        clear hh hn0 hn1 hn2 hnl
        go_wp2
        all_goals (go_ret; exact ⟨congrArg (fun b => Ending.returned (.bool b)) E.out, HB.out⟩)
      have e14 : (o == 14) = false := by simp [g14]
      by_cases g15 : o = 15
      · subst g15
        have E : Hid ((N == 0) = R) := Lib.hid (by rw [hn0, ← hh]; rfl)
        clear hh hn0 hn1 hn2 hnl
        go_wp2
        all_goals (go_ret; exact ⟨congrArg (fun b => Ending.returned (.bool b)) E.out, HB.out⟩)
      have e15 : (o == 15) = false := by simp [g15]
      by_cases g16 : o = 16
      · subst g16
        have E : Hid ((N == 0) = R) := Lib.hid (by rw [hn0, ← hh]; rfl)
        clear hh hn0 hn1 hn2 hnl
        go_wp2
        all_goals (go_ret; exact ⟨congrArg (fun b => Ending.returned (.bool b)) E.out, HB.out⟩)
      have e16 : (o == 16) = false := by simp [g16]
      by_cases g17 : o = 17
      · subst g17
        have E : Hid ((N == 0) = R) := Lib.hid (by rw [hn0, ← hh]; rfl)
        clear hh hn0 hn1 hn2 hnl
        go_wp2
        all_goals (go_ret; exact ⟨congrArg (fun b => Ending.returned (.bool b)) E.out, HB.out⟩)
      have e17 : (o == 17) = false := by simp [g17]
      rw [if_neg (by omega)] at hh
      have E : Hid ((N == (l.length : Int)) = R) := Lib.hid (by rw [hnl, ← hh])
      clear hh hn0 hn1 hn2 hnl
      go_wp2
      all_goals (go_ret; exact ⟨congrArg (fun b => Ending.returned (.bool b)) E.out, HB.out⟩)
end Go.Proofs.Ytcdpjodnbegepaa
