/- Contracts of chosen, Less of vset, BinarySearch, Equal; layer 42 (sched). -/
import Derived.Test.YtjohdkcgodaeiaaV1
namespace Go.Proofs.Ytjohdkcgodaeiaa
open Go.RowKit
open Go.Shelf

theorem search_any (A : Option Addr) (ca : Nat) (l : List Int) (x : Int) (w : World) (h : RI w w.heap.size A l) (hl : l.length ≤ 1000000000) (hs : Inc l) :
    Calls Try.prog 46 #[.slice A l.length ca, .int .i64 x] w fun e w' => ∃ c q, e = .returned (.tuple #[.int .i64 c, .bool (decide (x ∈ l))]) ∧ w' = w.drewN q := by
  by_cases hp : 0 < l.length
  · obtain ⟨b, off, rfl, hb, hc⟩ := h hp
    refine (Any.slices_BinarySearch_int Try.laysSearch b off l.length ca l x w (Nat.le_refl _) (by omega) (fun j hj => hc j hj) (by rw [List.take_length]; exact inc_le hs)).mono fun e w' ⟨he, q, hw⟩ => ⟨((l.countP (· < x) : Nat) : Int), q, ?_, hw⟩
    rw [he, List.take_length]
    simp [List.contains_eq_mem]
  · have e : l = [] := List.eq_nil_of_length_eq_zero (by omega)
    subst e
    exact (Any.slices_BinarySearch_int_empty Try.laysSearch A ca x w).mono fun e w' ⟨he, hw⟩ => ⟨0, 0, by rw [he]; simp, by rw [hw]; rfl⟩
theorem equal_any (A C : Option Addr) (ca cb : Nat) (a b : List Int) (w : World) (ha : RI w w.heap.size A a) (hb : RI w w.heap.size C b) (la : a.length ≤ 1000000000) (lb : b.length ≤ 1000000000) :
    Calls Try.prog 32 #[.slice A a.length ca, .slice C b.length cb] w fun e w' => e = .returned (.bool (decide (a = b))) ∧ Below w.heap.size w w' := by
  by_cases hn : a.length = b.length
  · by_cases hp : 0 < a.length
    · obtain ⟨b1, o1, rfl, hb1, hc1⟩ := ha hp
      obtain ⟨b2, o2, rfl, hb2, hc2⟩ := hb (by omega)
      refine (Any.slices_Equal_int Try.laysEqual b1 o1 a.length ca b2 o2 b.length cb a b w (Nat.le_refl _) (Nat.le_refl _) (by omega) (by omega) (fun j hj => hc1 j hj) (fun j hj => hc2 j hj)).mono fun e w' ⟨he, q, hw⟩ => ⟨?_, by rw [hw]; exact below_drewN (Below.refl _ _) _⟩
      rw [he, List.take_length, List.take_length, show (a == b) = decide (a = b) by rw [Bool.eq_iff_iff]; simp]
    · have e1 : a = [] := List.eq_nil_of_length_eq_zero (by omega)
      have e2 : b = [] := List.eq_nil_of_length_eq_zero (by omega)
      subst e1 e2
      exact (Any.slices_Equal_int_empty Try.laysEqual A C ca 0 cb w (by omega)).mono fun e w' ⟨he, hw⟩ => ⟨by rw [he]; simp, by rw [hw]; exact Below.refl _ _⟩
  · refine (Any.slices_Equal_int_lens Try.laysEqual A C a.length ca b.length cb w hn).mono fun e w' ⟨he, hw⟩ => ⟨?_, by rw [hw]; exact Below.refl _ _⟩
    rw [he, show decide (a = b) = false by simp only [decide_eq_false_iff_not]; intro e; exact hn (by rw [e])]

theorem Own.drewN {w : World} {base : Nat} {v : Value} {l : List Int} (h : Own w base v l) (n : Nat) : Own (w.drewN n) base v l := h
/-- The address, if there is one, lies in block B or behind it. -/
def Fr (B : Nat) (A : Option Addr) : Prop := ∀ a, A = some a → B ≤ a.block
/-- e returns a slice in new memory that reads as l. -/
def GivesF (w : World) (l : List Int) (e : Ending) (w' : World) : Prop := ∃ A c, e = .returned (.slice A l.length c) ∧ RI w' w'.heap.size A l ∧ (A = none → c = 0) ∧ Fr w.heap.size A ∧ Below w.heap.size w w'
theorem exact_own (base : Nat) (v : Value) (l : List Int) (w : World) (h : Own w base v l) (hl : l.length ≤ 1000000000) :
    Calls Try.prog 47 #[v] w fun e w' => ∃ A, e = .returned (.slice A l.length l.length) ∧ RI w w.heap.size A l ∧ (A = none → l.length = 0) ∧ Fr base A ∧ w = w' := by
  rcases h.pre with ⟨rfl, rfl⟩ | ⟨g, cap, rfl, hg, hcap, hm, hP⟩
  · exact (vset_exact_nil w).mono fun e w' ⟨he, hw⟩ => ⟨none, he, RI.nil, (fun _ => rfl), (fun a e => by cases e), hw⟩
  · unfold maxLen at hm
    exact (vset_exact _ _ _ _ hcap (by omega)).mono fun e w' ⟨he, hw⟩ => ⟨_, he, hP.ri, (fun e => by cases e), (fun a e => by cases e; exact hg), hw⟩

/-- The elements of a that are in b (inn) or are not in b. -/
def chs (a b : List Int) (inn : Bool) : List Int := setL (a.filter fun v => decide (v ∈ b) == inn)
theorem chs_filter (a b : List Int) (inn : Bool) : (setL a).filter (fun v => decide (v ∈ setL b) == inn) = chs a b inn := by
  rw [set_filter]
  unfold chs
  congr 1
  apply List.filter_congr
  intro x _
  congr 1
  simp [set_mem]
theorem filter_take {l : List Int} {p : Int → Bool} {k : Nat} (h : k < l.length) : (l.take (k + 1)).filter p = (l.take k).filter p ++ if p (li l k) then [li l k] else [] := by
  rw [List.take_succ_eq_append_getElem h, List.filter_append, li_get h]
  congr 1
  simp [List.filter_cons]

set_option maxHeartbeats 2000000 in
theorem vset_chosen (A C : Option Addr) (ca cb : Nat) (a b : List Int) (inn : Bool) (w : World) (ha : RI w w.heap.size A a) (hb : RI w w.heap.size C b) (la : a.length ≤ 1000000) (lb : b.length ≤ 1000000) :
    Calls Try.prog 37 #[.slice A a.length ca, .slice C b.length cb, .bool inn] w (GivesF w (chs a b inn)) := by
  obtain ⟨i0, hi0, hz0, hz1, hz2⟩ := info_parts info3
  have HA := Lib.hid ha
  have HB := Lib.hid hb
  have hsa := set_le a
  have hsb := set_le b
  have HF := Lib.hid (chs_filter a b inn)
  have HIb := Lib.hid (set_inc b)
  clear ha hb
  go_enter Try.func37, Try.ntmps37
  go_wp2_with fail
  refine (vset_Of _ _ _ _ HB.out (by omega)).mono ?_; rintro e w1 hG1
  obtain ⟨A1, c1, rfl, R1, _, hb1⟩ := hG1.gives
  have HR1 := Lib.hid R1
  have HA1 := Lib.hid (HA.out.step hb1)
  clear hG1 R1
  go_wp2_with fail
  refine (vset_Of _ _ _ _ HA1.out (by omega)).mono ?_; rintro e w2 hG2
  obtain ⟨A2, c2, rfl, R2, _, hb2⟩ := hG2.gives
  have HR2 := Lib.hid R2
  have HR12 := Lib.hid (HR1.out.step hb2)
  have hbw2 := hb1.trans (hb2.mono hb1.size)
  clear hG2 R2 HA1 HR1 hb1 hb2
  obtain ⟨SA, hSA⟩ : ∃ SA, setL a = SA := ⟨_, rfl⟩
  obtain ⟨SB, hSB⟩ : ∃ SB, setL b = SB := ⟨_, rfl⟩
  rw [hSA] at HR2 hsa HF ⊢
  rw [hSB] at HR12 hsb HF HIb ⊢
  clear hSA hSB
  go_wp2
  go_loopw [8, 18] (fun v i wr => ∃ k : Nat, k ≤ SA.length ∧ i = .int .i64 k ∧ Own wr w2.heap.size v ((SA.take k).filter fun v => decide (v ∈ SB) == inn) ∧ Below w2.heap.size w2 wr) (fun _ i _ => SA.length - (intOf i).toNat)
  case atStart => exact ⟨0, Nat.zero_le _, rfl, by rw [List.take_zero]; exact World.ownsRow_nil _ _ _ _, Below.refl _ _⟩
  case round =>
    obtain ⟨k, hk, rfl, hO, hbr⟩ := hrel
    have HO := Lib.hid hO
    clear hO
    by_cases hlt : k < SA.length
    · obtain ⟨g, o, rfl, hg, hc⟩ := HR2.out (by omega)
      have e1 := (hbr.cell (p := ⟨g, o + k, none⟩) hg).trans (hc k hlt)
      have h1' : (k : Int) < (SA.length : Int) := by omega
      have hft := filter_take (p := fun v => decide (v ∈ SB) == inn) hlt
      have hfl : ((SA.take k).filter fun v => decide (v ∈ SB) == inn).length ≤ 1000000 := by
        have := List.length_filter_le (fun v => decide (v ∈ SB) == inn) (SA.take k)
        rw [List.length_take] at this; omega
      have HS := Lib.hid (search_any A1 c1 SB (li SA k) wr (HR12.out.step hbr) (by omega) HIb.out)
      obtain ⟨q, hq⟩ : ∃ q, decide (li SA k ∈ SB) = q := ⟨_, rfl⟩
      obtain ⟨F, hF⟩ : ∃ F, ((SA.take k).filter fun v => decide (v ∈ SB) == inn) = F := ⟨_, rfl⟩
      rw [hF] at hft hfl HO
      simp only [hq] at hft
      rw [hq] at HS
      have HOP : ∀ (x : Int) v' w', World.ownsRow w' w2.heap.size 3 1 v' (F.length + 1) (F.map (Value.int .i64) ++ [.int .i64 x]) → Hid (Own w' w2.heap.size v' (F ++ [x])) := fun _ _ _ h => Own.push h
      by_cases hqi : q = inn
      · have hqi' : (q == inn) = true := by simp [hqi]
        rw [hqi', if_pos rfl] at hft
        have HFT := Lib.hid hft
        clear hc hft hq hF hqi
        go_wp2_with fail
        refine HS.out.mono ?_; rintro e w3 ⟨c, n, rfl, hw3⟩
        have HO3 := Lib.hid (HO.out.drewN n)
        rw [← hw3] at HO3
        have hbr3 : Below w2.heap.size w2 w3 := by rw [hw3]; exact below_drewN hbr _
        clear hw3 HS HO e1
        go_wp2_with (at_builtin; refine wpList_append_own _ rfl _ _ 23 rfl w2.heap.size 3 i0 _ 1 8 Try.underlying23 hi0 hz0 hz1 hz2 rfl (by decide) _ _ _ rfl (World.ownsRow.alloc HO3.out _) ⟨w3.heap.size, 0, none⟩ 1 1 [.int .i64 (li SA k)] rfl rfl (cell_one_new _ _ _) (by simp [Value.oneCell']) (max_ok (by omega)) (by omega) (by have := hbr3.size; simp; omega) ?_; intro v2 w4 hown hg4 _; have HO4 := HOP _ _ _ hown; have hbr4 := HO3.out.grow hbr3 hg4; clear hown hg4 HO3)
        go_roundw
        case rel => exact ⟨k + 1, by omega, by go_num, by rw [HFT.out]; exact HO4.out, hbr4⟩
        case measure => simp [intOf]; omega
      · have hqi' : (q == inn) = false := by simpa using hqi
        rw [hqi', if_neg (by simp), List.append_nil] at hft
        have HFT := Lib.hid hft
        clear hc hft hq hF hqi
        go_wp2_with fail
        refine HS.out.mono ?_; rintro e w3 ⟨c, n, rfl, hw3⟩
        have HO3 := Lib.hid (HO.out.drewN n)
        rw [← hw3] at HO3
        have hbr3 : Below w2.heap.size w2 w3 := by rw [hw3]; exact below_drewN hbr _
        clear hw3 HS HO e1
        go_wp2
        go_roundw
        case rel => exact ⟨k + 1, by omega, by go_num, by rw [HFT.out]; exact HO3.out, hbr3⟩
        case measure => simp [intOf]; omega
    · obtain rfl : k = SA.length := by omega
      rw [List.take_length, HF.out] at HO
      have hcl : (chs a b inn).length ≤ 1000000 := by
        have := congrArg List.length HF.out
        have h2 := List.length_filter_le (fun v => decide (v ∈ SB) == inn) SA
        omega
      obtain ⟨X, hX⟩ : ∃ X, chs a b inn = X := ⟨_, rfl⟩
      rw [hX] at HO hcl ⊢
      have hbw := hbw2.trans (hbr.mono hbw2.size)
      have HX := Lib.hid hX
      clear hX HF
      go_wp2_with fail
      refine (exact_own _ _ _ _ HO.out (by omega)).mono ?_; rintro e w3 ⟨A3, rfl, R3, hA3, hF3, rfl⟩
      have HF3 := Lib.hid hF3
      have HR3 := Lib.hid R3
      have HA3 := Lib.hid hA3
      clear R3 hA3 hF3
      go_wp2
      go_ret
      show GivesF _ _ _ _
      rw [HX.out]
      exact ⟨A3, _, rfl, HR3.out, HA3.out, (fun a e => Nat.le_trans hbw2.size (HF3.out a e)), hbw⟩

section
variable (A C : Option Addr) (ca cb : Nat) (a b : List Int) (w : World) (ha : RI w w.heap.size A a) (hb : RI w w.heap.size C b) (la : a.length ≤ 1000000) (lb : b.length ≤ 1000000)
include ha hb la lb
set_option maxHeartbeats 1000000 in
theorem vset_Less : Calls Try.prog 19 #[.slice A a.length ca, .slice C b.length cb] w (GivesF w (chs a b false)) := by
  have HC := Lib.hid (vset_chosen A C ca cb a b false w ha hb la lb)
  obtain ⟨X, hX⟩ : ∃ X, chs a b false = X := ⟨_, rfl⟩
  rw [hX] at HC ⊢
  clear hX ha hb
  go_enter Try.func19, Try.ntmps19
  go_wp2_with fail
  refine HC.out.mono ?_; rintro e w1 ⟨A1, c1, rfl, R1, hA1, hF1, hb1⟩
  have HR1 := Lib.hid R1
  have HA1 := Lib.hid hA1
  have HF1 := Lib.hid hF1
  clear R1 hA1 HC hF1
  go_wp2
  go_ret
  exact ⟨A1, c1, rfl, HR1.out, HA1.out, HF1.out, hb1⟩
end
end Go.Proofs.Ytjohdkcgodaeiaa
