/- Contracts of Meet, Less, Within, Same of layer 3 (vset) and of its specification, over the translation. -/
import Derived.Test.YtalglfmhmcmgaaaFn3
import Derived.Shelf.Slices.SearchI
import Derived.Shelf.Slices.Empties
import Derived.Shelf.Slices.Empties2
import Derived.Shelf.Slices.Equal
namespace Go.Proofs.Ytalglfmhmcmgaaa
open Go.RowKit
open Go.Shelf

def Try.laysSearch_ren : Go.Shelf.Ren := ⟨fun | 25 => 36 | 31 => 40 | 32 => 41 | 37 => 52 | n => n, fun | 22 => 22 | 3 => 3 | 4 => 4 | 40 => 43 | 0 => 0 | n => n, fun | n => n⟩
theorem Try.laysSearch : Go.Proofs.Lays2.n25 Try.prog Try.laysSearch_ren := {
  mixed := by kernel_rfl
  f25 := Try.func36.trans (congrArg some (by kernel_rfl))
  f31 := Try.func40.trans (congrArg some (by kernel_rfl))
  f32 := Try.func41.trans (congrArg some (by kernel_rfl))
  f37 := Try.func52.trans (congrArg some (by kernel_rfl))
  t0 := Try.underlying0
  a0 := Try.isAgg0
  z0 := Try.sizeOf0
  v0 := Try.zeroValue0
  t3 := Try.underlying3
  a3 := Try.isAgg3
  z3 := Try.sizeOf3
  v3 := Try.zeroValue3
  t4 := Try.underlying4
  a4 := Try.isAgg4
  z4 := Try.sizeOf4
  v4 := Try.zeroValue4
  t22 := Try.underlying22
  a22 := Try.isAgg22
  z22 := Try.sizeOf22
  v22 := Try.zeroValue22
  t40 := Try.underlying43
  a40 := Try.isAgg43
  z40 := Try.sizeOf43
  v40 := Try.zeroValue43 }
def Try.laysEqual_ren : Go.Shelf.Ren := ⟨fun | 111 => 30 | n => n, fun | 28 => 22 | 3 => 3 | 4 => 4 | 0 => 0 | n => n, fun | n => n⟩
theorem Try.laysEqual : Go.Proofs.Lays.n111 Try.prog Try.laysEqual_ren := {
  mixed := by kernel_rfl
  f111 := Try.func30.trans (congrArg some (by kernel_rfl))
  t0 := Try.underlying0
  a0 := Try.isAgg0
  z0 := Try.sizeOf0
  v0 := Try.zeroValue0
  t3 := Try.underlying3
  a3 := Try.isAgg3
  z3 := Try.sizeOf3
  v3 := Try.zeroValue3
  t4 := Try.underlying4
  a4 := Try.isAgg4
  z4 := Try.sizeOf4
  v4 := Try.zeroValue4
  t28 := Try.underlying22
  a28 := Try.isAgg22
  z28 := Try.sizeOf22
  v28 := Try.zeroValue22 }

theorem search_any (A : Option Addr) (ca : Nat) (l : List Int) (x : Int) (w : World) (h : RI w w.heap.size A l) (hl : l.length ≤ 1000000000) (hs : Inc l) :
    Calls Try.prog 36 #[.slice A l.length ca, .int .i64 x] w fun e w' => ∃ c q, e = .returned (.tuple #[.int .i64 c, .bool (decide (x ∈ l))]) ∧ w' = w.drewN q := by
  by_cases hp : 0 < l.length
  · obtain ⟨b, off, rfl, hb, hc⟩ := h hp
    refine (Any.slices_BinarySearch_int Try.laysSearch b off l.length ca l x w (Nat.le_refl _) (by omega) (fun j hj => hc j hj) (by rw [List.take_length]; exact inc_le hs)).mono fun e w' ⟨he, q, hw⟩ => ⟨((l.countP (· < x) : Nat) : Int), q, ?_, hw⟩
    rw [he, List.take_length]
    simp [List.contains_eq_mem]
  · have e : l = [] := List.eq_nil_of_length_eq_zero (by omega)
    subst e
    exact (Any.slices_BinarySearch_int_empty Try.laysSearch A ca x w).mono fun e w' ⟨he, hw⟩ => ⟨0, 0, by rw [he]; simp, by rw [hw]; rfl⟩
theorem equal_any (A C : Option Addr) (ca cb : Nat) (a b : List Int) (w : World) (ha : RI w w.heap.size A a) (hb : RI w w.heap.size C b) (la : a.length ≤ 1000000000) (lb : b.length ≤ 1000000000) :
    Calls Try.prog 30 #[.slice A a.length ca, .slice C b.length cb] w fun e w' => e = .returned (.bool (decide (a = b))) ∧ Below w.heap.size w w' := by
  by_cases hn : a.length = b.length
  · by_cases hp : 0 < a.length
    · obtain ⟨b1, o1, rfl, hb1, hc1⟩ := ha hp
      obtain ⟨b2, o2, rfl, hb2, hc2⟩ := hb (by omega)
      refine (Any.slices_Equal_int Try.laysEqual b1 o1 a.length ca b2 o2 b.length cb a b w (Nat.le_refl _) (Nat.le_refl _) (by omega) (by omega) (fun j hj => hc1 j hj) (fun j hj => hc2 j hj)).mono fun e w' ⟨he, q, hw⟩ => ⟨?_, by rw [hw]; exact below_drewN (Below.refl _ _) _⟩
      rw [he, List.take_length, List.take_length, show (a == b) = decide (a = b) by rw [Bool.eq_iff_iff]; simp]
    · have e1 : a = [] := List.eq_nil_of_length_eq_zero (by omega)
      have e2 : b = [] := List.eq_nil_of_length_eq_zero (by omega)
      subst e1 e2
      exact (Any.slices_Equal_int_empty Try.laysEqual A C ca 0 cb w (by omega)).mono fun e w' ⟨he, hw⟩ => ⟨by rw [he]; simp, by rw [hw]; exact Below.refl _ _⟩
  · refine (Any.slices_Equal_int_lens Try.laysEqual A C a.length ca b.length cb w hn).mono fun e w' ⟨he, hw⟩ => ⟨?_, by rw [hw]; exact Below.refl _ _⟩
    rw [he, show decide (a = b) = false by simp only [decide_eq_false_iff_not]; intro e; exact hn (by rw [e])]

theorem Own.drewN {w : World} {base : Nat} {v : Value} {l : List Int} (h : Own w base v l) (n : Nat) : Own (w.drewN n) base v l := h
theorem exact_own (base : Nat) (v : Value) (l : List Int) (w : World) (h : Own w base v l) (hl : l.length ≤ 1000000000) :
    Calls Try.prog 33 #[v] w fun e w' => ∃ A, e = .returned (.slice A l.length l.length) ∧ RI w w.heap.size A l ∧ (A = none → l.length = 0) ∧ w = w' := by
  rcases h.pre with ⟨rfl, rfl⟩ | ⟨g, cap, rfl, hg, hcap, hm, hP⟩
  · exact (vset_exact_nil w).mono fun e w' ⟨he, hw⟩ => ⟨none, he, RI.nil, (fun _ => rfl), hw⟩
  · unfold maxLen at hm
    exact (vset_exact _ _ _ _ hcap (by omega)).mono fun e w' ⟨he, hw⟩ => ⟨_, he, hP.ri, (fun e => by cases e), hw⟩

/-- The elements of a that are in b (inn) or are not in b. -/
def chs (a b : List Int) (inn : Bool) : List Int := setL (a.filter fun v => decide (v ∈ b) == inn)
theorem chs_filter (a b : List Int) (inn : Bool) : (setL a).filter (fun v => decide (v ∈ setL b) == inn) = chs a b inn := by
  rw [set_filter]
  unfold chs
  congr 1
  apply List.filter_congr
  intro x _
  congr 1
  simp [set_mem]
theorem filter_take {l : List Int} {p : Int → Bool} {k : Nat} (h : k < l.length) : (l.take (k + 1)).filter p = (l.take k).filter p ++ if p (li l k) then [li l k] else [] := by
  rw [List.take_succ_eq_append_getElem h, List.filter_append, li_get h]
  congr 1
  simp [List.filter_cons]

set_option maxHeartbeats 2000000 in
theorem vset_chosen (A C : Option Addr) (ca cb : Nat) (a b : List Int) (inn : Bool) (w : World) (ha : RI w w.heap.size A a) (hb : RI w w.heap.size C b) (la : a.length ≤ 1000000) (lb : b.length ≤ 1000000) :
    Calls Try.prog 29 #[.slice A a.length ca, .slice C b.length cb, .bool inn] w (Gives w (chs a b inn)) := by
  obtain ⟨i0, hi0, hz0, hz1, hz2⟩ := info_parts info3
  have HA := Lib.hid ha
  have HB := Lib.hid hb
  have hsa := set_le a
  have hsb := set_le b
  have HF := Lib.hid (chs_filter a b inn)
  have HIb := Lib.hid (set_inc b)
  clear ha hb
  go_enter Try.func29, Try.ntmps29
  go_wp2_with fail
  refine (vset_Of _ _ _ _ HB.out (by omega)).mono ?_; rintro e w1 hG1
  obtain ⟨A1, c1, rfl, R1, _, hb1⟩ := hG1.gives
  have HR1 := Lib.hid R1
  have HA1 := Lib.hid (HA.out.step hb1)
  clear hG1 R1
  go_wp2_with fail
  refine (vset_Of _ _ _ _ HA1.out (by omega)).mono ?_; rintro e w2 hG2
  obtain ⟨A2, c2, rfl, R2, _, hb2⟩ := hG2.gives
  have HR2 := Lib.hid R2
  have HR12 := Lib.hid (HR1.out.step hb2)
  have hbw2 := hb1.trans (hb2.mono hb1.size)
  clear hG2 R2 HA1 HR1 hb1 hb2
  obtain ⟨SA, hSA⟩ : ∃ SA, setL a = SA := ⟨_, rfl⟩
  obtain ⟨SB, hSB⟩ : ∃ SB, setL b = SB := ⟨_, rfl⟩
  rw [hSA] at HR2 hsa HF ⊢
  rw [hSB] at HR12 hsb HF HIb ⊢
  clear hSA hSB
  go_wp2
  go_loopw [8, 18] (fun v i wr => ∃ k : Nat, k ≤ SA.length ∧ i = .int .i64 k ∧ Own wr w2.heap.size v ((SA.take k).filter fun v => decide (v ∈ SB) == inn) ∧ Below w2.heap.size w2 wr) (fun _ i _ => SA.length - (intOf i).toNat)
  case atStart => exact ⟨0, Nat.zero_le _, rfl, by rw [List.take_zero]; exact World.ownsRow_nil _ _ _ _, Below.refl _ _⟩
  case round =>
    obtain ⟨k, hk, rfl, hO, hbr⟩ := hrel
    have HO := Lib.hid hO
    clear hO
    by_cases hlt : k < SA.length
    · obtain ⟨g, o, rfl, hg, hc⟩ := HR2.out (by omega)
      have e1 := (hbr.cell (p := ⟨g, o + k, none⟩) hg).trans (hc k hlt)
      have h1' : (k : Int) < (SA.length : Int) := by omega
      have hft := filter_take (p := fun v => decide (v ∈ SB) == inn) hlt
      have hfl : ((SA.take k).filter fun v => decide (v ∈ SB) == inn).length ≤ 1000000 := by
        have := List.length_filter_le (fun v => decide (v ∈ SB) == inn) (SA.take k)
        rw [List.length_take] at this; omega
      have HS := Lib.hid (search_any A1 c1 SB (li SA k) wr (HR12.out.step hbr) (by omega) HIb.out)
      obtain ⟨q, hq⟩ : ∃ q, decide (li SA k ∈ SB) = q := ⟨_, rfl⟩
      obtain ⟨F, hF⟩ : ∃ F, ((SA.take k).filter fun v => decide (v ∈ SB) == inn) = F := ⟨_, rfl⟩
      rw [hF] at hft hfl HO
      simp only [hq] at hft
      rw [hq] at HS
      have HOP : ∀ (x : Int) v' w', World.ownsRow w' w2.heap.size 3 1 v' (F.length + 1) (F.map (Value.int .i64) ++ [.int .i64 x]) → Hid (Own w' w2.heap.size v' (F ++ [x])) := fun _ _ _ h => Own.push h
      by_cases hqi : q = inn
      · have hqi' : (q == inn) = true := by simp [hqi]
        rw [hqi', if_pos rfl] at hft
        have HFT := Lib.hid hft
        clear hc hft hq hF hqi
        go_wp2_with fail
        refine HS.out.mono ?_; rintro e w3 ⟨c, n, rfl, hw3⟩
        have HO3 := Lib.hid (HO.out.drewN n)
        rw [← hw3] at HO3
        have hbr3 : Below w2.heap.size w2 w3 := by rw [hw3]; exact below_drewN hbr _
        clear hw3 HS HO e1
        go_wp2_with (at_builtin; refine wpList_append_own _ rfl _ _ 22 rfl w2.heap.size 3 i0 _ 1 8 Try.underlying22 hi0 hz0 hz1 hz2 rfl (by decide) _ _ _ rfl (World.ownsRow.alloc HO3.out _) ⟨w3.heap.size, 0, none⟩ 1 1 [.int .i64 (li SA k)] rfl rfl (cell_one_new _ _ _) (by simp [Value.oneCell']) (max_ok (by omega)) (by omega) (by have := hbr3.size; simp; omega) ?_; intro v2 w4 hown hg4 _; have HO4 := HOP _ _ _ hown; have hbr4 := HO3.out.grow hbr3 hg4; clear hown hg4 HO3)
        go_roundw
        case rel => exact ⟨k + 1, by omega, by go_num, by rw [HFT.out]; exact HO4.out, hbr4⟩
        case measure => simp [intOf]; omega
      · have hqi' : (q == inn) = false := by simpa using hqi
        rw [hqi', if_neg (by simp), List.append_nil] at hft
        have HFT := Lib.hid hft
        clear hc hft hq hF hqi
        go_wp2_with fail
        refine HS.out.mono ?_; rintro e w3 ⟨c, n, rfl, hw3⟩
        have HO3 := Lib.hid (HO.out.drewN n)
        rw [← hw3] at HO3
        have hbr3 : Below w2.heap.size w2 w3 := by rw [hw3]; exact below_drewN hbr _
        clear hw3 HS HO e1
        go_wp2
        go_roundw
        case rel => exact ⟨k + 1, by omega, by go_num, by rw [HFT.out]; exact HO3.out, hbr3⟩
        case measure => simp [intOf]; omega
    · obtain rfl : k = SA.length := by omega
      rw [List.take_length, HF.out] at HO
      have hcl : (chs a b inn).length ≤ 1000000 := by
        have := congrArg List.length HF.out
        have h2 := List.length_filter_le (fun v => decide (v ∈ SB) == inn) SA
        omega
      obtain ⟨X, hX⟩ : ∃ X, chs a b inn = X := ⟨_, rfl⟩
      rw [hX] at HO hcl ⊢
      have hbw := hbw2.trans (hbr.mono hbw2.size)
      have HX := Lib.hid hX
      clear hX HF
      go_wp2_with fail
      refine (exact_own _ _ _ _ HO.out (by omega)).mono ?_; rintro e w3 ⟨A3, rfl, R3, hA3, rfl⟩
      have HR3 := Lib.hid R3
      have HA3 := Lib.hid hA3
      clear R3 hA3
      go_wp2
      go_ret
      show Gives _ _ _ _
      rw [HX.out]
      exact ⟨A3, _, rfl, HR3.out, HA3.out, hbw⟩

theorem beq_len (l : List Int) : ((l.length : Int) == 0) = decide (l = []) := by
  cases l with
  | nil => rfl
  | cons x t => rw [Bool.eq_iff_iff]; simp; omega
section
variable (A C : Option Addr) (ca cb : Nat) (a b : List Int) (w : World) (ha : RI w w.heap.size A a) (hb : RI w w.heap.size C b) (la : a.length ≤ 1000000) (lb : b.length ≤ 1000000)
include ha hb la lb
set_option maxHeartbeats 1000000 in
theorem vset_Meet : Calls Try.prog 16 #[.slice A a.length ca, .slice C b.length cb] w (Gives w (chs a b true)) := by
  have HC := Lib.hid (vset_chosen A C ca cb a b true w ha hb la lb)
  obtain ⟨X, hX⟩ : ∃ X, chs a b true = X := ⟨_, rfl⟩
  rw [hX] at HC ⊢
  clear hX ha hb
  go_enter Try.func16, Try.ntmps16
  go_wp2_with fail
  refine HC.out.mono ?_; rintro e w1 ⟨A1, c1, rfl, R1, hA1, hb1⟩
  have HR1 := Lib.hid R1
  have HA1 := Lib.hid hA1
  clear R1 hA1 HC
  go_wp2
  go_ret
  exact ⟨A1, c1, rfl, HR1.out, HA1.out, hb1⟩
set_option maxHeartbeats 1000000 in
theorem vset_Less : Calls Try.prog 18 #[.slice A a.length ca, .slice C b.length cb] w (Gives w (chs a b false)) := by
  have HC := Lib.hid (vset_chosen A C ca cb a b false w ha hb la lb)
  obtain ⟨X, hX⟩ : ∃ X, chs a b false = X := ⟨_, rfl⟩
  rw [hX] at HC ⊢
  clear hX ha hb
  go_enter Try.func18, Try.ntmps18
  go_wp2_with fail
  refine HC.out.mono ?_; rintro e w1 ⟨A1, c1, rfl, R1, hA1, hb1⟩
  have HR1 := Lib.hid R1
  have HA1 := Lib.hid hA1
  clear R1 hA1 HC
  go_wp2
  go_ret
  exact ⟨A1, c1, rfl, HR1.out, HA1.out, hb1⟩
set_option maxHeartbeats 1000000 in
theorem vset_Within : Calls Try.prog 20 #[.slice A a.length ca, .slice C b.length cb] w fun e w' => e = .returned (.bool (decide (chs a b false = []))) ∧ Below w.heap.size w w' := by
  have HC := Lib.hid (vset_Less A C ca cb a b w ha hb la lb)
  obtain ⟨X, hX⟩ : ∃ X, chs a b false = X := ⟨_, rfl⟩
  rw [hX] at HC ⊢
  have hq := beq_len X
  obtain ⟨q, hqq⟩ : ∃ q, decide (X = []) = q := ⟨_, rfl⟩
  rw [hqq] at hq ⊢
  clear hX ha hb hqq
  go_enter Try.func20, Try.ntmps20
  go_wp2_with fail
  refine HC.out.mono ?_; rintro e w1 ⟨A1, c1, rfl, R1, hA1, hb1⟩
  clear R1 hA1 HC
  go_wp2
  go_ret
  exact ⟨rfl, hb1⟩
set_option maxHeartbeats 1000000 in
theorem vset_Same : Calls Try.prog 22 #[.slice A a.length ca, .slice C b.length cb] w fun e w' => e = .returned (.bool (decide (setL a = setL b))) ∧ Below w.heap.size w w' := by
  have HA := Lib.hid ha
  have HB := Lib.hid hb
  have hsa := set_le a
  have hsb := set_le b
  clear ha hb
  go_enter Try.func22, Try.ntmps22
  go_wp2_with fail
  refine (vset_Of _ _ _ _ HA.out (by omega)).mono ?_; rintro e w1 hG1
  obtain ⟨A1, c1, rfl, R1, _, hb1⟩ := hG1.gives
  have HR1 := Lib.hid R1
  have HB1 := Lib.hid (HB.out.step hb1)
  clear hG1 R1
  go_wp2_with fail
  refine (vset_Of _ _ _ _ HB1.out (by omega)).mono ?_; rintro e w2 hG2
  obtain ⟨A2, c2, rfl, R2, _, hb2⟩ := hG2.gives
  have HR2 := Lib.hid R2
  have HR12 := Lib.hid (HR1.out.step hb2)
  have hbw2 := hb1.trans (hb2.mono hb1.size)
  clear hG2 R2 HB1 HR1 hb1 hb2
  obtain ⟨q, hq⟩ : ∃ q, decide (setL a = setL b) = q := ⟨_, rfl⟩
  have HE := Lib.hid (equal_any A1 A2 c1 c2 (setL a) (setL b) w2 HR12.out HR2.out (by omega) (by omega))
  rw [hq] at HE
  have HQ := Lib.hid hq
  obtain ⟨SA, hSA⟩ : ∃ SA, setL a = SA := ⟨_, rfl⟩
  obtain ⟨SB, hSB⟩ : ∃ SB, setL b = SB := ⟨_, rfl⟩
  rw [hSA, hSB] at HE ⊢
  clear hSA hSB hq HR12 HR2
  go_wp2_with fail
  refine HE.out.mono ?_; rintro e w3 ⟨rfl, hb3⟩
  have hbw3 := hbw2.trans (hb3.mono hbw2.size)
  clear hb3 hbw2 HE
  go_wp2
  go_ret
  exact ⟨by rw [HQ.out]; rfl, hbw3⟩
end
set_option maxHeartbeats 2000000 in
theorem ref_Meet (A C : Option Addr) (ca cb : Nat) (a b : List Int) (w : World) (ha : RI w w.heap.size A a) (hb : RI w w.heap.size C b) (la : a.length ≤ 1000000) (lb : b.length ≤ 1000000) : Calls Try.prog 17 #[.slice A a.length ca, .slice C b.length cb] w (Gives w (chs a b true)) := by
  obtain ⟨i0, hi0, hz0, hz1, hz2⟩ := info_parts info3
  have HA := Lib.hid ha
  have HB := Lib.hid hb
  have hE := Lib.hid (Own.empty w)
  have hbw0 : Below w.heap.size w (w.alloc (.cells #[] 3)) := (Below.refl _ _).alloc (Nat.le_refl _) _
  clear ha hb
  go_enter Try.func17, Try.ntmps17
  go_wp2
  go_loopw [5, 6] (fun v i wr => ∃ k : Nat, k ≤ a.length ∧ i = .int .i64 k ∧ Own wr w.heap.size v ((a.take k).filter fun v => decide (v ∈ b) == true) ∧ Below w.heap.size w wr) (fun _ i _ => a.length - (intOf i).toNat)
  case atStart => exact ⟨0, Nat.zero_le _, rfl, by rw [List.take_zero]; exact hE.out, hbw0⟩
  case round =>
    obtain ⟨k, hk, rfl, hO, hbr⟩ := hrel
    have HO := Lib.hid hO
    clear hO
    by_cases hlt : k < a.length
    · obtain ⟨g, o, rfl, hg, hc⟩ := HA.out (by omega)
      have e1 := (hbr.cell (p := ⟨g, o + k, none⟩) hg).trans (hc k hlt)
      have h1' : (k : Int) < (a.length : Int) := by omega
      have hft := filter_take (p := fun v => decide (v ∈ b) == true) hlt
      have hfl : ((a.take k).filter fun v => decide (v ∈ b) == true).length ≤ 1000000 := by
        have := List.length_filter_le (fun v => decide (v ∈ b) == true) (a.take k)
        rw [List.length_take] at this; omega
      have HS := Lib.hid (ref_Has C cb b (li a k) wr (HB.out.step hbr) (by omega))
      obtain ⟨q, hq⟩ : ∃ q, decide (li a k ∈ b) = q := ⟨_, rfl⟩
      obtain ⟨F, hF⟩ : ∃ F, ((a.take k).filter fun v => decide (v ∈ b) == true) = F := ⟨_, rfl⟩
      rw [hF] at hft hfl HO
      simp only [hq] at hft
      rw [hq] at HS
      have HOP : ∀ (x : Int) v' w', World.ownsRow w' w.heap.size 3 1 v' (F.length + 1) (F.map (Value.int .i64) ++ [.int .i64 x]) → Hid (Own w' w.heap.size v' (F ++ [x])) := fun _ _ _ h => Own.push h
      clear hq hF hc
      cases q
      · rw [show (false == true) = false from rfl] at hft
        rw [if_neg (by simp), List.append_nil] at hft
        have HFT := Lib.hid hft
        clear hft
        go_wp2_with fail
        refine HS.out.mono ?_; rintro e w3 ⟨rfl, rfl⟩
        clear HS
        go_wp2
        go_roundw
        case rel => exact ⟨k + 1, by omega, by go_num, by rw [HFT.out]; exact HO.out, hbr⟩
        case measure => simp [intOf]; omega
      · rw [show (true == true) = true from rfl] at hft
        rw [if_pos rfl] at hft
        have HFT := Lib.hid hft
        clear hft
        go_wp2_with fail
        refine HS.out.mono ?_; rintro e w3 ⟨rfl, rfl⟩
        clear HS
        go_wp2_with (at_builtin; refine wpList_append_own _ rfl _ _ 22 rfl w.heap.size 3 i0 _ 1 8 Try.underlying22 hi0 hz0 hz1 hz2 rfl (by decide) _ _ _ rfl (World.ownsRow.alloc HO.out _) ⟨wr.heap.size, 0, none⟩ 1 1 [.int .i64 (li a k)] rfl rfl (cell_one_new _ _ _) (by simp [Value.oneCell']) (max_ok (by omega)) (by omega) (by have := hbr.size; simp; omega) ?_; intro v2 w4 hown hg4 _; have HO4 := HOP _ _ _ hown; have hbr4 := HO.out.grow hbr hg4; clear hown hg4 HO)
        go_roundw
        case rel => exact ⟨k + 1, by omega, by go_num, by rw [HFT.out]; exact HO4.out, hbr4⟩
        case measure => simp [intOf]; omega
    · obtain rfl : k = a.length := by omega
      rw [List.take_length] at HO
      have hcl := List.length_filter_le (fun v => decide (v ∈ b) == true) a
      obtain ⟨A2, c2, rfl, R2, hA2⟩ := HO.out.form
      have HOf := Lib.hid (ref_Of A2 c2 (a.filter fun v => decide (v ∈ b) == true) wr R2 (by omega))
      have HX : Hid (setL (a.filter fun v => decide (v ∈ b) == true) = chs a b true) := rfl
      rw [HX.out] at HOf
      obtain ⟨F, hF⟩ : ∃ F, (a.filter fun v => decide (v ∈ b) == true) = F := ⟨_, rfl⟩
      rw [hF] at HOf ⊢
      clear hF HX HO R2 hA2
      go_wp2_with fail
      refine HOf.out.mono ?_; rintro e w3 ⟨A3, c3, he, R3, hA3, hb3⟩
      have HR3 := Lib.hid R3
      have HA3 := Lib.hid hA3
      have hbw := hbr.trans (hb3.mono hbr.size)
      clear R3 hA3 hb3 HOf
      obtain ⟨X, hX⟩ : ∃ X, chs a b true = X := ⟨_, rfl⟩
      have HXX := Lib.hid hX
      rw [hX] at he HR3
      clear hX
      subst he
      go_wp2
      go_ret
      show Gives _ _ _ _
      rw [HXX.out]
      exact ⟨A3, c3, rfl, HR3.out, HA3.out, hbw⟩
set_option maxHeartbeats 2000000 in
theorem ref_Less (A C : Option Addr) (ca cb : Nat) (a b : List Int) (w : World) (ha : RI w w.heap.size A a) (hb : RI w w.heap.size C b) (la : a.length ≤ 1000000) (lb : b.length ≤ 1000000) : Calls Try.prog 19 #[.slice A a.length ca, .slice C b.length cb] w (Gives w (chs a b false)) := by
  obtain ⟨i0, hi0, hz0, hz1, hz2⟩ := info_parts info3
  have HA := Lib.hid ha
  have HB := Lib.hid hb
  have hE := Lib.hid (Own.empty w)
  have hbw0 : Below w.heap.size w (w.alloc (.cells #[] 3)) := (Below.refl _ _).alloc (Nat.le_refl _) _
  clear ha hb
  go_enter Try.func19, Try.ntmps19
  go_wp2
  go_loopw [5, 6] (fun v i wr => ∃ k : Nat, k ≤ a.length ∧ i = .int .i64 k ∧ Own wr w.heap.size v ((a.take k).filter fun v => decide (v ∈ b) == false) ∧ Below w.heap.size w wr) (fun _ i _ => a.length - (intOf i).toNat)
  case atStart => exact ⟨0, Nat.zero_le _, rfl, by rw [List.take_zero]; exact hE.out, hbw0⟩
  case round =>
    obtain ⟨k, hk, rfl, hO, hbr⟩ := hrel
    have HO := Lib.hid hO
    clear hO
    by_cases hlt : k < a.length
    · obtain ⟨g, o, rfl, hg, hc⟩ := HA.out (by omega)
      have e1 := (hbr.cell (p := ⟨g, o + k, none⟩) hg).trans (hc k hlt)
      have h1' : (k : Int) < (a.length : Int) := by omega
      have hft := filter_take (p := fun v => decide (v ∈ b) == false) hlt
      have hfl : ((a.take k).filter fun v => decide (v ∈ b) == false).length ≤ 1000000 := by
        have := List.length_filter_le (fun v => decide (v ∈ b) == false) (a.take k)
        rw [List.length_take] at this; omega
      have HS := Lib.hid (ref_Has C cb b (li a k) wr (HB.out.step hbr) (by omega))
      obtain ⟨q, hq⟩ : ∃ q, decide (li a k ∈ b) = q := ⟨_, rfl⟩
      obtain ⟨F, hF⟩ : ∃ F, ((a.take k).filter fun v => decide (v ∈ b) == false) = F := ⟨_, rfl⟩
      rw [hF] at hft hfl HO
      simp only [hq] at hft
      rw [hq] at HS
      have HOP : ∀ (x : Int) v' w', World.ownsRow w' w.heap.size 3 1 v' (F.length + 1) (F.map (Value.int .i64) ++ [.int .i64 x]) → Hid (Own w' w.heap.size v' (F ++ [x])) := fun _ _ _ h => Own.push h
      clear hq hF hc
      cases q
      · rw [show (false == false) = true from rfl] at hft
        rw [if_pos rfl] at hft
        have HFT := Lib.hid hft
        clear hft
        go_wp2_with fail
        refine HS.out.mono ?_; rintro e w3 ⟨rfl, rfl⟩
        clear HS
        go_wp2_with (at_builtin; refine wpList_append_own _ rfl _ _ 22 rfl w.heap.size 3 i0 _ 1 8 Try.underlying22 hi0 hz0 hz1 hz2 rfl (by decide) _ _ _ rfl (World.ownsRow.alloc HO.out _) ⟨wr.heap.size, 0, none⟩ 1 1 [.int .i64 (li a k)] rfl rfl (cell_one_new _ _ _) (by simp [Value.oneCell']) (max_ok (by omega)) (by omega) (by have := hbr.size; simp; omega) ?_; intro v2 w4 hown hg4 _; have HO4 := HOP _ _ _ hown; have hbr4 := HO.out.grow hbr hg4; clear hown hg4 HO)
        go_roundw
        case rel => exact ⟨k + 1, by omega, by go_num, by rw [HFT.out]; exact HO4.out, hbr4⟩
        case measure => simp [intOf]; omega
      · rw [show (true == false) = false from rfl] at hft
        rw [if_neg (by simp), List.append_nil] at hft
        have HFT := Lib.hid hft
        clear hft
        go_wp2_with fail
        refine HS.out.mono ?_; rintro e w3 ⟨rfl, rfl⟩
        clear HS
        go_wp2
        go_roundw
        case rel => exact ⟨k + 1, by omega, by go_num, by rw [HFT.out]; exact HO.out, hbr⟩
        case measure => simp [intOf]; omega
    · obtain rfl : k = a.length := by omega
      rw [List.take_length] at HO
      have hcl := List.length_filter_le (fun v => decide (v ∈ b) == false) a
      obtain ⟨A2, c2, rfl, R2, hA2⟩ := HO.out.form
      have HOf := Lib.hid (ref_Of A2 c2 (a.filter fun v => decide (v ∈ b) == false) wr R2 (by omega))
      have HX : Hid (setL (a.filter fun v => decide (v ∈ b) == false) = chs a b false) := rfl
      rw [HX.out] at HOf
      obtain ⟨F, hF⟩ : ∃ F, (a.filter fun v => decide (v ∈ b) == false) = F := ⟨_, rfl⟩
      rw [hF] at HOf ⊢
      clear hF HX HO R2 hA2
      go_wp2_with fail
      refine HOf.out.mono ?_; rintro e w3 ⟨A3, c3, he, R3, hA3, hb3⟩
      have HR3 := Lib.hid R3
      have HA3 := Lib.hid hA3
      have hbw := hbr.trans (hb3.mono hbr.size)
      clear R3 hA3 hb3 HOf
      obtain ⟨X, hX⟩ : ∃ X, chs a b false = X := ⟨_, rfl⟩
      have HXX := Lib.hid hX
      rw [hX] at he HR3
      clear hX
      subst he
      go_wp2
      go_ret
      show Gives _ _ _ _
      rw [HXX.out]
      exact ⟨A3, c3, rfl, HR3.out, HA3.out, hbw⟩
set_option maxHeartbeats 1000000 in
theorem ref_Within (A C : Option Addr) (ca cb : Nat) (a b : List Int) (w : World) (ha : RI w w.heap.size A a) (hb : RI w w.heap.size C b) (la : a.length ≤ 1000000) (lb : b.length ≤ 1000000) : Calls Try.prog 21 #[.slice A a.length ca, .slice C b.length cb] w fun e w' => e = .returned (.bool (decide (chs a b false = []))) ∧ Below w.heap.size w w' := by
  have HC := Lib.hid (ref_Less A C ca cb a b w ha hb la lb)
  obtain ⟨X, hX⟩ : ∃ X, chs a b false = X := ⟨_, rfl⟩
  rw [hX] at HC ⊢
  have hq := beq_len X
  obtain ⟨q, hqq⟩ : ∃ q, decide (X = []) = q := ⟨_, rfl⟩
  rw [hqq] at hq ⊢
  clear hX ha hb hqq
  go_enter Try.func21, Try.ntmps21
  go_wp2_with fail
  refine HC.out.mono ?_; rintro e w1 ⟨A1, c1, rfl, R1, hA1, hb1⟩
  clear R1 hA1 HC
  go_wp2
  go_ret
  exact ⟨rfl, hb1⟩
end Go.Proofs.Ytalglfmhmcmgaaa
