/- Contracts of the specification's Half and Shift of layer 4 (cnt), over the translation. -/
import Derived.Test.YtjnabmchejdhpaaDcmp
namespace Go.Proofs.Ytjnabmchejdhpaa
open Go.RowKit

def rowT (l : List Int) : Array Value := (l.map (Value.int .i64)).toArray
theorem rowT_at {l : List Int} {i : Nat} (h : i < l.length) : (rowT l)[i]? = some (.int .i64 (li l i)) := by
  unfold rowT li; simp [h]
theorem rowT_set (l : List Int) (i : Nat) (b : Int) : (rowT l).setIfInBounds i (.int .i64 b) = rowT (l.set i b) := by
  unfold rowT; simp
theorem made_rowT (n : Nat) : madeCells #[Value.int .i64 0] n = rowT (List.replicate n 0) := by
  unfold madeCells rowT
  apply Array.ext
  · simp
  · intro i h1 h2
    simp
    rw [Nat.mod_one]; rfl
theorem run_mkT (n : Nat) (hn : n ≤ 1000000000000) (w : World) : (Instr.makeSlice 27 (.int .i64 (n : Int)) (.int .i64 (n : Int))).run Try.prog w = .ok (.slice (some ⟨w.heap.size, 0, none⟩) n n) (w.alloc (.cells (rowT (List.replicate n 0)) 3)) := by
  obtain ⟨i, hi, hz0, hz1, hz2⟩ := info_parts info3
  have h := run_make (P := Try.prog) w 27 3 i _ Try.underlying27 hi hz0 .i64 .i64 n n (by omega) (by omega) (by rw [hz2]; omega) (by omega)
  rw [hz1] at h
  simp only [Int.toNat_natCast, Nat.mul_one] at h
  rw [h]
  have e : (Value.int .i64 0).cells = #[Value.int .i64 0] := rfl
  rw [e, made_rowT]
theorem ownT_blk {w : World} {B g : Nat} {t : List Int} (h : Blk w g 3 (rowT t)) (hg : B ≤ g) (hm : t.length ≤ maxLen) : OwnT w B (.slice (some ⟨g, 0, none⟩) t.length t.length) t := by
  refine ⟨by simp, .inr ⟨g, t.length, rowT t, rfl, hg, h, Nat.le_refl _, hm, by unfold rowT; simp, ?_⟩⟩
  unfold rowT
  simp
  try exact List.take_of_length_le (by simp)
theorem half_stepT {a t : List Int} {k : Nat} {C y r : Int} (hkt : k < t.length) (h : valT (a.drop (k + 1)) = 2 * valT (t.drop (k + 1)) + C) (hy : 2 * y + r = 10 * C + li a k) :
    valT (a.drop k) = 2 * valT ((t.set k y).drop k) + r := by
  rw [drop_set0 t hkt, val_dropT]
  show _ = 2 * (y + 10 * valT (t.drop (k + 1))) + _
  omega
set_option maxHeartbeats 2000000 in
theorem ref_Half (A : Option Addr) (ca : Nat) (a : List Int) (w : World) (hA : Dn w A ca a) (hal : a.length ≤ 1000000000) :
    Calls Try.prog 20 #[.slice A a.length ca] w fun e w' => ∃ v, e = .returned (.tuple #[v, .bool (decide (valT a % 2 = 1))]) ∧ ResT w w' (valT a / 2) a.length (.returned v) := by
  have HA := Lib.hid hA
  have hmk := run_mkT a.length (by omega)
  clear hA
  go_enter Try.func20, Try.ntmps20
  go_wp2
  go_loopw [5, 6] (fun c i wr => ∃ (k : Nat) (C : Int) (t : List Int), k ≤ a.length ∧ i = .int .i64 ((k : Int) - 1) ∧ c = .int .i64 C ∧ 0 ≤ C ∧ C ≤ 1 ∧ t.length = a.length ∧ Hid (Blk wr w.heap.size 3 (rowT t)) ∧ Hid (DigT t ∧ valT (a.drop k) = 2 * valT (t.drop k) + C) ∧ Below w.heap.size w wr) (fun _ i _ => (intOf i + 1).toNat)
  case atStart => exact ⟨a.length, 0, List.replicate a.length 0, Nat.le_refl _, rfl, rfl, by omega, by omega, by simp, Lib.hid (Blk.new _ _ _), Lib.hid ⟨DigT.zeros _, by rw [List.drop_length, List.drop_of_length_le (by simp)]; rfl⟩, (Below.refl _ _).alloc (Nat.le_refl _) _⟩
  case round =>
    obtain ⟨k, C, t, hk, rfl, rfl, hC0, hC1, htl, HT, HV, hb⟩ := hrel
    clear hmk
    rcases k with _ | k
    · have h0 : ¬ (0 : Int) ≤ ((0 : Nat) : Int) - 1 := by omega
      have hv : valT a = 2 * valT t + C := HV.out.2
      have HX : Hid (valT t = valT a / 2) := Lib.hid (by omega)
      have HY : Hid (decide (valT a % 2 = 1) = (C == 1)) := Lib.hid (by
        rcases (show C = 0 ∨ C = 1 by omega) with rfl | rfl
        · simp; omega
        · simp; omega)
      clear hv
      have HO := ownT_blk HT.out (Nat.le_refl _) (by unfold maxLen; omega)
      obtain ⟨A2, c3, e2, hN⟩ := HO.dn HV.out.1
      injection e2 with e3 e4 e5
      subst e3 e5
      have HC2 := ref_cut _ _ t wr hN (by omega)
      rw [htl] at HC2
      have HC3 := Lib.hid HC2
      clear e4 hN HC2 HO
      go_wp2_with (go_at_call 34; refine HC3.out.mono ?_; rintro e w2 ⟨A4, c4, l4, rfl, hR⟩; have HR := Lib.hid hR; clear hR)
      go_ret2
      refine ⟨_, by rw [HY.out]; rfl, ?_⟩
      have hr : ResT wr w2 (valT t) a.length (.returned (.slice A4 l4.length c4)) := ⟨A4, c4, l4, rfl, HR.out⟩
      rw [HX.out] at hr
      exact hr.from hb (Nat.le_refl _)
    · have ek : ((k + 1 : Nat) : Int) - 1 = (k : Int) := by omega
      rw [ek]
      obtain ⟨ab, ao, rfl, hg1, hc1⟩ := HA.out.row (by omega)
      have e1 := (hb.cell (p := ⟨ab, ao + k, none⟩) hg1).trans (hc1 k (by omega))
      have d1 := li_digT HA.out.dig k
      have hfz := HT.out.frozen k
      have e3 : wr.cell? ⟨w.heap.size, k, none⟩ = some (.int .i64 (li t k)) := (HT.out.cell k).trans (rowT_at (by omega))
      have hg2 : w.heap.size < wr.heap.size := HT.out.lt
      have h1' : (k : Int) < (a.length : Int) := by omega
      have h0' : (0 : Int) ≤ (k : Int) := by omega
      have hst : ∀ y, Hid (Blk (wr.setCell ⟨w.heap.size, k, none⟩ (.int .i64 y)) w.heap.size 3 (rowT (t.set k y))) := fun y => by
        have := HT.out.set_ k (.int .i64 y); rwa [rowT_set] at this
      have HST := Lib.hid hst
      clear hc1 hst
      go_wp2
      go_roundw
      case rel => exact ⟨k, _, _, by omega, rfl, rfl, by omega, by omega, by rw [List.length_set]; exact htl, HST.out _, Lib.hid ⟨HV.out.1.set _ (by omega) (by omega), half_stepT (by omega) HV.out.2 (by omega)⟩, hb.setCell (p := ⟨w.heap.size, k, none⟩) (Nat.le_refl _) _⟩
      case measure => simp [intOf]
def dbl (x : Int) : Nat → Int
  | 0 => x
  | k + 1 => 2 * dbl x k
def clampT (k : Int) : Int := if 4096 < k then 4096 else k
set_option maxHeartbeats 2000000 in
theorem ref_Shift (A : Option Addr) (ca : Nat) (a : List Int) (k : Int) (w : World) (hA : Dn w A ca a) (hal : a.length ≤ 1000000) :
    Calls Try.prog 24 #[.slice A a.length ca, .int .i64 k] w fun e w' => ResT w w' (dbl (valT a) (clampT k).toNat) (a.length + 4096) e := by
  have HA := Lib.hid hA
  clear hA
  have hp1 : Hid ((2 : Int) ≤ pwT 1) := Lib.hid (by decide)
  obtain ⟨K, hK⟩ : ∃ K, (clampT k).toNat = K := ⟨_, rfl⟩
  rw [hK]
  have hK1 : K ≤ 4096 := by rw [← hK]; unfold clampT; split <;> omega
  go_enter Try.func24, Try.ntmps24
  by_cases hc : 4096 < k
  all_goals
    first
      | (have HKe : Hid (∀ j : Nat, ((j : Int) < 4096 ↔ j < K)) := Lib.hid (by intro j; rw [← hK]; unfold clampT; rw [if_pos hc]; omega))
      | (have HKe : Hid (∀ j : Nat, ((j : Int) < k ↔ j < K)) := Lib.hid (by intro j; rw [← hK]; unfold clampT; rw [if_neg hc]; omega))
    clear hK
    go_wp2
    go_loopw [0, 5] (fun v i wr => ∃ (j : Nat) (o : List Int) (D : Option Addr) (d : Nat), v = .slice D o.length d ∧ i = .int .i64 (j : Int) ∧ j ≤ K ∧ o.length ≤ a.length + j ∧ Hid (Dn wr D d o ∧ valT o = dbl (valT a) j) ∧ Below w.heap.size w wr) (fun _ i _ => K - (intOf i).toNat)
    case atStart => exact ⟨0, a, A, ca, rfl, rfl, by omega, by omega, Lib.hid ⟨HA.out, rfl⟩, Below.refl _ _⟩
    case round =>
      obtain ⟨j, o, D, d, rfl, rfl, hj, hol, HO, hb⟩ := hrel
      have HT2 := Lib.hid (ref_Times D d o 2 1 wr HO.out.1 (by omega) (by omega) (by omega) hp1 (by omega))
      have HC := Lib.hid (ref_cut D d o wr HO.out.1 (by omega))
      by_cases hlt : j < K
      · have hlt' := (HKe.out j).2 hlt
        go_wp2_with (go_at_call 35; refine HT2.out.mono ?_; rintro e w2 ⟨A2, c2, l2, rfl, hD2, hn2, hv2, hm2, hb2⟩; have HD2 := Lib.hid hD2; have HV2 := Lib.hid hv2; clear hD2 hn2 hv2)
        have hb3 := step2 hb hb2
        have HD3 : Hid (Dn w2 A2 c2 l2 ∧ valT l2 = dbl (valT a) (j + 1)) := Lib.hid ⟨HD2.out, by rw [HV2.out, HO.out.2]; rfl⟩
        clear hlt' hb2
        go_roundw
        case rel => exact ⟨j + 1, _, _, _, by first | exact ⟨rfl, rfl⟩ | rfl, by go_num, by omega, by omega, HD3, hb3⟩
        case measure => simp [intOf]; try omega
      · have hlt' : ¬ _ := fun h => hlt ((HKe.out j).1 h)
        have hjK : j = K := by omega
        have HX : Hid (valT o = dbl (valT a) K) := Lib.hid (by rw [HO.out.2, hjK])
        clear hjK hlt
        go_wp2_with (go_at_call 34; refine HC.out.mono ?_; rintro e w2 ⟨A4, c4, l4, rfl, hR⟩; have HR := Lib.hid hR; clear hR)
        go_ret
        have hr : ResT wr w2 (valT o) o.length (.returned (.slice A4 l4.length c4)) := ⟨A4, c4, l4, rfl, HR.out⟩
        rw [HX.out] at hr
        exact hr.from hb (by omega)
end Go.Proofs.Ytjnabmchejdhpaa
