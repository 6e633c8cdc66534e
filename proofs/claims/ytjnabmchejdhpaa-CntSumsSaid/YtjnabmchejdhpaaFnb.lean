/- Contract of Mul of layer 4 (cnt), over the translation. -/
import Derived.Test.YtjnabmchejdhpaaFna
namespace Go.Proofs.Ytjnabmchejdhpaa
open Go.RowKit

theorem prod_hi {x y : Int} (hx : 0 ≤ x) (hx2 : x < 4294967296) (hy : 0 ≤ y) (hy2 : y < 4294967296) : 0 ≤ x * y ∧ x * y ≤ 18446744065119617025 := by
  refine ⟨Int.mul_nonneg hx hy, ?_⟩
  have h1 : x * y ≤ 4294967295 * y := Int.mul_le_mul_of_nonneg_right (by omega) hy
  omega
theorem mul_step {b t s : List Int} {k j : Nat} {c x : Int} (hj : j < b.length) (hkj : k + j < t.length) (h : val t + c * pw (k + j) = val s + x * val (b.take j) * pw k) :
    val (t.set (k + j) ((c + (x * li b j + li t (k + j))) % 4294967296)) + (c + (x * li b j + li t (k + j))) / 4294967296 * pw (k + (j + 1)) = val s + x * val (b.take (j + 1)) * pw k := by
  have h1 := inc_step hkj c (x * li b j)
  have e : t.getD (k + j) 0 = li t (k + j) := rfl
  rw [e, Int.add_assoc c] at h1
  have e2 : b.getD j 0 = li b j := rfl
  have e3 : x * val (b.take (j + 1)) * pw k = x * val (b.take j) * pw k + x * li b j * pw (k + j) := by
    rw [val_take_succ hj, e2, pw_add, Int.mul_add, Int.add_mul]
    congr 1
    rw [Int.mul_assoc, Int.mul_assoc, Int.mul_assoc]
    congr 1
    rw [Int.mul_comm (pw j), Int.mul_assoc]
  rw [e3, show k + (j + 1) = k + j + 1 by omega]
  omega
theorem zero_at {t : List Int} {m : Nat} (ht : Dig t) (hm : m < t.length) (h : val t < pw m) : li t m = 0 := by
  have h1 := val_split (l := t) (k := m) (by omega)
  have h2 := val_lo (ht.take m)
  have h3 := val_drop hm
  have h4 := val_lo (ht.drop (m + 1))
  have h5 := ht _ (li_mem hm)
  have e : t.getD m 0 = li t m := rfl
  rw [e] at h3
  have h6 := pw_pos m
  rcases Int.lt_or_le 0 (val (t.drop m)) with d | d
  · have : pw m * 1 ≤ pw m * val (t.drop m) := Int.mul_le_mul_of_nonneg_left d (by omega)
    omega
  · omega
theorem mul_room {a b : List Int} {k : Nat} (ha : Dig a) (hb : Dig b) (hk : k ≤ a.length) : val (a.take k) * val b < pw (k + b.length) := by
  have h1 := val_hi (ha.take k)
  rw [take_len hk] at h1
  have h2 := val_hi hb
  have h3 := val_lo hb
  have h4 := val_lo (ha.take k)
  rw [pw_add]
  have h5 : val (a.take k) * val b ≤ val (a.take k) * pw b.length := Int.mul_le_mul_of_nonneg_left (by omega) h4
  have h6 : (val (a.take k) + 1) * pw b.length ≤ pw k * pw b.length := Int.mul_le_mul_of_nonneg_right (by omega) (by have := pw_pos b.length; omega)
  rw [Int.add_mul] at h6
  have := pw_pos b.length
  omega
theorem mul_row {a b t s : List Int} {k : Nat} {c : Int} (hk : k < a.length) (hkb : k + b.length < t.length) (hz : li t (k + b.length) = 0) (hs : val s = val (a.take k) * val b)
    (h : val t + c * pw (k + b.length) = val s + li a k * val (b.take b.length) * pw k) : val (t.set (k + b.length) c) = val (a.take (k + 1)) * val b := by
  have e : t.getD (k + b.length) 0 = li t (k + b.length) := rfl
  have e2 : a.getD k 0 = li a k := rfl
  rw [val_set hkb, e, hz, val_take_succ hk, e2, Int.add_mul, ← hs]
  rw [List.take_length] at h
  have e3 : li a k * val b * pw k = pw k * li a k * val b := by rw [Int.mul_comm, Int.mul_assoc]
  rw [e3] at h
  rw [Int.sub_zero, Int.mul_comm]
  exact h
theorem keep_set {t s : List Int} {m m' : Nat} {y : Int} (h : t.drop m = s.drop m) (hm : m' = m + 1) : (t.set m y).drop m' = s.drop m' := by
  subst hm; exact dbl_keep h
theorem li_drop {t s : List Int} {m : Nat} (hl : t.length = s.length) (hm : m < t.length) (h : t.drop m = s.drop m) : li t m = li s m := dbl_at (by omega) hm h

set_option maxHeartbeats 4000000 in
theorem cnt_Mul (A B : Option Addr) (ca cb : Nat) (a b : List Int) (w : World) (hA : RI w w.heap.size A a) (hB : RI w w.heap.size B b) (ha : Dig a) (hb : Dig b) (hal : a.length ≤ 100000000) (hbl : b.length ≤ 100000000) :
    Calls Try.prog 21 #[.slice A a.length ca, .slice B b.length cb] w fun e w' => Res w w' (val a * val b) (a.length + b.length) e := by
  have HA := Lib.hid hA
  have HB := Lib.hid hB
  have HDa := Lib.hid ha
  have HDb := Lib.hid hb
  have hmk := run_mk (a.length + b.length) (by omega)
  have en : ((a.length + b.length : Nat) : Int) = (a.length : Int) + (b.length : Int) := by omega
  rw [en] at hmk
  clear hA hB ha hb en
  go_enter Try.func21, Try.ntmps21
  go_wp2
  go_loopw [19] (fun i wr => ∃ (k : Nat) (t : List Int), k ≤ a.length ∧ i = .int .i64 (k : Int) ∧ t.length = a.length + b.length ∧ Hid (Blk wr w.heap.size 62 (intRow t)) ∧ Hid (Dig t ∧ val t = val (a.take k) * val b) ∧ Below w.heap.size w wr) (fun i _ => a.length - (intOf i).toNat)
  case atStart => exact ⟨0, List.replicate (a.length + b.length) 0, Nat.zero_le _, rfl, by simp, Lib.hid (Blk.new _ _ _), Lib.hid ⟨Dig.zeros _, by rw [val_zeros]; simp [val]⟩, (Below.refl _ _).alloc (Nat.le_refl _) _⟩
  case round =>
    obtain ⟨k, s, hk, rfl, hsl, HT, HV, hb⟩ := hrel
    clear hmk
    by_cases hlt : k < a.length
    · have hlt' : (k : Int) < (a.length : Int) := by omega
      obtain ⟨ab, ao, rfl, hg1, hc1⟩ := HA.out (by omega)
      have e1 := (hb.cell (p := ⟨ab, ao + k, none⟩) hg1).trans (hc1 k hlt)
      have d1 := HDa.out _ (li_mem hlt)
      clear hc1
      go_wp2
      go_loopw [8, 26] (fun c i wr2 => ∃ (j : Nat) (C : Int) (t : List Int), j ≤ b.length ∧ i = .int .i64 (j : Int) ∧ c = .int .u64 C ∧ 0 ≤ C ∧ C < 4294967296 ∧ t.length = a.length + b.length ∧ Hid (Blk wr2 w.heap.size 62 (intRow t)) ∧ Hid (Dig t ∧ t.drop (k + j) = s.drop (k + j) ∧ val t + C * pw (k + j) = val s + li a k * val (b.take j) * pw k) ∧ Below w.heap.size w wr2) (fun _ i _ => b.length - (intOf i).toNat)
      case atStart => exact ⟨0, 0, s, Nat.zero_le _, rfl, rfl, by omega, by omega, hsl, HT, Lib.hid ⟨HV.out.1, rfl, by simp [val]⟩, hb⟩
      case round =>
        obtain ⟨j, C, t, hj, rfl, rfl, hC0, hC1, htl, HT2, HV2, hb2⟩ := hrel
        by_cases hjl : j < b.length
        · have hjl' : (j : Int) < (b.length : Int) := by omega
          obtain ⟨bb, bo, rfl, hg2, hc2⟩ := HB.out (by omega)
          have e2 := (hb2.cell (p := ⟨bb, bo + j, none⟩) hg2).trans (hc2 j hjl)
          have d2 := HDb.out _ (li_mem hjl)
          have hp := prod_hi d1.1 d1.2 d2.1 d2.2
          have hfz := HT2.out.frozen (k + j)
          have e3 : wr.cell? ⟨w.heap.size, k + j, none⟩ = some (.int .u32 (li t (k + j))) := (HT2.out.cell _).trans (intRow_at (by omega))
          have d3 := HV2.out.1 _ (li_mem (l := t) (i := k + j) (by omega))
          have hg3 : w.heap.size < wr.heap.size := HT2.out.lt
          have h3' : (k : Int) + (j : Int) < (a.length : Int) + (b.length : Int) := by omega
          have hst : ∀ y, Hid (Blk (wr.setCell ⟨w.heap.size, k + j, none⟩ (.int .u32 y)) w.heap.size 62 (intRow (t.set (k + j) y))) := fun y => by
            have := HT2.out.set_ (k + j) (.int .u32 y); rwa [intRow_set] at this
          have HST := Lib.hid hst
          clear hc2 hst
          go_wp2
          go_roundw
          case rel => exact ⟨j + 1, _, _, by omega, by go_num, rfl, by omega, by omega, by rw [List.length_set]; exact htl, HST.out _, Lib.hid ⟨HV2.out.1.set _ (by omega) (by omega), keep_set HV2.out.2.1 (by omega), mul_step hjl (by omega) HV2.out.2.2⟩, hb2.setCell (p := ⟨w.heap.size, k + j, none⟩) (Nat.le_refl _) _⟩
          case measure => simp [intOf]; omega
        · obtain rfl : j = b.length := by omega
          have hfz := HT2.out.frozen (k + b.length)
          have e3 : wr.cell? ⟨w.heap.size, k + b.length, none⟩ = some (.int .u32 (li t (k + b.length))) := (HT2.out.cell _).trans (intRow_at (by omega))
          have hg3 : w.heap.size < wr.heap.size := HT2.out.lt
          have h3' : (k : Int) + (b.length : Int) < (a.length : Int) + (b.length : Int) := by omega
          have hz : li t (k + b.length) = 0 := by
            rw [li_drop (s := s) (by omega) (by omega) HV2.out.2.1]
            exact zero_at HV.out.1 (by omega) (by rw [HV.out.2]; exact mul_room HDa.out HDb.out (by omega))
          have HR := Lib.hid (mul_row (c := C) hlt (by omega) hz HV.out.2 HV2.out.2.2)
          have hst : ∀ y, Hid (Blk (wr.setCell ⟨w.heap.size, k + b.length, none⟩ (.int .u32 y)) w.heap.size 62 (intRow (t.set (k + b.length) y))) := fun y => by
            have := HT2.out.set_ (k + b.length) (.int .u32 y); rwa [intRow_set] at this
          have HST := Lib.hid hst
          have hCm : C % 4294967296 = C := Int.emod_eq_of_lt hC0 hC1
          clear hst hz
          go_wp2
          go_roundw
          case rel => exact ⟨k + 1, _, by omega, by go_num, by rw [List.length_set]; exact htl, HST.out _, Lib.hid ⟨HV2.out.1.set _ (by omega) (by omega), HR.out⟩, hb2.setCell (p := ⟨w.heap.size, k + b.length, none⟩) (Nat.le_refl _) _⟩
          case measure => simp [intOf]; omega
    · obtain rfl : k = a.length := by omega
      have HX : Hid (val s = val a * val b) := Lib.hid (by rw [HV.out.2, List.take_length])
      have HO : Hid (Own wr w.heap.size (.slice (some ⟨w.heap.size, 0, none⟩) s.length s.length) s) := Lib.hid (own_blk HT.out (Nat.le_refl _) (by unfold maxLen; omega))
      have HC2 := trim_res HO.out HV.out.1 HX.out (show s.length ≤ a.length + b.length by omega) (by omega) hb
      rw [hsl] at HC2
      have HC3 := Lib.hid HC2
      clear HC2
      go_wp2_with (go_at_call 36; refine HC3.out.mono ?_; rintro e w2 ⟨v', s', rfl, hR⟩; have HR := Lib.hid hR; clear hR)
      go_ret
      exact ⟨v', s', rfl, HR.out⟩
end Go.Proofs.Ytjnabmchejdhpaa
