/- Contract of double of layer 4 (cnt), over the translation. -/
import Derived.Test.YtjnabmchejdhpaaFn8
namespace Go.Proofs.Ytjnabmchejdhpaa
open Go.RowKit

theorem dbl_step {s t : List Int} {k : Nat} {C y C' : Int} (hs : k < s.length) (ht : k < t.length) (h : val (t.take k) + C * pw k = 2 * val (s.take k)) (hy : 2 * li s k + C = y + C' * 4294967296) :
    val ((t.set k y).take (k + 1)) + C' * pw (k + 1) = 2 * val (s.take (k + 1)) := by
  rw [take_set t ht, val_snoc, take_len (l := t) (i := k) (by omega), val_take_succ hs, pw_succ]
  have e1 : s.getD k 0 = li s k := rfl
  rw [e1]
  have e3 : pw k * y = 2 * (pw k * li s k) + C * pw k - C' * (4294967296 * pw k) := by
    have : y = 2 * li s k + C - C' * 4294967296 := by omega
    rw [this, Int.mul_sub, Int.mul_add, Int.mul_comm (pw k) C, Int.mul_comm (pw k) (C' * 4294967296), Int.mul_assoc, Int.mul_left_comm]
  omega
theorem dbl_keep {s t : List Int} {k : Nat} {y : Int} (h : t.drop k = s.drop k) : (t.set k y).drop (k + 1) = s.drop (k + 1) := by
  rw [drop_set, ← List.drop_drop, ← List.drop_drop, h]
theorem dbl_at {s t : List Int} {k : Nat} (hs : k < s.length) (ht : k < t.length) (h : t.drop k = s.drop k) : li t k = li s k := by
  rw [drop_cons' hs, drop_cons' ht] at h
  injection h with h1
theorem dbl_end {s t : List Int} {C : Int} (_hs : Dig s) (ht : Dig t) (hl : t.length = s.length) (hC : 0 ≤ C) (h : val (t.take s.length) + C * pw s.length = 2 * val (s.take s.length)) (hr : 2 * val s < pw s.length) : val t = 2 * val s := by
  rw [List.take_length, ← hl, List.take_length, hl] at h
  have h1 := val_lo ht
  rcases Int.lt_or_le 0 C with c | c
  · have : 1 * pw s.length ≤ C * pw s.length := Int.mul_le_mul_of_nonneg_right c (by have := pw_pos s.length; omega)
    omega
  · obtain rfl : C = 0 := by omega
    omega
set_option maxHeartbeats 2000000 in
theorem cnt_double (g cp : Nat) (s : List Int) (w : World) (hO : Blk w g 62 (intRow s)) (hs : Dig s) (hl : s.length ≤ 1000000000) (hr : 2 * val s < pw s.length) :
    Calls Try.prog 40 #[.slice (some ⟨g, 0, none⟩) s.length cp] w fun e w' => ∃ t, e = .returned (.tuple #[]) ∧ Blk w' g 62 (intRow t) ∧ Dig t ∧ t.length = s.length ∧ val t = 2 * val s ∧ (∀ B, B ≤ g → Below B w w') := by
  have HO := Lib.hid hO
  have HS := Lib.hid hs
  have HR := Lib.hid hr
  clear hO hs hr
  go_enter Try.func40, Try.ntmps40
  go_wp2
  go_loopw [2, 7] (fun c i wr => ∃ (k : Nat) (C : Int) (t : List Int), k ≤ s.length ∧ i = .int .i64 (k : Int) ∧ c = .int .u32 C ∧ 0 ≤ C ∧ C ≤ 1 ∧ t.length = s.length ∧ Hid (Blk wr g 62 (intRow t)) ∧ Hid (Dig t ∧ t.drop k = s.drop k ∧ val (t.take k) + C * pw k = 2 * val (s.take k)) ∧ Hid (∀ B, B ≤ g → Below B w wr)) (fun _ i _ => s.length - (intOf i).toNat)
  case atStart => exact ⟨0, 0, s, Nat.zero_le _, rfl, rfl, by omega, by omega, rfl, HO, Lib.hid ⟨HS.out, rfl, by simp [val]⟩, Lib.hid (fun _ _ => Below.refl _ _)⟩
  case round =>
    obtain ⟨k, C, t, hk, rfl, rfl, hC0, hC1, htl, HT, HV, HB⟩ := hrel
    by_cases hlt : k < s.length
    · have h1' : (k : Int) < (s.length : Int) := by omega
      have h0' : (0 : Int) ≤ (k : Int) := by omega
      have ea := dbl_at hlt (by omega) HV.out.2.1
      have e3 : wr.cell? ⟨g, k, none⟩ = some (.int .u32 (li s k)) := by rw [← ea]; exact (HT.out.cell k).trans (intRow_at (by omega))
      have hfz := HT.out.frozen k
      have hg2 : g < wr.heap.size := HT.out.lt
      have d1 := HS.out _ (li_mem hlt)
      have hst : ∀ y, Hid (Blk (wr.setCell ⟨g, k, none⟩ (.int .u32 y)) g 62 (intRow (t.set k y))) := fun y => by
        have := HT.out.set_ k (.int .u32 y); rwa [intRow_set] at this
      have HST := Lib.hid hst
      have HJ := Lib.hid (dbl_join (x := li s k % 2147483648) (c := C) (by omega) (by omega) (by omega))
      have HB2 : Hid (∀ y B, B ≤ g → Below B w (wr.setCell ⟨g, k, none⟩ (.int .u32 y))) := Lib.hid (fun y B hB => (HB.out B hB).setCell (p := ⟨g, k, none⟩) hB _)
      have em : li s k * 2 % 4294967296 = li s k % 2147483648 * 2 := by omega
      have HY : Hid (bits BinOp.or IntKind.u32 (li s k * 2 % 4294967296) C = li s k % 2147483648 * 2 + C) := Lib.hid (by rw [em, HJ.out])
      clear hst ea em
      go_wp2
      go_roundw
      case rel => exact ⟨k + 1, _, _, by omega, by go_num, rfl, by omega, by omega, by rw [List.length_set]; exact htl, HST.out _, Lib.hid ⟨HV.out.1.set _ (by rw [HY.out]; omega) (by rw [HY.out]; omega), dbl_keep HV.out.2.1, dbl_step hlt (by omega) HV.out.2.2 (by rw [HY.out]; omega)⟩, Lib.hid (HB2.out _)⟩
      case measure => simp [intOf]; omega
    · obtain rfl : k = s.length := by omega
      have HX := Lib.hid (dbl_end HS.out HV.out.1 htl hC0 HV.out.2.2 HR.out)
      go_wp2
      exact bodyPost_end (results_none rfl _ _ _) rfl ⟨t, rfl, HT.out, HV.out.1, htl, HX.out, HB.out⟩
end Go.Proofs.Ytjnabmchejdhpaa
