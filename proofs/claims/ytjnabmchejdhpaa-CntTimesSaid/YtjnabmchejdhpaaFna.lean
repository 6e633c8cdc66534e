/- Contract of Shift of layer 4 (cnt), over the translation. -/
import Derived.Test.YtjnabmchejdhpaaFn9
namespace Go.Proofs.Ytjnabmchejdhpaa
open Go.RowKit

def p2 (n : Nat) : Int := ((2 ^ n : Nat) : Int)
theorem p2_succ (n : Nat) : p2 (n + 1) = 2 * p2 n := by unfold p2; rw [Nat.pow_succ]; omega
theorem p2_pos (n : Nat) : 1 ≤ p2 n := by unfold p2; have := Nat.two_pow_pos n; omega
theorem p2_pw (q : Nat) : p2 (32 * q) = pw q := by
  induction q with
  | zero => rfl
  | succ q ih =>
    rw [pw_succ, ← ih]
    unfold p2
    rw [show 32 * (q + 1) = 32 * q + 32 by omega, Nat.pow_add]
    omega
theorem p2_add (a b : Nat) : p2 (a + b) = p2 a * p2 b := by unfold p2; rw [Nat.pow_add]; simp
theorem p2_mono {a b : Nat} (h : a ≤ b) : p2 a ≤ p2 b := by
  unfold p2; have := Nat.pow_le_pow_right (n := 2) (by omega) h; omega
theorem val_pad (q : Nat) (a : List Int) : val (splice (List.replicate (q + a.length + 1) 0) q a) = pw q * val a := by
  unfold splice
  rw [List.take_replicate, List.drop_replicate, show min q (q + a.length + 1) = q by omega, show q + a.length + 1 - (q + a.length) = 1 by omega]
  rw [val_append, val_append, val_zeros, val_zeros, List.length_replicate]
  simp
theorem dig_pad (q : Nat) {a : List Int} (h : Dig a) : Dig (splice (List.replicate (q + a.length + 1) 0) q a) := by
  unfold splice
  exact ((Dig.zeros _).take _).app (h.app ((Dig.zeros _).drop _))
theorem pad_room {a : List Int} (h : Dig a) (q j : Nat) (hj : j < 32) : 2 * (p2 j * (pw q * val a)) < pw (q + a.length + 1) := by
  rw [show q + a.length + 1 = q + (a.length + 1) by omega, pw_add, pw_succ]
  have h1 := val_hi h
  have h2 := val_lo h
  have h3 := pw_pos q
  have h4 : p2 j ≤ 2147483648 := p2_mono (a := j) (b := 31) (by omega)
  have h5 := p2_pos j
  have h6 : p2 j * (pw q * val a) ≤ 2147483648 * (pw q * val a) := Int.mul_le_mul_of_nonneg_right h4 (Int.mul_nonneg (by omega) h2)
  have h7 : pw q * (val a + 1) ≤ pw q * pw a.length := Int.mul_le_mul_of_nonneg_left (by omega) (by omega)
  rw [Int.mul_add] at h7
  have h8 : pw q * (4294967296 * pw a.length) = 4294967296 * (pw q * pw a.length) := Int.mul_left_comm _ _ _
  rw [h8]
  omega
set_option maxHeartbeats 2000000 in
theorem cnt_Shift (A : Option Addr) (ca : Nat) (a : List Int) (k : Int) (K : Nat) (w : World) (hA : RI w w.heap.size A a) (ha : Dig a) (hal : a.length ≤ 100000000) (hK : K ≤ 4096) (hk : min (max k 0) 4096 = (K : Int)) :
    Calls Try.prog 23 #[.slice A a.length ca, .int .i64 k] w fun e w' => Res w w' (p2 K * val a) (K / 32 + a.length + 1) e := by
  have HA := Lib.hid hA
  have HDa := Lib.hid ha
  obtain ⟨q, hq⟩ : ∃ q, q = K / 32 := ⟨_, rfl⟩
  obtain ⟨r, hr⟩ : ∃ r, r = K % 32 := ⟨_, rfl⟩
  have hq1 : (K : Int) / 32 = (q : Int) := by omega
  have hr1 : (K : Int) % 32 = (r : Int) := by omega
  have hqK : q ≤ 128 := by omega
  have hmk := run_mk (q + a.length + 1) (by omega)
  have HK := Lib.hid hk
  have HQ : Hid (q = K / 32 ∧ r = K % 32) := Lib.hid ⟨hq, hr⟩
  clear hA ha hk hq hr
  go_enter Try.func23, Try.ntmps23
  have en : ((q + a.length + 1 : Nat) : Int) = (q : Int) + (a.length : Int) + 1 := by omega
  rw [en] at hmk
  go_upto_region 2 with (fail)
  rw [HK.out]
  go_wp2_with ((with_reducible refine wpList_copy_splice rfl _ _ 24 24 rfl 62 Try.underlying24 (by kernel_rfl) (some ⟨w.heap.size, q, none⟩) A (q + a.length + 1 - q) (q + a.length + 1 - q) a.length ca rfl rfl w.heap.size q ((List.replicate (q + a.length + 1) (0 : Int)).map (Value.int .u32)) 62 ?hg (a.map (Value.int .u32)) ?hn ?hpos ?hfit ?h1 w.heap.size w ((Below.refl _ _).alloc (Nat.le_refl _) _) (Nat.le_refl _) ?_))
  case hg => exact Blk.new _ _ _
  case hn => rw [List.length_map]; exact (Nat.min_eq_left (by omega)).symm
  case hfit => simp
  case hpos =>
    intro hp
    obtain ⟨b, off, rfl, hb, hc⟩ := HA.out (by simpa using hp)
    refine ⟨_, rfl, fun j v hj => ?_⟩
    rw [World.cell?_alloc_lt _ _ _ (by unfold Addr.add; split <;> exact hb)]
    exact copy_at hc j _ (by rw [List.getElem?_map, hj]; rfl)
  case h1 => intro v hv; rw [List.mem_map] at hv; obtain ⟨_, _, rfl⟩ := hv; rfl
  intro w1 hsp hb1
  have HB1 : Hid (Blk w1 w.heap.size 62 (intRow (splice (List.replicate (q + a.length + 1) 0) q a))) := Lib.hid (by
    have h0 : w1.heap[w.heap.size]? = some (.cells (splice ((List.replicate (q + a.length + 1) (0 : Int)).map (Value.int .u32)) q (a.map (Value.int .u32))).toArray 62 (0, 0)) := by
      rw [List.map_replicate]; exact hsp.out
    rw [splice_map] at h0
    exact h0)
  clear hsp hmk
  go_wp2
  rw [hr1]
  go_loopw [24] (fun i wr => ∃ (j : Nat) (t : List Int), j ≤ r ∧ i = .int .i64 (j : Int) ∧ t.length = q + a.length + 1 ∧ Hid (Blk wr w.heap.size 62 (intRow t)) ∧ Hid (Dig t ∧ val t = p2 j * (pw q * val a)) ∧ Below w.heap.size w wr) (fun i _ => r - (intOf i).toNat)
  case atStart => exact ⟨0, splice (List.replicate (q + a.length + 1) 0) q a, Nat.zero_le _, rfl, by rw [length_splice _ _ _ (by simp)]; simp, HB1, Lib.hid ⟨dig_pad q HDa.out, by rw [val_pad]; unfold p2; simp⟩, hb1⟩
  case round =>
    obtain ⟨j, t, hj, rfl, htl, HT, HV, hb⟩ := hrel
    by_cases hlt : j < r
    · have hlt' : (j : Int) < (r : Int) := by omega
      have HC := cnt_double w.heap.size (q + a.length + 1) t wr HT.out HV.out.1 (by omega) (by rw [HV.out.2, htl]; exact pad_room HDa.out q j (by have := HQ.out.2; omega))
      rw [htl] at HC
      have HC2 := Lib.hid HC
      clear HC
      go_wp2_with (go_at_call 40; refine HC2.out.mono ?_; rintro e w2 ⟨t2, rfl, hB2, hD2, hl2, hv2, hb2⟩; have HB2 := Lib.hid hB2; have HD2 := Lib.hid hD2; have HV2 := Lib.hid hv2; have hbb := hb2 w.heap.size (Nat.le_refl _); clear hB2 hD2 hv2 hb2)
      go_roundw
      case rel =>
        exact ⟨j + 1, t2, by omega, by go_num, by omega, HB2, Lib.hid ⟨HD2.out, by rw [HV2.out, HV.out.2, p2_succ, Int.mul_assoc]⟩, hb.trans hbb⟩
      case measure => simp [intOf]; omega
    · obtain rfl : j = r := by omega
      have HX : Hid (val t = p2 K * val a) := Lib.hid (by
        have h1 := HQ.out.1
        have h2 := HQ.out.2
        rw [HV.out.2, show K = j + 32 * q by omega, p2_add, p2_pw, Int.mul_assoc])
      have HO : Hid (Own wr w.heap.size (.slice (some ⟨w.heap.size, 0, none⟩) t.length t.length) t) := Lib.hid (own_blk HT.out (Nat.le_refl _) (by unfold maxLen; omega))
      have HC2 := trim_res HO.out HV.out.1 HX.out (show t.length ≤ K / 32 + a.length + 1 by rw [← HQ.out.1]; omega) (by omega) hb
      rw [htl] at HC2
      have HC3 := Lib.hid HC2
      clear HC2
      go_wp2_with (go_at_call 36; refine HC3.out.mono ?_; rintro e w2 ⟨v', s', rfl, hR⟩; have HR := Lib.hid hR; clear hR)
      go_ret
      exact ⟨v', s', rfl, HR.out⟩
end Go.Proofs.Ytjnabmchejdhpaa
