/- Contract of Int of layer 4 (cnt), over the translation. -/
import Derived.Test.YtjnabmchejdhpaaFnj
import Derived.IntWalk
namespace Go.Proofs.Ytjnabmchejdhpaa
open Go.RowKit

theorem join_u64' {r d : Int} (hr : 0 ≤ r) (hr2 : r < 4294967296) (hd : 0 ≤ d) (hd2 : d < 4294967296) : bits .or .u64 d (r * 4294967296) = d + r * 4294967296 := by
  rw [u64_or _ _ hd (by omega) (by omega) (by omega), Nat.or_comm, nat_join 32 _ _ (by
    have e : (r * 4294967296).toNat = r.toNat * 4294967296 := by omega
    rw [e]; omega) (by omega)]
  omega
theorem join_0 {d : Int} (hd : 0 ≤ d) (hd2 : d < 4294967296) : bits .or .u64 0 d = d := by
  rw [u64_or _ _ (by omega) (by omega) hd (by omega)]
  have e : (0 : Int).toNat = 0 := rfl
  rw [e, Nat.zero_or]
  omega
theorem pw2 : pw 2 = 18446744073709551616 := by decide +kernel
def intV (a : List Int) : Value := if val a ≤ 18446744073709551615 then .tuple #[.int .u64 (val a), .bool true] else .tuple #[.int .u64 0, .bool false]
set_option maxHeartbeats 4000000 in
theorem cnt_Int (A : Option Addr) (ca : Nat) (a : List Int) (w : World) (hA : Nm w A ca a) (hal : a.length ≤ 1000000) :
    Calls Try.prog 31 #[.slice A a.length ca] w fun e w' => e = .returned (intV a) ∧ Below w.heap.size w w' := by
  obtain ⟨t, ht⟩ : ∃ t, trimL a = t := ⟨_, rfl⟩
  have hD : Dig t := by rw [← ht]; exact trimL_dig hA.dig
  have hn : nrm t = true := by rw [← ht]; exact trimL_nrm a
  have hv : val t = val a := by rw [← ht]; exact trimL_val a
  have hR : RI w w.heap.size A t := by rw [← ht]; exact hA.row.take _
  have HT := Lib.hid (cnt_trim A ca a w hA.row (by omega) hA.cap hA.max)
  rw [ht] at HT
  have HR := Lib.hid hR
  have h1 := val_hi hD
  have h0 := val_lo hD
  have hp := pw2
  clear ht hA hR
  by_cases hl : 2 < t.length
  · have hX : Hid (intV a = .tuple #[.int .u64 0, .bool false]) := Lib.hid (by
      have h2 := nrm_low hD hn (fun e => by rw [e] at hl; simp at hl)
      have h3 := pw_mono (show 2 ≤ t.length - 1 by omega)
      unfold intV; rw [if_neg (by omega)])
    have hl' : (2 : Int) < (t.length : Int) := by omega
    go_enter Try.func31, Try.ntmps31
    go_wp2_with (go_at_call 36; refine HT.out.mono ?_; rintro e w1 ⟨rfl, hb1⟩)
    go_ret2
    exact ⟨by rw [hX.out]; rfl, hb1⟩
  · have hX : Hid (intV a = .tuple #[.int .u64 (val t), .bool true]) := Lib.hid (by
      have h3 := pw_mono (show t.length ≤ 2 by omega)
      unfold intV; rw [if_pos (by omega), hv])
    have hl' : ¬ (2 : Int) < (t.length : Int) := by omega
    have HD := Lib.hid hD
    clear h1 h0 hp hv hn hD
    go_enter Try.func31, Try.ntmps31
    go_wp2_with (go_at_call 36; refine HT.out.mono ?_; rintro e w1 ⟨rfl, hb1⟩)
    go_loopw [2, 13] (fun v i wr => ∃ (k : Nat), k ≤ t.length ∧ i = .int .i64 (k : Int) ∧ v = .int .u64 (val (t.take k)) ∧ w1 = wr) (fun _ i _ => t.length - (intOf i).toNat)
    case atStart => exact ⟨0, Nat.zero_le _, rfl, rfl, rfl⟩
    case round =>
      obtain ⟨k, hk, rfl, rfl, rfl⟩ := hrel
      by_cases hlt : k < t.length
      · have hlt' : (k : Int) < (t.length : Int) := by omega
        obtain ⟨b, o, rfl, hg, hc⟩ := HR.out (by omega)
        have e1 := (hb1.cell (p := ⟨b, o + k, none⟩) hg).trans (hc k hlt)
        have d1 := HD.out _ (li_mem (l := t) (i := k) hlt)
        have hst : val (t.take (k + 1)) = val (t.take k) + pw k * li t k := by
          rw [take_snoc hlt, val_snoc, take_len (by omega)]; rfl
        clear hc
        rcases k with _ | k
        · have e0 : val (t.take 0) = 0 := rfl
          have hj := join_0 d1.1 d1.2
          have HS : Hid (val (t.take (0 + 1)) = li t 0) := Lib.hid (by rw [hst, e0]; show 0 + 1 * _ = _; omega)
          have e1' : w1.cell? ⟨b, o, none⟩ = some (.int .u32 (li t 0)) := by simpa using e1
          rw [e0]
          clear hst e0 e1
          go_wp2
          go_roundw
          case rel => exact ⟨1, by omega, by go_num, by rw [HS.out], trivial⟩
          case measure => simp [intOf]; try omega
        · obtain rfl : k = 0 := by omega
          have HS : Hid (val (t.take (0 + 1 + 1)) = val (t.take (0 + 1)) + li t (0 + 1) * 4294967296) := Lib.hid (by rw [hst]; show _ + (4294967296 * 1) * _ = _; omega)
          have d2 := val_lo (HD.out.take (0 + 1))
          have d3 := val_hi (HD.out.take (0 + 1))
          have d4 : pw (t.take (0 + 1)).length ≤ pw 1 := pw_mono (by rw [List.length_take]; omega)
          have d5 : pw 1 = 4294967296 := by decide +kernel
          rw [d5] at d4
          have d6 : val (t.take (0 + 1)) < 4294967296 := by omega
          generalize val (t.take (0 + 1)) = n0 at *
          have hj := join_u64' d1.1 d1.2 d2 d6
          have HJ : Hid (bits .or .u64 n0 (IntKind.u64.wrap (IntKind.u64.wrap (li t 1) * 4294967296)) = n0 + li t 1 * 4294967296) := Lib.hid (by
            have b1 : 0 ≤ li t 1 := d1.1
            have b2 : li t 1 < 4294967296 := d1.2
            rw [IntWalk.u64_in (li t 1) (by omega), IntWalk.u64_in _ (by omega)]; exact hj)
          clear hst d3 d4 d5 hj
          go_wp2
          go_roundw
          case rel => exact ⟨2, by omega, by go_num, by rw [HS.out, HJ.out], trivial⟩
          case measure => simp [intOf]; try omega
      · have hlt' : ¬ (k : Int) < (t.length : Int) := by omega
        have HE : Hid (val (t.take k) = val t) := Lib.hid (by rw [List.take_of_length_le (by omega)])
        go_wp2
        go_ret2
        exact ⟨by rw [hX.out, ← HE.out]; rfl, hb1⟩
end Go.Proofs.Ytjnabmchejdhpaa
