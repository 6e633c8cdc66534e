/- The specification's parser of layer 7 (ptext): word, signs, named. -/
import Derived.Test.YtipapemcedkinaaPb
namespace Go.Proofs.Ytipapemcedkinaa
open Go.RowKit Go.PlainAid

set_option maxRecDepth 100000 in
set_option maxHeartbeats 2000000 in
theorem r_word (s wd : ByteArray) (k : Nat) (w : World) (hk : k ≤ s.size) (hs : s.size ≤ 65536) (hw : wd.size ≤ 8) (hz : ∀ i, i < wd.size → Go.PlainAid.bt wd i ≠ 0) :
    Calls Try.prog 30 #[.string s, .int .i64 (k : Int), .string wd] w fun e w' => e = .returned (.tuple #[.int .i64 ((wordL s (intsOf wd) k).1 : Int), .bool (wordL s (intsOf wd) k).2]) ∧ ∃ m, w' = w.drewN m := by
  have hb := get_bt wd
  have hb2 := get_bt s
  have HZ := Lib.hid hz
  clear hz
  obtain ⟨R, hR⟩ : ∃ R, wordL s (intsOf wd) k = R := ⟨_, rfl⟩
  rw [hR]
  have HR : Hid (wordL s ((intsOf wd).drop 0) (k + 0) = R) := Lib.hid hR
  clear hR
  go_enter Try.func30, Try.ntmps30
  go_wp2
  go_loopw [6, 7, 8] (fun r0 r1 i wr => ∃ (j kj m : Nat), kj = k + j ∧ j ≤ wd.size ∧ kj ≤ s.size ∧ r0 = .int .i64 0 ∧ r1 = .bool false ∧ i = .int .i64 (j : Int) ∧ Hid (wordL s ((intsOf wd).drop j) kj = R) ∧ wr = w.drewN m) (fun _ _ i _ => wd.size - (intOf i).toNat)
  case atStart => exact ⟨0, k, 0, rfl, Nat.zero_le _, hk, rfl, rfl, rfl, HR, rfl⟩
  case round =>
    obtain ⟨j, kj, m, ekj, hj, hkj, rfl, rfl, rfl, HV, rfl⟩ := hrel
    have EK := Lib.hid ekj
    have e1 : (k : Int) + (j : Int) = (kj : Int) := by omega
    have ew : IntKind.i64.wrap (kj : Int) = (kj : Int) := IntWalk.i64_in _ (by omega)
    clear HR
    by_cases hlt : j < wd.size
    · have h1 : (j : Int) < (wd.size : Int) := by omega
      have hst := wordL_step s wd hlt kj
      rw [HV.out] at hst
      by_cases hl2 : kj < s.size
      · have g1 : decide ((s.size : Int) ≤ (kj : Int)) = false := by simp; omega
        by_cases hc : Go.PlainAid.bt s kj = Go.PlainAid.bt wd j
        · have hd : (Go.PlainAid.bt s kj != Go.PlainAid.bt wd j) = false := by simp [hc]
          rw [if_pos hc] at hst
          have HS := Lib.hid hst
          clear hst hc HV ekj
          go_wp2_with fail
          go_quiet (fail)
          go_wp2
          go_roundw
          case rel => exact ⟨j + 1, kj + 1, _, by rw [EK.out]; omega, by omega, by omega, rfl, rfl, by go_num, Lib.hid HS.out.symm, rfl⟩
          case measure => simp [intOf]; omega
        · have hd : (Go.PlainAid.bt s kj != Go.PlainAid.bt wd j) = true := by simp [hc]
          rw [if_neg hc] at hst
          have HS := Lib.hid hst
          clear hst hc HV ekj
          go_wp2_with fail
          go_quiet (fail)
          go_wp2
          go_ret2
          rw [HS.out]
          exact ⟨rfl, _, rfl⟩
      · have g1 : decide ((s.size : Int) ≤ (kj : Int)) = true := by simp; omega
        rw [if_neg (by rw [bt_end s (by omega)]; exact fun e => HZ.out j hlt e.symm)] at hst
        have HS := Lib.hid hst
        clear hst HV ekj
        go_wp2_with fail
        go_quiet (fail)
        go_wp2
        go_ret2
        rw [HS.out]
        exact ⟨rfl, _, rfl⟩
    · obtain rfl : j = wd.size := by omega
      have h1 : ¬ (wd.size : Int) < (wd.size : Int) := by omega
      have hV := HV.out
      rw [List.drop_eq_nil_of_le (by rw [intsOf_len]; omega)] at hV
      have HV2 : Hid (R = (kj, true)) := Lib.hid hV.symm
      clear hV HV ekj
      go_wp2
      go_ret2
      rw [HV2.out]
      exact ⟨rfl, _, rfl⟩
end Go.Proofs.Ytipapemcedkinaa
