/- The specification's Spread for any numbers; layer 28 (events). -/
import Derived.Test.YtfppplalgdopjaaDoorEc
import Derived.Deep.Cut
namespace Go.Proofs.YtfppplalgdopjaaDoor
open Go.RowKit

set_option maxRecDepth 100000 in
set_option maxHeartbeats 8000000 in
theorem r_Spread_any (x many most vars : Int) (hv : -9223372036854775808 ≤ vars ∧ vars ≤ 9223372036854775807) (w : World) :
    Calls Tryd.prog 18 #[.int .u64 x, .int .i64 many, .int .i64 most, .int .i64 vars] w fun e w' => ∃ v, e = .returned v ∧ OwnE w' w.heap.size v (nearF many 0 256).toNat (spr (nearF most 1 1048576) vars x (nearF many 0 256).toNat) ∧ Below w.heap.size w w' := by
  obtain ⟨M, hM⟩ : ∃ M, (if 256 < many then 256 else many) = M := ⟨_, rfl⟩
  obtain ⟨U, hU⟩ : ∃ U, (if most < 1 then 1 else most) = U := ⟨_, rfl⟩
  obtain ⟨T, hT⟩ : ∃ T, (if 1048576 < U then 1048576 else U) = T := ⟨_, rfl⟩
  have hm : (nearF many 0 256).toNat = M.toNat := by rw [← hM]; unfold nearF; split <;> split <;> (try split) <;> omega
  have ht : nearF most 1 1048576 = T := by
    rw [← hT, ← hU]
    unfold nearF
    by_cases a : most < 1
    · rw [if_pos a, if_pos a, if_neg (by decide)]
    · rw [if_neg a, if_neg a]
  rw [hm, ht]
  have h1 : 1 ≤ T := by rw [← hT]; split at hU <;> split <;> omega
  have h2 : T ≤ 1048576 := by rw [← hT]; split <;> omega
  have h3 : ¬ 256 < M := by rw [← hM]; split <;> omega
  have HMM : Hid ((256 < many → 256 = M) ∧ (¬ 256 < many → many = M)) := Lib.hid ⟨fun h => by rw [← hM, if_pos h], fun h => by rw [← hM, if_neg h]⟩
  have HUU : Hid ((most < 1 → 1 = U) ∧ (¬ most < 1 → most = U)) := Lib.hid ⟨fun h => by rw [← hU, if_pos h], fun h => by rw [← hU, if_neg h]⟩
  have HTT : Hid ((1048576 < U → 1048576 = T) ∧ (¬ 1048576 < U → U = T)) := Lib.hid ⟨fun h => by rw [← hT, if_pos h], fun h => by rw [← hT, if_neg h]⟩
  clear hM hU hT hm ht
  have HN : Hid (∀ wx x, Calls Tryd.prog 33 #[.int .u64 x] wx fun e w' => e = .returned (.int .u64 (nx x)) ∧ wx = w') := Lib.hid (fun wx x => r_next x wx)
  have H0 : Hid (OwnE w w.heap.size (.slice none 0 0) 0 []) := Lib.hid ⟨rfl, rfl, .inl ⟨rfl, rfl⟩⟩
  have gm : IntKind.u64.wrap T = T := IntWalk.u64_in _ (by omega)
  have HV : Hid (-9223372036854775808 ≤ vars ∧ vars ≤ 9223372036854775807) := Lib.hid hv
  have HM : Hid (M ≤ 256) := Lib.hid (by omega)
  clear hv
  go_enter Tryd.func18, Tryd.ntmps18
  go_upto_if 16 with (fail)
  go_cut [1] from 15 (fun s1 wx => s1 = .int .i64 M ∧ w = wx)
  case first =>
    go_wp2
    all_goals
      go_meet
      case rel => exact ⟨by first | rw [← HMM.out.1 (by omega)] | rw [← HMM.out.2 (by omega)], rfl⟩
  case rest =>
  obtain ⟨rfl, rfl⟩ := hcut
  go_upto_if 18 with (fail)
  go_cut [2] from 15 (fun s1 wx => s1 = .int .i64 U ∧ w = wx)
  case first =>
    go_wp2
    all_goals
      go_meet
      case rel => exact ⟨by first | rw [← HUU.out.1 (by omega)] | rw [← HUU.out.2 (by omega)], rfl⟩
  case rest =>
  obtain ⟨rfl, rfl⟩ := hcut
  go_upto_if 20 with (fail)
  go_cut [2] from 15 (fun s1 wx => s1 = .int .i64 T ∧ w = wx)
  case first =>
    go_wp2
    all_goals
      go_meet
      case rel => exact ⟨by first | rw [← HTT.out.1 (by omega)] | rw [← HTT.out.2 (by omega)], rfl⟩
  case rest =>
  obtain ⟨rfl, rfl⟩ := hcut
  go_wp2_with fail
  go_loopw [0, 9, 10] (fun s0 s9 i wr => ∃ k : Nat, k ≤ M.toNat ∧ i = .int .i64 (k : Int) ∧ s0 = .int .u64 (sd x k) ∧ Hid (OwnE wr w.heap.size s9 k (spr T vars x k)) ∧ Hid (Below w.heap.size w wr)) (fun _ _ i _ => M.toNat - (intOf i).toNat)
  case atStart => exact ⟨0, Nat.zero_le _, rfl, rfl, H0, Lib.hid (Below.refl _ _)⟩
  case round =>
    obtain ⟨k, hk, rfl, rfl, HO, HB⟩ := hrel
    by_cases hlt : k < M.toNat
    · have l1 : (k : Int) < M := by omega
      go_upto_region 15 with (first | (go_at_call 33; refine (HN.out _ _).mono ?_; rintro e w' ⟨rfl, rfl⟩))
      have ba := nx_bd (sd x k)
      generalize ea : nx (sd x k) = a at *
      have bb := nx_bd a
      generalize eb : nx a = b at *
      have bc := nx_bd b
      generalize ec : nx b = c at *
      obtain ⟨P, hP⟩ : ∃ P, a / 8589934592 % T = P := ⟨_, rfl⟩
      obtain ⟨R, hR⟩ : ∃ R, b / 8589934592 % 3 = R := ⟨_, rfl⟩
      have p0 : 0 ≤ P := by rw [← hP]; exact Int.emod_nonneg _ (by omega)
      have p1 : P < T := by rw [← hP]; exact Int.emod_lt_of_pos _ (by omega)
      have r0 : 0 ≤ R ∧ R < 3 := by omega
      have hev : evOf T vars (sd x k) = (if 1 + R = 2 then (if vars < 2 then ⟨1 + P, 1, 0⟩ else ⟨1 + P, 2, c / 8589934592 % (vars - 1)⟩) else ⟨1 + P, 1 + R, 0⟩) := by
        unfold evOf
        dsimp only
        rw [ea, eb, ec, hP, hR]
      have hsd : sd x (k + 1) = c := by show nx (nx (nx (sd x k))) = c; rw [ea, eb, ec]
      have HSD := Lib.hid hsd
      have hk6 : k ≤ 1000000 := by have := HM.out; omega
      have HK6 := Lib.hid hk6
      have fin : ∀ E : Ev, evOf T vars (sd x k) = E → Hid (spr T vars x (k + 1) = spr T vars x k ++ [E]) := fun E hE => Lib.hid (by rw [← hE]; rfl)
      have HW : Hid (∀ o, OwnE (wr.alloc o) w.heap.size u9 k (spr T vars x k) ∧ w.heap.size ≤ (wr.alloc o).heap.size ∧ Below w.heap.size w (wr.alloc o)) := Lib.hid (fun o => ⟨⟨HO.out.1, own_keep HO.out.2 ((Below.refl _ _).alloc (Nat.le_refl _) _)⟩, by have := HB.out.size; simp; omega, HB.out.alloc HB.out.size _⟩)
      go_upto_region 16 with (fail)
      clear hP ba bb p0 p1
      by_cases hR1 : R = 1
      · subst hR1
        by_cases hv2 : vars < 2
        · have HE := fin ⟨1 + P, 1, 0⟩ (by rw [hev, if_pos (by omega), if_pos hv2])
          clear fin hev hsd ea eb ec hR bc hk6
          go_upto_region 20 with (fail)
          go_upto_region 10 with (at_builtin; (refine wpList_app_ev rfl (.tmp 65) (.tmp 67) rfl (wr.alloc (.cells #[.int .i64 (1 + P), .int .i64 1, .int .i64 0] 47)) w.heap.size k u9 (spr T vars x k) rfl (HW.out _).1 (1 + P) 1 0 (wr.heap.size + 1) (by simp) rfl (HW.out _).2.1 HK6.out ?_); intro v4 w4 hO4 hb4; have HO2 := Lib.hid hO4; have HB2 := Lib.hid ((HW.out _).2.2.trans hb4); clear hO4 hb4)
          go_wp2
          go_roundw
          case rel => exact ⟨k + 1, by omega, by go_num, by rw [HSD.out], by rw [HE.out]; exact HO2, HB2⟩
          case measure => simp [intOf]; omega
        · have hv3 : IntKind.i64.wrap (vars - 1) = vars - 1 := IntWalk.i64_in _ (by have := HV.out; omega)
          have hv4 : wrap64 (vars - 1) = vars - 1 := by have := HV.out; unfold wrap64; omega
          have hv5 : IntKind.u64.wrap (vars - 1) = vars - 1 := IntWalk.u64_in _ (by have := HV.out; omega)
          obtain ⟨L, hL⟩ : ∃ L, c / 8589934592 % (vars - 1) = L := ⟨_, rfl⟩
          have q0 : 0 ≤ L := by rw [← hL]; exact Int.emod_nonneg _ (by omega)
          have q1 : L < vars - 1 := by rw [← hL]; exact Int.emod_lt_of_pos _ (by omega)
          have q2 : L ≤ 9223372036854775807 := by have := HV.out; omega
          have q3 : vars - 1 ≠ 0 := by omega
          have q4 : 0 ≤ vars - 1 := by omega
          have q5 : ((vars - 1) == 0) = false := by simp [q3]
          have HE := fin ⟨1 + P, 2, L⟩ (by rw [hev, if_pos (by omega), if_neg hv2, hL])
          clear fin hev hsd ea eb ec hR hk6
          go_upto_region 20 with (fail)
          go_upto_region 10 with (at_builtin; (refine wpList_app_ev rfl (.tmp 65) (.tmp 67) rfl (wr.alloc (.cells #[.int .i64 (1 + P), .int .i64 2, .int .i64 L] 47)) w.heap.size k u9 (spr T vars x k) rfl (HW.out _).1 (1 + P) 2 L (wr.heap.size + 1) (by simp) rfl (HW.out _).2.1 HK6.out ?_); intro v4 w4 hO4 hb4; have HO2 := Lib.hid hO4; have HB2 := Lib.hid ((HW.out _).2.2.trans hb4); clear hO4 hb4)
          go_wp2
          go_roundw
          case rel => exact ⟨k + 1, by omega, by go_num, by rw [HSD.out], by rw [HE.out]; exact HO2, HB2⟩
          case measure => simp [intOf]; omega
      · have HE := fin ⟨1 + P, 1 + R, 0⟩ (by rw [hev, if_neg (by omega)])
        have hR2 : ¬ 1 + R = 2 := by omega
        have hR3 : (1 + R == 2) = false := by simp [hR2]
        clear fin hev hsd ea eb ec hR bc hk6
        go_upto_region 20 with (fail)
        go_upto_region 10 with (at_builtin; (refine wpList_app_ev rfl (.tmp 65) (.tmp 67) rfl (wr.alloc (.cells #[.int .i64 (1 + P), .int .i64 (1 + R), .int .i64 0] 47)) w.heap.size k u9 (spr T vars x k) rfl (HW.out _).1 (1 + P) (1 + R) 0 (wr.heap.size + 1) (by simp) rfl (HW.out _).2.1 HK6.out ?_); intro v4 w4 hO4 hb4; have HO2 := Lib.hid hO4; have HB2 := Lib.hid ((HW.out _).2.2.trans hb4); clear hO4 hb4)
        go_wp2
        go_roundw
        case rel => exact ⟨k + 1, by omega, by go_num, by rw [HSD.out], by rw [HE.out]; exact HO2, HB2⟩
        case measure => simp [intOf]; omega
    · have l1 : ¬ (k : Int) < M := by omega
      obtain rfl : k = M.toNat := by omega
      go_wp2
      go_ret
      exact ⟨_, rfl, HO.out, HB.out⟩
end Go.Proofs.YtfppplalgdopjaaDoor
