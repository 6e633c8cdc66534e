/- The program's generated events; layer 28 (events). -/
import Derived.Test.YtfppplalgdopjaaDoorFn2
namespace Go.Proofs.YtfppplalgdopjaaDoor
open Go.RowKit

/-- What a draw leaves: the box g holds the next seed, all else is as it was. -/
def Dr (w w' : World) (g : Nat) (y : Int) : Prop := w' = w.setCell ⟨g, 0, none⟩ (.int .u64 y)
theorem Dr.blk {w w' : World} {g : Nat} {y x : Int} (h : Dr w w' g y) (hb : Blk w g 42 #[.int .u64 x]) : Blk w' g 42 #[.int .u64 y] := by
  rw [h]; exact hb.set_ 0 _
theorem Dr.size {w w' : World} {g : Nat} {y : Int} (h : Dr w w' g y) : w'.heap.size = w.heap.size := by rw [h]; simp
theorem Dr.below {w w0 w' : World} {g B : Nat} {y : Int} (h : Dr w w' g y) (hb : Below B w0 w) (hg : B ≤ g) : Below B w0 w' := by rw [h]; exact hb.setCell (p := ⟨g, 0, none⟩) hg _
theorem Dr.own {w w' : World} {g : Nat} {y : Int} (h : Dr w w' g y) {B n : Nat} {v : Value} {l : List Ev} (ho : OwnE w B v n l) (hg : g < B) : OwnE w' B v n l := by
  obtain ⟨h1, h2, h3⟩ := ho
  refine ⟨h1, h2, ?_⟩
  rcases h3 with h3 | ⟨b, cap, cur, hv, hb, hh, rest⟩
  · exact .inl h3
  · refine .inr ⟨b, cap, cur, hv, hb, ?_, rest⟩
    have hne : g ≠ b := by omega
    rw [h]
    simp only [World.setCell, Array.getElem?_modify, hne, if_false]
    exact hh
theorem e_draw2 (g : Nat) (x : Int) (w : World) (h : Blk w g 42 #[.int .u64 x]) :
    Calls Tryd.prog 31 #[.pointer (some ⟨g, 0, none⟩)] w fun e w' => e = .returned (.int .i64 (nx x / 8589934592)) ∧ Dr w w' g (nx x) := e_draw g x w h
set_option maxRecDepth 100000 in
set_option maxHeartbeats 4000000 in
theorem e_Spread (x many most vars : Int) (hv : -9223372036854775808 ≤ vars ∧ vars ≤ 9223372036854775807) (w : World) :
    Calls Tryd.prog 17 #[.int .u64 x, .int .i64 many, .int .i64 most, .int .i64 vars] w fun e w' => ∃ v, e = .returned v ∧ OwnE w' (w.heap.size + 1) v (nearF many 0 256).toNat (spr (nearF most 1 1048576) vars x (nearF many 0 256).toNat) ∧ Below w.heap.size w w' := by
  obtain ⟨mo, hmo⟩ : ∃ mo, nearF most 1 1048576 = mo := ⟨_, rfl⟩
  obtain ⟨m, hm⟩ : ∃ m : Nat, nearF many 0 256 = (m : Int) := ⟨(nearF many 0 256).toNat, by unfold nearF; split <;> (try split) <;> omega⟩
  have h1 : 1 ≤ mo ∧ mo ≤ 1048576 := by rw [← hmo]; unfold nearF; split <;> (try split) <;> omega
  have hm2 : m ≤ 256 := by have h : nearF many 0 256 ≤ 256 := (by unfold nearF; split <;> (try split) <;> omega); omega
  have H1 : Hid (∀ wx, Calls Tryd.prog 32 #[.int .i64 most, .int .i64 1, .int .i64 1048576] wx fun r w' => r = .returned (.int .i64 mo) ∧ wx = w') := Lib.hid (fun wx => by rw [← hmo]; exact e_Near most 1 1048576 wx)
  have H2 : Hid (∀ wx, Calls Tryd.prog 32 #[.int .i64 many, .int .i64 0, .int .i64 256] wx fun r w' => r = .returned (.int .i64 (m : Int)) ∧ wx = w') := Lib.hid (fun wx => by rw [← hm]; exact e_Near many 0 256 wx)
  rw [hm, hmo]
  simp only [Int.toNat_natCast]
  obtain ⟨h1a, h1b⟩ := h1
  have hm3 : (m : Int) ≤ 256 := by omega
  have hbx : Blk (w.alloc (.cells #[.int .u64 x] 42)) w.heap.size 42 #[.int .u64 x] := Blk.new _ _ _
  have H0 : Hid (OwnE (w.alloc (.cells #[.int .u64 x] 42)) (w.heap.size + 1) (.slice none 0 0) 0 []) := Lib.hid ⟨rfl, rfl, .inl ⟨rfl, rfl⟩⟩
  have HBX := Lib.hid hbx
  have HAL : Hid (Below w.heap.size w (w.alloc (.cells #[.int .u64 x] 42))) := Lib.hid ((Below.refl _ _).alloc (Nat.le_refl _) _)
  have HV := Lib.hid hv
  have HM2 := Lib.hid hm2
  clear hv hm hmo hbx hm2
  go_enter Tryd.func17, Tryd.ntmps17
  go_wp2_with (first
    | (go_at_call 32; (with_reducible refine (H2.out _).mono ?_); rintro e w' ⟨rfl, rfl⟩)
    | (go_at_call 32; (with_reducible refine (H1.out _).mono ?_); rintro e w' ⟨rfl, rfl⟩))
  go_loopw [10, 20] (fun s10 i wr => ∃ k : Nat, k ≤ m ∧ i = .int .i64 (k : Int) ∧ Hid (OwnE wr (w.heap.size + 1) s10 k (spr mo vars x k)) ∧ Hid (Blk wr w.heap.size 42 #[.int .u64 (sd x k)]) ∧ Hid (Below w.heap.size w wr)) (fun _ i _ => m - (intOf i).toNat)
  case atStart => exact ⟨0, Nat.zero_le _, rfl, H0, HBX, HAL⟩
  case round =>
    obtain ⟨k, hk, rfl, HO, HBk, HB⟩ := hrel
    by_cases hlt : k < m
    · have l1 : (k : Int) < (m : Int) := by omega
      go_upto_region 7 with (first
        | (go_at_call 31; (with_reducible refine (e_draw2 _ _ _ HB2.out).mono ?_); rintro e w3 ⟨rfl, hd⟩; have HD3 := Lib.hid hd; have HB3 := Lib.hid (hd.blk HB2.out); clear hd)
        | (go_at_call 31; (with_reducible refine (e_draw2 _ _ _ HB1.out).mono ?_); rintro e w2 ⟨rfl, hd⟩; have HD2 := Lib.hid hd; have HB2 := Lib.hid (hd.blk HB1.out); clear hd)
        | (go_at_call 31; (with_reducible refine (e_draw2 _ _ _ HBk.out).mono ?_); rintro e w1 ⟨rfl, hd⟩; have HD1 := Lib.hid hd; have HB1 := Lib.hid (hd.blk HBk.out); clear hd))
      have ba := nx_bd (sd x k)
      generalize ea : nx (sd x k) = a at *
      have bb := nx_bd a
      generalize eb : nx a = b at *
      have bc := nx_bd b
      generalize ec : nx b = c at *
      obtain ⟨P, hP⟩ : ∃ P, a / 8589934592 % mo = P := ⟨_, rfl⟩
      obtain ⟨R, hR⟩ : ∃ R, b / 8589934592 % 3 = R := ⟨_, rfl⟩
      have p0 : 0 ≤ P := by rw [← hP]; exact Int.emod_nonneg _ (by omega)
      have p1 : P < mo := by rw [← hP]; exact Int.emod_lt_of_pos _ (by omega)
      have r0 : 0 ≤ R ∧ R < 3 := by omega
      have a0 : 0 ≤ a / 8589934592 := by omega
      have b0 : 0 ≤ b / 8589934592 := by omega
      have c0 : 0 ≤ c / 8589934592 := by omega
      have hev : evOf mo vars (sd x k) = (if 1 + R = 2 then (if vars < 2 then ⟨1 + P, 1, 0⟩ else ⟨1 + P, 2, c / 8589934592 % (vars - 1)⟩) else ⟨1 + P, 1 + R, 0⟩) := by
        unfold evOf
        dsimp only
        rw [ea, eb, ec, hP, hR]
      have HSD : Hid (sd x (k + 1) = c) := Lib.hid (by show nx (nx (nx (sd x k))) = c; rw [ea, eb, ec])
      have HK6 : Hid (k ≤ 1000000) := Lib.hid (by have := HM2.out; omega)
      have fin : ∀ E : Ev, evOf mo vars (sd x k) = E → Hid (spr mo vars x (k + 1) = spr mo vars x k ++ [E]) := fun E hE => Lib.hid (by rw [← hE]; rfl)
      have HW : Hid (∀ o, OwnE (w3.alloc o) (w.heap.size + 1) u10 k (spr mo vars x k) ∧ w.heap.size + 1 ≤ (w3.alloc o).heap.size ∧ Below w.heap.size w (w3.alloc o) ∧ Blk (w3.alloc o) w.heap.size 42 #[.int .u64 c]) := Lib.hid (fun o => by
        have g1 := HD3.out.own (HD2.out.own (HD1.out.own HO.out (Nat.lt_succ_self _)) (Nat.lt_succ_self _)) (Nat.lt_succ_self _)
        have g2 := HD3.out.below (HD2.out.below (HD1.out.below HB.out (Nat.le_refl _)) (Nat.le_refl _)) (Nat.le_refl _)
        have g3 := HB3.out.lt
        exact ⟨⟨g1.1, own_keep g1.2 ((Below.refl _ _).alloc (Nat.le_refl _) _)⟩, by simp; omega, g2.alloc g2.size _, HB3.out.alloc _⟩)
      go_upto_region 9 with (fail)
      clear hP ba bb p0 p1 a0
      by_cases hR1 : R = 1
      · subst hR1
        by_cases hv2 : vars < 2
        · have HE := fin ⟨1 + P, 1, 0⟩ (by rw [hev, if_pos (by omega), if_pos hv2])
          clear fin hev ea eb ec hR bc b0 c0
          go_upto_region 12 with (fail)
          go_upto_region 13 with (at_builtin; (refine wpList_app_ev rfl (.tmp 49) (.tmp 51) rfl _ (w.heap.size + 1) k u10 (spr mo vars x k) rfl (HW.out _).1 (1 + P) 1 0 (w3.heap.size + 1) (by simp) rfl (HW.out _).2.1 HK6.out ?_); intro v4 w4 hO4 hb4; have HO2 := Lib.hid hO4; have HB2x := Lib.hid ((HW.out _).2.2.1.trans (hb4.mono (Nat.le_succ _))); have HBy := Lib.hid ((HW.out _).2.2.2.below hb4 (Nat.lt_succ_self _)); clear hO4 hb4)
          go_wp2
          go_roundw
          case rel => exact ⟨k + 1, by omega, by go_num, by rw [HE.out]; exact HO2, by rw [HSD.out]; exact HBy, HB2x⟩
          case measure => simp [intOf]; omega
        · have hv3 : IntKind.i64.wrap (vars - 1) = vars - 1 := IntWalk.i64_in _ (by have := HV.out; omega)
          have hv4 : wrap64 (vars - 1) = vars - 1 := by have := HV.out; unfold wrap64; omega
          obtain ⟨L, hL⟩ : ∃ L, c / 8589934592 % (vars - 1) = L := ⟨_, rfl⟩
          have q0 : 0 ≤ L := by rw [← hL]; exact Int.emod_nonneg _ (by omega)
          have q1 : L < vars - 1 := by rw [← hL]; exact Int.emod_lt_of_pos _ (by omega)
          have q2 : L ≤ 9223372036854775807 := by have := HV.out; omega
          have q3 : vars - 1 ≠ 0 := by omega
          have q4 : 0 ≤ vars - 1 := by omega
          have q5 : ((vars - 1) == 0) = false := by simp [q3]
          have HE := fin ⟨1 + P, 2, L⟩ (by rw [hev, if_pos (by omega), if_neg hv2, hL])
          clear fin hev ea eb ec hR b0
          go_upto_region 12 with (fail)
          go_upto_region 13 with (at_builtin; (refine wpList_app_ev rfl (.tmp 49) (.tmp 51) rfl _ (w.heap.size + 1) k u10 (spr mo vars x k) rfl (HW.out _).1 (1 + P) 2 L (w3.heap.size + 1) (by simp) rfl (HW.out _).2.1 HK6.out ?_); intro v4 w4 hO4 hb4; have HO2 := Lib.hid hO4; have HB2x := Lib.hid ((HW.out _).2.2.1.trans (hb4.mono (Nat.le_succ _))); have HBy := Lib.hid ((HW.out _).2.2.2.below hb4 (Nat.lt_succ_self _)); clear hO4 hb4)
          go_wp2
          go_roundw
          case rel => exact ⟨k + 1, by omega, by go_num, by rw [HE.out]; exact HO2, by rw [HSD.out]; exact HBy, HB2x⟩
          case measure => simp [intOf]; omega
      · have HE := fin ⟨1 + P, 1 + R, 0⟩ (by rw [hev, if_neg (by omega)])
        have hR2 : ¬ 1 + R = 2 := by omega
        have hR3 : (1 + R == 2) = false := by simp [hR2]
        clear fin hev ea eb ec hR bc b0 c0
        go_upto_region 12 with (fail)
        go_upto_region 13 with (at_builtin; (refine wpList_app_ev rfl (.tmp 49) (.tmp 51) rfl _ (w.heap.size + 1) k u10 (spr mo vars x k) rfl (HW.out _).1 (1 + P) (1 + R) 0 (w3.heap.size + 1) (by simp) rfl (HW.out _).2.1 HK6.out ?_); intro v4 w4 hO4 hb4; have HO2 := Lib.hid hO4; have HB2x := Lib.hid ((HW.out _).2.2.1.trans (hb4.mono (Nat.le_succ _))); have HBy := Lib.hid ((HW.out _).2.2.2.below hb4 (Nat.lt_succ_self _)); clear hO4 hb4)
        go_wp2
        go_roundw
        case rel => exact ⟨k + 1, by omega, by go_num, by rw [HE.out]; exact HO2, by rw [HSD.out]; exact HBy, HB2x⟩
        case measure => simp [intOf]; omega
    · have l1 : ¬ (k : Int) < (m : Int) := by omega
      obtain rfl : k = m := by omega
      go_wp2
      go_ret
      exact ⟨_, rfl, HO.out, HB.out⟩
end Go.Proofs.YtfppplalgdopjaaDoor
