/- TermsChecks's walk; layer 30 (terms). -/
import Derived.Test.YtcdpjodnbegepaaNd
import Derived.Test.YtcdpjodnbegepaaNg
import Derived.Test.YtcdpjodnbegepaaFnD
import Derived.Test.YtcdpjodnbegepaaFn5
import Derived.Test.YtcdpjodnbegepaaFnW
namespace Go.Proofs.Ytcdpjodnbegepaa
open Go.RowKit

set_option maxRecDepth 100000 in
set_option maxHeartbeats 8000000 in
theorem termsChecks_walk (t : Ex) (A : Option Addr) (c : Nat) (w : World) (hR : Rep w.heap.size w A t) (hs : t.sz ≤ 100000000) :
    Calls Try.prog 3 #[exV t A c] w (RetT w) := by
  obtain ⟨W, hW⟩ : ∃ W, w.alloc (.cells #[.int .i64 t.op, .int .i64 t.vr, .string t.nm, .slice A t.ks.length c] 24) = W := ⟨_, rfl⟩
  have hk : Blk W w.heap.size 24 #[.int .i64 t.op, .int .i64 t.vr, .string t.nm, .slice A t.ks.length c] := by rw [← hW]; exact Blk.new _ _ _
  have hbW : Below w.heap.size w W := by rw [← hW]; exact al (Below.refl _ _) _
  have HX : Hid (∀ wx, Below W.heap.size W wx → (wx.cell? ⟨w.heap.size, 0, none⟩ = some (.int .i64 t.op) ∧ wx.cell? ⟨w.heap.size, 1, none⟩ = some (.int .i64 t.vr) ∧ wx.cell? ⟨w.heap.size, 2, none⟩ = some (.string t.nm) ∧ wx.cell? ⟨w.heap.size, 3, none⟩ = some (.slice A t.ks.length c)) ∧ Rep wx.heap.size wx A t ∧ Below w.heap.size w wx ∧ w.heap.size < wx.heap.size) := Lib.hid (fun wx h => by
    have k := hk.below h hk.lt
    exact ⟨⟨k.cell 0, k.cell 1, k.cell 2, k.cell 3⟩, hR.step (bt hbW h), bt hbW h, k.lt⟩)
  have HRW : Hid (∀ wx, Below W.heap.size W wx → Rep wx.heap.size wx A t) := Lib.hid (fun wx h => (HX.out wx h).2.1)
  have HLT : Hid (∀ wx, Below W.heap.size W wx → Calls Try.prog 9 #[exV t A c] wx fun e w' => e = .returned (.bool (lightS t)) ∧ Below wx.heap.size wx w') := Lib.hid (fun wx h => lw_Light t A c wx hs (HRW.out wx h))
  have HLV := Lib.hid law_lives
  have H11 : Hid (∀ wx, Below W.heap.size W wx → Calls Try.prog 11 #[exV t A c] wx (NamP (setK (occ 3 t)) (setK (occ 4 t)) wx)) := Lib.hid (fun wx h => pr_Names t A c wx hs (HRW.out wx h))
  have H12 : Hid (∀ wx, Below W.heap.size W wx → Calls Try.prog 12 #[exV t A c] wx (NamS (setK (occ 3 t)) (setK (occ 4 t)) wx)) := Lib.hid (fun wx h => rf_Names t A c wx hs (HRW.out wx h))
  have H13 : Hid (∀ wx, Below W.heap.size W wx → Calls Try.prog 13 #[exV t A c] wx fun e w' => e = .returned (.tuple #[.int .i64 (t.sz : Nat), .int .i64 (t.dp : Nat)]) ∧ Below wx.heap.size wx w') := Lib.hid (fun wx h => rf_Parts t.sz t (Nat.le_refl _) hs A c wx (HRW.out wx h))
  have H14 : Hid (∀ wx, Below W.heap.size W wx → Calls Try.prog 14 #[exV t A c] wx fun e w' => e = .returned (.int .i64 (chkE t)) ∧ Below wx.heap.size wx w') := Lib.hid (fun wx h => pr_Check t A c wx hs (HRW.out wx h))
  have H15 : Hid (∀ wx, Below W.heap.size W wx → Calls Try.prog 15 #[exV t A c] wx fun e w' => e = .returned (.int .i64 (chkE t)) ∧ Below wx.heap.size wx w') := Lib.hid (fun wx h => rf_Check t A c wx hs (HRW.out wx h))
  have H17 : Hid (∀ wx, Below W.heap.size W wx → Calls Try.prog 17 #[exV t A c] wx fun e w' => e = .returned (.int .i64 (t.sz : Nat)) ∧ Below wx.heap.size wx w') := Lib.hid (fun wx h => pr_Size t A c wx hs (HRW.out wx h))
  have H18 : Hid (∀ wx, Below W.heap.size W wx → Calls Try.prog 18 #[exV t A c] wx fun e w' => e = .returned (.int .i64 (t.dp : Nat)) ∧ Below wx.heap.size wx w') := Lib.hid (fun wx h => pr_Deep t A c wx hs (HRW.out wx h))
  have hl3 : (setK (occ 3 t)).length ≤ 1000000000 := by have := setK_le (occ 3 t); have := occ_le 3 t; omega
  have hl4 : (setK (occ 4 t)).length ≤ 1000000000 := by have := setK_le (occ 4 t); have := occ_le 4 t; omega
  have HWW := Lib.hid hW
  have HR0 : Hid (Below W.heap.size W W) := Lib.hid (Below.refl _ _)
  obtain ⟨⟨q0, q1, q2, q3⟩, _, _, ql⟩ := HX.out W HR0.out
  show Calls Try.prog 3 #[.agg #[.int .i64 t.op, .int .i64 t.vr, .string t.nm, .slice A t.ks.length c]] w _
  clear hW hk hbW hR hs HRW
  generalize setK (occ 3 t) = L at *
  generalize setK (occ 4 t) = M at *
  generalize chkE t = K at *
  generalize t.sz = Z at *
  generalize t.dp = D at *
  have e1 : (K == K) = true := by simp
  have e2 : ((Z : Int) == (Z : Int)) = true := by simp
  have e3 : ((D : Int) == (D : Int)) = true := by simp
  obtain ⟨lt, hlt⟩ : ∃ lt, lightS t = lt := ⟨_, rfl⟩
  rw [hlt] at HLT
  clear hlt
  cases lt
  · go_enter Try.func3, Try.ntmps3
    go_upto_region 1 with (go_at_call 999)
    rw [HWW.out]
    go_wp2_with (first
      | (go_at_call 10; (with_reducible refine (HLV.out _).mono ?_); rintro e w2 ⟨rfl, hb2⟩; have HB2 := Lib.hid (bt HB1.out hb2); clear hb2)
      | (go_at_call 9; (with_reducible refine (HLT.out _ HR0.out).mono ?_); rintro e w1 ⟨rfl, hb1⟩; have HB1 := Lib.hid hb1; clear hb1))
    go_ret
    exact ⟨rfl, (HX.out _ HB2.out).2.2.1⟩
  go_enter Try.func3, Try.ntmps3
  go_upto_region 1 with (go_at_call 999)
  rw [HWW.out]
  go_upto_region 6 with (first
    | (go_at_call 13; (with_reducible refine (H13.out _ HB3.out).mono ?_); rintro e w4 ⟨rfl, hb4⟩; have hbb := bt HB3.out hb4; have RA := Lib.hid (P3.out.step (bt S3.out hb4)); have RB := Lib.hid (Q3.out.step (bt S3.out hb4)); have RC := Lib.hid (P4.out.step hb4); have RD := Lib.hid (Q4.out.step hb4); have HB4 := Lib.hid hbb; clear hb4 hbb)
    | (go_at_call 12; (with_reducible refine (H12.out _ HB2.out).mono ?_); rintro e w3 ⟨A4, c4, B4, d4, rfl, hp, hq, hb3⟩; have hbb := bt HB2.out hb3; have P4 := Lib.hid hp; have Q4 := Lib.hid hq; have S3 := Lib.hid hb3; obtain ⟨⟨v0, v1, v2, v3⟩, _, _, vl⟩ := HX.out _ hbb; have HB3 := Lib.hid hbb; clear hb3 hbb hp hq)
    | (go_at_call 11; (with_reducible refine (H11.out _ HB1.out).mono ?_); rintro e w2 ⟨A3, c3, B3, d3, rfl, hp, hq, hb2⟩; have hbb := bt HB1.out hb2; have P3 := Lib.hid hp; have Q3 := Lib.hid hq; obtain ⟨⟨u0, u1, u2, u3⟩, _, _, ul⟩ := HX.out _ hbb; have HB2 := Lib.hid hbb; clear hb2 hbb hp hq)
    | (go_at_call 9; (with_reducible refine (HLT.out _ HR0.out).mono ?_); rintro e w1 ⟨rfl, hb1⟩; have HB1 := Lib.hid hb1; obtain ⟨⟨s0, s1, s2, s3⟩, _, _, sl⟩ := HX.out _ hb1; clear hb1))
  have HT1 : Hid (∀ wx, Below w4.heap.size w4 wx → Calls Try.prog 16 #[.slice A3 L.length c3, .slice A4 L.length c4] wx fun e w' => e = .returned (.bool true) ∧ Below wx.heap.size wx w') := Lib.hid (fun wx h => rf_Texts L A3 A4 c3 c4 wx (RA.out.step h) (RC.out.step h) hl3)
  have HT2 : Hid (∀ wx, Below w4.heap.size w4 wx → Calls Try.prog 16 #[.slice B3 M.length d3, .slice B4 M.length d4] wx fun e w' => e = .returned (.bool true) ∧ Below wx.heap.size wx w') := Lib.hid (fun wx h => rf_Texts M B3 B4 d3 d4 wx (RB.out.step h) (RD.out.step h) hl4)
  have HY : Hid (∀ wx, Below w4.heap.size w4 wx → (wx.cell? ⟨w.heap.size, 0, none⟩ = some (.int .i64 t.op) ∧ wx.cell? ⟨w.heap.size, 1, none⟩ = some (.int .i64 t.vr) ∧ wx.cell? ⟨w.heap.size, 2, none⟩ = some (.string t.nm) ∧ wx.cell? ⟨w.heap.size, 3, none⟩ = some (.slice A t.ks.length c)) ∧ Below W.heap.size W wx) := Lib.hid (fun wx h => ⟨(HX.out wx (bt HB4.out h)).1, bt HB4.out h⟩)
  have HDR : Hid (Below w4.heap.size w4 w4.drew) := Lib.hid (Below.refl _ _).drew
  clear s0 s1 s2 s3 sl u0 u1 u2 u3 ul v0 v1 v2 v3 vl q0 q1 q2 q3 ql
  go_region_held3 (fun wx => wx.cell? ⟨w.heap.size, 0, none⟩ = some (.int .i64 t.op) ∧ wx.cell? ⟨w.heap.size, 1, none⟩ = some (.int .i64 t.vr) ∧ wx.cell? ⟨w.heap.size, 2, none⟩ = some (.string t.nm) ∧ wx.cell? ⟨w.heap.size, 3, none⟩ = some (.slice A t.ks.length c)) (first | with_reducible exact (HY.out _ HBb.out).1 | with_reducible exact (HY.out _ HBa.out).1 | with_reducible exact (HY.out _ HB9.out).1 | with_reducible exact (HY.out _ HB8.out).1 | with_reducible exact (HY.out _ HB7.out).1 | with_reducible exact (HY.out _ HB6.out).1 | with_reducible exact (HY.out _ HB5.out).1 | exact (HY.out _ HDR.out).1 | go_keep) ((first
    | (go_at_call 10; (with_reducible refine (HLV.out _).mono ?_); rintro e wb ⟨rfl, hbb⟩; have HBb := Lib.hid (bt HBa.out hbb); clear hbb)
    | (go_at_call 18; (with_reducible refine (H18.out _ (HY.out _ HB9.out).2).mono ?_); rintro e wa ⟨rfl, hba⟩; have HBa := Lib.hid (bt HB9.out hba); clear hba)
    | (go_at_call 17; (with_reducible refine (H17.out _ (HY.out _ HB8.out).2).mono ?_); rintro e w9 ⟨rfl, hb9⟩; have HB9 := Lib.hid (bt HB8.out hb9); clear hb9)
    | (go_at_call 16; (with_reducible refine (HT2.out _ HB7.out).mono ?_); rintro e w8 ⟨rfl, hb8⟩; have HB8 := Lib.hid (bt HB7.out hb8); clear hb8)
    | (go_at_call 16; (with_reducible refine (HT1.out _ HB6.out).mono ?_); rintro e w7 ⟨rfl, hb7⟩; have HB7 := Lib.hid (bt HB6.out hb7); clear hb7)
    | (go_at_call 15; (with_reducible refine (H15.out _ (HY.out _ HB5.out).2).mono ?_); rintro e w6 ⟨rfl, hb6⟩; have HB6 := Lib.hid (bt HB5.out hb6); clear hb6)
    | (go_at_call 14; (with_reducible refine (H14.out _ (HY.out _ HDR.out).2).mono ?_); rintro e w5 ⟨rfl, hb5⟩; have HB5 := Lib.hid (bt HDR.out hb5); clear hb5)))
  all_goals go_wp2
  all_goals go_ret
  all_goals exact ⟨rfl, (HX.out _ (HY.out _ HBb.out).2).2.2.1⟩
end Go.Proofs.Ytcdpjodnbegepaa
