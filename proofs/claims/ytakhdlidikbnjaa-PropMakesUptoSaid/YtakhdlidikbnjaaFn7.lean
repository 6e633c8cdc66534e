/- Contracts of measures, Size, Deep, of layer 6 (prop). -/
import Derived.Test.YtakhdlidikbnjaaFn6
namespace Go.Proofs.Ytakhdlidikbnjaa
open Go.RowKit

def meaS (t : Ex) : Int × Int := if chkE t = 0 then ((t.sz : Int), (t.dp : Int)) else (0, 0)
set_option maxRecDepth 100000 in
set_option maxHeartbeats 4000000 in
theorem pr_measures (t : Ex) (A : Option Addr) (c : Nat) (w : World) (hs : t.sz ≤ 100000000) (hR : Rep w.heap.size w A t) : Calls Try.prog 36 #[exV t A c] w (Two (meaS t) w) := by
  have HV : Hid (∀ (bn bf : Nat) W, InM bn bf (fun b => w.heap.size ≤ b) (0, 0) W → w.heap.size ≤ W.heap.size → Rep w.heap.size W A t → Calls Try.prog 28 #[exV t A c, .int .i64 1, .func (.func 47) #[] #[.pointer (some ⟨bn, 0, none⟩), .pointer (some ⟨bf, 0, none⟩)]] W (VisP (InM bn bf) (fun b => w.heap.size ≤ b) W (vis stM t 1 (0, 0)))) := Lib.hid (fun bn bf W hI hW hR => by
    refine pr_visit 47 _ (InM bn bf) stM w.heap.size (.pointer (some ⟨bn, 0, none⟩)) (.pointer (some ⟨bf, 0, none⟩)) (.inr (.inr ⟨rfl, rfl⟩)) (InM.kept bn bf) ?_ t.sz t (Nat.le_refl _) A c 1 _ _ W hI (fun b hb h => by omega) (fun b hb => by omega) hW hR (by omega) (by omega)
    intro S s w t A c d hI _ _ _ _ _ _
    exact pr_measures1 bn bf S s w t A c d hI)
  have HR := Lib.hid hR
  have HB : Hid (∀ o1 o2 o3, Below w.heap.size w (((w.alloc o1).alloc o2).alloc o3)) := Lib.hid (fun o1 o2 o3 => al (al (al (Below.refl _ _) _) _) _)
  have HC := Lib.hid (fun o1 o2 o3 => pr_Check t A c (((w.alloc o1).alloc o2).alloc o3) hs (hR.step (HB.out o1 o2 o3)))
  obtain ⟨R, hRR⟩ : ∃ R, meaS t = R := ⟨_, rfl⟩
  rw [hRR]
  unfold meaS at hRR
  clear hR
  obtain ⟨W, hW⟩ : ∃ W, ((w.alloc (.cells (exC t A c) 24)).alloc (.cells #[.int .i64 0] 3)).alloc (.cells #[.int .i64 0] 3) = W := ⟨_, rfl⟩
  have hz : W.heap.size = w.heap.size + 1 + 1 + 1 := by rw [← hW]; simp
  have hX : Blk W w.heap.size 24 (exC t A c) ∧ Blk W (w.heap.size + 1) 3 #[.int .i64 0] ∧ Blk W (w.heap.size + 1 + 1) 3 #[.int .i64 0] ∧ Below w.heap.size w W := by
    have b0 := Blk.new w 24 (exC t A c)
    have b1 := Blk.new (w.alloc (.cells (exC t A c) 24)) 3 #[.int .i64 0]
    have b2 := Blk.new ((w.alloc (.cells (exC t A c) 24)).alloc (.cells #[.int .i64 0] 3)) 3 #[.int .i64 0]
    have z1 : (w.alloc (.cells (exC t A c) 24)).heap.size = w.heap.size + 1 := by simp
    have z2 : ((w.alloc (.cells (exC t A c) 24)).alloc (.cells #[.int .i64 0] 3)).heap.size = w.heap.size + 1 + 1 := by simp
    rw [z1] at b1
    rw [z2] at b2
    rw [← hW]
    exact ⟨(b0.alloc _).alloc _, b1.alloc _, b2, HB.out _ _ _⟩
  have HW := Lib.hid hW
  have HX := Lib.hid hX
  have HZ := Lib.hid hz
  have HCW := HC.out (.cells (exC t A c) 24) (.cells #[.int .i64 0] 3) (.cells #[.int .i64 0] 3)
  rw [hW] at HCW
  have HCC := Lib.hid HCW
  clear hX hW hz HC HCW
  by_cases hc : chkE t = 0
  · have X : Hid (R = ((t.sz : Int), (t.dp : Int))) := Lib.hid (by rw [← hRR, if_pos hc])
    have HCE := Lib.hid hc
    clear hRR hc
    have hM : (vis stM t 1 (0, 0)).1 = ((t.sz : Int), (t.dp : Int)) := by
      rw [vis_m t 1 0 0 (by omega) (by omega)]
      refine Prod.ext ?_ ?_
      · show 0 + (t.sz : Int) = t.sz; omega
      · show max 0 (1 - 1 + (t.dp : Int)) = t.dp; omega
    have HM := Lib.hid hM
    clear hM
    have HI : Hid (∀ w1, Below W.heap.size W w1 → InM (w.heap.size + 1) (w.heap.size + 1 + 1) (fun b => w.heap.size ≤ b) (0, 0) w1 ∧ w.heap.size ≤ w1.heap.size ∧ Rep w.heap.size w1 A t ∧ Below w.heap.size w w1) := Lib.hid (fun w1 hb => by
      have hww := HX.out.2.2.2.trans (hb.mono HX.out.2.2.2.size)
      exact ⟨⟨by omega, by omega, by omega, HX.out.2.1.below hb HX.out.2.1.lt, HX.out.2.2.1.below hb HX.out.2.2.1.lt⟩, hww.size, HR.out.under hww, hww⟩)
    go_enter Try.func36, Try.ntmps36
    go_upto_region 4 with (first
      | (go_at_call 11; rw [HW.out]; (with_reducible refine HCC.out.mono ?_); rintro e w1 ⟨rfl, hb1⟩; rw [HCE.out]; have q0 : w1.cell? ⟨w.heap.size, 0, none⟩ = some (.int .i64 t.op) := (HX.out.1.below hb1 HX.out.1.lt).cell 0; have q1 : w1.cell? ⟨w.heap.size, 1, none⟩ = some (.int .i64 t.vr) := (HX.out.1.below hb1 HX.out.1.lt).cell 1; have q2 : w1.cell? ⟨w.heap.size, 2, none⟩ = some (.slice A t.ks.length c) := (HX.out.1.below hb1 HX.out.1.lt).cell 2; have HB1 := Lib.hid hb1; clear hb1)
      | (go_at_call 28; (with_reducible refine (HV.out _ _ w1 (HI.out w1 HB1.out).1 (HI.out w1 HB1.out).2.1 (HI.out w1 HB1.out).2.2.1).mono ?_); rintro e w2 ⟨rfl, hI2, hf2⟩; rw [HM.out] at hI2; have HI2 := Lib.hid hI2; have HF2 := Lib.hid hf2; clear hI2 hf2))
    have p1 : w2.cell? ⟨w.heap.size + 1, 0, none⟩ = some (.int .i64 (t.sz : Int)) := HI2.out.2.2.2.1.cell 0
    have p2 : w2.cell? ⟨w.heap.size + 1 + 1, 0, none⟩ = some (.int .i64 (t.dp : Int)) := HI2.out.2.2.2.2.cell 0
    have r1 := HI2.out.2.2.2.1.frozen 0
    have r2 := HI2.out.2.2.2.2.frozen 0
    have l1 := HI2.out.2.2.2.1.lt
    have l2 := HI2.out.2.2.2.2.lt
    have hbw2 : Below w.heap.size w w2 := (HI.out w1 HB1.out).2.2.2.trans (HF2.out.below2 (fun k hk h => by omega) (HI.out w1 HB1.out).2.1)
    have HBW := Lib.hid hbw2
    clear hbw2
    go_region
    all_goals go_wp2_with fail
    have k1 := (HI2.out.2.2.2.1.set_ 0 (.int .i64 (t.sz : Int))).set_other (b := w.heap.size + 1 + 1) (by omega) 0 (.int .i64 (t.dp : Int))
    have k2 := (HI2.out.2.2.2.2.set_other (b := w.heap.size + 1) (by omega) 0 (.int .i64 (t.sz : Int))).set_ 0 (.int .i64 (t.dp : Int))
    have c1 := k1.cell 0
    have c2 := k2.cell 0
    have hfin : Below w.heap.size w ((w2.setCell ⟨w.heap.size + 1, 0, none⟩ (.int .i64 (t.sz : Int))).setCell ⟨w.heap.size + 1 + 1, 0, none⟩ (.int .i64 (t.dp : Int))).drew := ((HBW.out.setCell (by simp) _).setCell (by simp; omega) _).drew
    exact bodyPost_ret (v := .tuple #[.int .i64 (t.sz : Int), .int .i64 (t.dp : Int)]) (by simp at c1 c2; simp [results, Try.results36, go_sem, c1, c2]) rfl ⟨by rw [X.out], hfin⟩
  · have X : Hid (R = (0, 0)) := Lib.hid (by rw [← hRR, if_neg hc])
    have hc1 : (chkE t == 0) = false := by simp [hc]
    have hc2 : (chkE t != 0) = true := by simp [hc]
    clear hRR
    go_enter Try.func36, Try.ntmps36
    go_wp2_with (go_at_call 11; rw [HW.out]; (with_reducible refine HCC.out.mono ?_); rintro e w1 ⟨rfl, hb1⟩; have p1 : w1.cell? ⟨w.heap.size + 1, 0, none⟩ = some (.int .i64 0) := (HX.out.2.1.below hb1 HX.out.2.1.lt).cell 0; have p2 : w1.cell? ⟨w.heap.size + 1 + 1, 0, none⟩ = some (.int .i64 0) := (HX.out.2.2.1.below hb1 HX.out.2.2.1.lt).cell 0; have r1 := (HX.out.2.1.below hb1 HX.out.2.1.lt).frozen 0; have r2 := (HX.out.2.2.1.below hb1 HX.out.2.2.1.lt).frozen 0; have HB1 := Lib.hid hb1; clear hb1)
    have k1 := ((HX.out.2.1.below HB1.out HX.out.2.1.lt).set_ 0 (.int .i64 0)).set_other (b := w.heap.size + 1 + 1) (by omega) 0 (.int .i64 0)
    have k2 := ((HX.out.2.2.1.below HB1.out HX.out.2.2.1.lt).set_other (b := w.heap.size + 1) (by omega) 0 (.int .i64 0)).set_ 0 (.int .i64 0)
    have c1 := k1.cell 0
    have c2 := k2.cell 0
    have hww := HX.out.2.2.2.trans (HB1.out.mono HX.out.2.2.2.size)
    have hfin : Below w.heap.size w ((w1.setCell ⟨w.heap.size + 1, 0, none⟩ (.int .i64 0)).setCell ⟨w.heap.size + 1 + 1, 0, none⟩ (.int .i64 0)) := (hww.setCell (by simp) _).setCell (by simp; omega) _
    exact bodyPost_ret (v := .tuple #[.int .i64 0, .int .i64 0]) (by simp at c1 c2; simp [results, Try.results36, go_sem, c1, c2]) rfl ⟨by rw [X.out], hfin⟩
set_option maxHeartbeats 1000000 in
theorem pr_Size (t : Ex) (A : Option Addr) (c : Nat) (w : World) (hs : t.sz ≤ 100000000) (hR : Rep w.heap.size w A t) : Calls Try.prog 15 #[exV t A c] w fun e w' => e = .returned (.int .i64 (meaS t).1) ∧ Below w.heap.size w w' := by
  have HB : Hid (∀ ob, Below w.heap.size w (w.alloc ob)) := Lib.hid (fun ob => (Below.refl _ _).alloc (Nat.le_refl _) ob)
  have HC := Lib.hid (fun ob => pr_measures t A c (w.alloc ob) hs (hR.step (HB.out ob)))
  clear hR
  go_enter Try.func15, Try.ntmps15
  go_wp2_with (go_at_call 36; (with_reducible refine (HC.out _).mono ?_); rintro e w1 ⟨rfl, hb1⟩; have HB1 := Lib.hid hb1; clear hb1)
  go_ret
  exact ⟨rfl, bt (HB.out _) HB1.out⟩
set_option maxHeartbeats 1000000 in
theorem pr_Deep (t : Ex) (A : Option Addr) (c : Nat) (w : World) (hs : t.sz ≤ 100000000) (hR : Rep w.heap.size w A t) : Calls Try.prog 16 #[exV t A c] w fun e w' => e = .returned (.int .i64 (meaS t).2) ∧ Below w.heap.size w w' := by
  have HB : Hid (∀ ob, Below w.heap.size w (w.alloc ob)) := Lib.hid (fun ob => (Below.refl _ _).alloc (Nat.le_refl _) ob)
  have HC := Lib.hid (fun ob => pr_measures t A c (w.alloc ob) hs (hR.step (HB.out ob)))
  clear hR
  go_enter Try.func16, Try.ntmps16
  go_wp2_with (go_at_call 36; (with_reducible refine (HC.out _).mono ?_); rintro e w1 ⟨rfl, hb1⟩; have HB1 := Lib.hid hb1; clear hb1)
  go_ret
  exact ⟨rfl, bt (HB.out _) HB1.out⟩
end Go.Proofs.Ytakhdlidikbnjaa
