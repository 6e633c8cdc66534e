/- PropChecks of layer 6 (prop): its walk, by the contract of lives. -/
import Derived.Test.YtakhdlidikbnjaaFn7
import Derived.Test.YtakhdlidikbnjaaFn9
import Derived.Test.YtakhdlidikbnjaaRv
import Derived.Test.YtakhdlidikbnjaaFnB
import Derived.Test.YtakhdlidikbnjaaFnP
import Derived.Deep.RegionHeld3
namespace Go.Proofs.Ytakhdlidikbnjaa
open Go.RowKit Go.PlainAid

def RetT (w : World) (e : Ending) (w' : World) : Prop := e = .returned (.bool true) ∧ Below w.heap.size w w'
def Thr (g : Nat) (o v : Int) (A : Option Addr) (n c : Nat) (w : World) : Prop :=
  w.cell? ⟨g, 0, none⟩ = some (.int .i64 o) ∧ w.cell? ⟨g, 1, none⟩ = some (.int .i64 v) ∧ w.cell? ⟨g, 2, none⟩ = some (.slice A n c)
set_option maxRecDepth 100000 in
set_option maxHeartbeats 8000000 in
theorem propChecks_heavy (hL : ∀ w, Calls Try.prog 8 #[] w (RetT w)) (t : Ex) (A : Option Addr) (c : Nat) (w : World) (hs : t.sz ≤ 100000000) (hR : Rep w.heap.size w A t) (hl : lightB t = false) : Calls Try.prog 3 #[exV t A c] w (RetT w) := by
  have HB : Hid (∀ ob, Below w.heap.size w (w.alloc ob)) := Lib.hid (fun ob => (Below.refl _ _).alloc (Nat.le_refl _) ob)
  have HC := Lib.hid (fun ob => law_Light t A c (w.alloc ob) hs (hR.step (HB.out ob)))
  have HL := Lib.hid hL
  rw [hl] at HC
  clear hR hL hl
  go_enter Try.func3, Try.ntmps3
  go_wp2_with (first
    | (go_at_call 8; (with_reducible refine (HL.out _).mono ?_); rintro e w2 ⟨rfl, hb2⟩; have HB2 := Lib.hid hb2; clear hb2)
    | (go_at_call 7; (with_reducible refine (HC.out _).mono ?_); rintro e w1 ⟨rfl, hb1⟩; have HB1 := Lib.hid hb1; clear hb1))
  go_ret
  exact ⟨rfl, bt (HB.out _) (bt HB1.out HB2.out)⟩
/-- The worlds above w1 all hold what the calls of region 7 ask. -/
theorem up {_B : Nat} {w w1 : World} {A : Option Addr} {t : Ex} (hR : Rep w.heap.size w A t) (hb : Below w.heap.size w w1) : Rep w1.heap.size w1 A t := hR.step hb
theorem Thr.above {g ty : Nat} {o v : Int} {A : Option Addr} {n c : Nat} {w1 wx : World} (h : Blk w1 g ty #[.int .i64 o, .int .i64 v, .slice A n c]) (hb : Below w1.heap.size w1 wx) : Thr g o v A n c wx := by
  have q := h.below hb h.lt
  exact ⟨q.cell 0, q.cell 1, q.cell 2⟩
theorem same_vs {A B : Option Addr} {ca cb : Nat} {l : List Int} {w : World} (hA : RI w w.heap.size A l) (hB : RI w w.heap.size B l) (hl : l.length ≤ 1000000) : Calls Try.prog 12 #[.slice A l.length ca, .slice B l.length cb] w (RetT w) := by
  refine (ref_Same A B ca cb l l w hA hB (by omega) (by omega)).mono ?_
  rintro e w' ⟨rfl, hb⟩
  exact ⟨by simp, hb⟩
theorem b3 {w w1 w2 w3 : World} (h : Below w.heap.size w w1) (h2 : Below w1.heap.size w1 w2) (h3 : Below w2.heap.size w2 w3) : Below w.heap.size w w3 := bt (bt h h2) h3
set_option maxRecDepth 100000 in
set_option maxHeartbeats 16000000 in
theorem propChecks_light (hL : ∀ w, Calls Try.prog 8 #[] w (RetT w)) (t : Ex) (A : Option Addr) (c : Nat) (w : World) (hs : t.sz ≤ 400) (hR : Rep w.heap.size w A t) (hl : lightB t = true) : Calls Try.prog 3 #[exV t A c] w (RetT w) := by
  have HB : Hid (∀ ob, Below w.heap.size w (w.alloc ob)) := Lib.hid (fun ob => (Below.refl _ _).alloc (Nat.le_refl _) ob)
  have HR : Hid (∀ wx, Below w.heap.size w wx → Rep wx.heap.size wx A t) := Lib.hid (fun wx hb => hR.step hb)
  have H7 : Hid (∀ wx, Below w.heap.size w wx → Calls Try.prog 7 #[exV t A c] wx (RetT wx)) := Lib.hid (fun wx hb => by
    have q := law_Light t A c wx (by omega) (HR.out wx hb)
    rw [hl] at q; exact q)
  have H9 : Hid (∀ wx, Below w.heap.size w wx → _) := Lib.hid (fun wx hb => rf_Check t A c wx (by omega) (HR.out wx hb))
  have H10 : Hid (∀ wx, Below w.heap.size w wx → _) := Lib.hid (fun wx hb => rf_Parts t.sz t (Nat.le_refl _) (by omega) A c wx (HR.out wx hb))
  have H11 : Hid (∀ wx, Below w.heap.size w wx → _) := Lib.hid (fun wx hb => pr_Check t A c wx (by omega) (HR.out wx hb))
  have H13 : Hid (∀ wx, Below w.heap.size w wx → _) := Lib.hid (fun wx hb => pr_Vars t A c wx (by omega) (HR.out wx hb))
  have H14 : Hid (∀ wx, Below w.heap.size w wx → _) := Lib.hid (fun wx hb => rf_Vars t A c wx (by omega) (HR.out wx hb))
  have H15 : Hid (∀ wx, Below w.heap.size w wx → _) := Lib.hid (fun wx hb => pr_Size t A c wx (by omega) (HR.out wx hb))
  have H16 : Hid (∀ wx, Below w.heap.size w wx → _) := Lib.hid (fun wx hb => pr_Deep t A c wx (by omega) (HR.out wx hb))
  have H8 := Lib.hid hL
  have hm : meaS t = if chkE t = 0 then ((t.sz : Int), (t.dp : Int)) else (0, 0) := rfl
  obtain ⟨K, hK⟩ : ∃ K, chkE t = K := ⟨_, rfl⟩
  obtain ⟨M1, M2, hM⟩ : ∃ M1 M2, meaS t = (M1, M2) := ⟨_, _, rfl⟩
  obtain ⟨V, hV⟩ : ∃ V, varS t = V := ⟨_, rfl⟩
  obtain ⟨Z, hZ⟩ : ∃ Z, t.sz = Z := ⟨_, rfl⟩
  obtain ⟨D, hD⟩ : ∃ D, t.dp = D := ⟨_, rfl⟩
  have HV : Hid (V.length ≤ 1000000) := Lib.hid (by rw [← hV]; unfold varS; have q := vrs_le t; have q2 := set_le (vrs t); split <;> simp <;> omega)
  rw [hM, hK, hZ, hD] at hm
  rw [hK] at H9 H11
  rw [hM] at H15 H16
  rw [hV] at H13 H14
  rw [hZ, hD] at H10
  have HMM := Lib.hid hm
  clear hR hL hl hm hK hM hV hZ hD hs
  go_enter Try.func3, Try.ntmps3
  go_upto_region 3 with (go_at_call 7; (with_reducible refine (H7.out _ (HB.out _)).mono ?_); rintro e w2 ⟨rfl, hb2⟩)
  have hBk : Blk w2 w.heap.size 24 (exC t A c) := by
    have q := Blk.new w 24 (exC t A c)
    exact q.below hb2 q.lt
  have hk : Below w.heap.size w w2 := bt (HB.out _) hb2
  obtain ⟨g, hg⟩ : ∃ g, w.heap.size = g := ⟨_, rfl⟩
  have HK := Lib.hid hk
  have HT := Lib.hid (fun wx (hb : Below w2.heap.size w2 wx) => Thr.above hBk hb)
  rw [hg] at HT
  rw [hg]
  clear hBk hk hb2 hg
  obtain ⟨e0, e1, e2⟩ := HT.out _ (Below.refl _ _)
  go_upto_region 4 with (go_at_call 9; (with_reducible refine (H9.out _ HK.out).mono ?_); rintro e w3 ⟨rfl, hb3⟩; have HB3 := Lib.hid hb3; clear hb3)
  clear e0 e1 e2
  obtain ⟨e0, e1, e2⟩ := HT.out _ HB3.out
  go_upto_region 5 with (go_at_call 10; (with_reducible refine (H10.out _ (bt HK.out HB3.out)).mono ?_); rintro e w4 ⟨rfl, hb4⟩; have HB4 := Lib.hid hb4; clear hb4)
  have hb24 : Below w2.heap.size w2 w4 := bt HB3.out HB4.out
  have HB0 : Hid (Below w2.heap.size w2 w4.drew) := Lib.hid hb24.drew
  clear e0 e1 e2 hb24 HB3 HB4 H7 H9 H10 HB
  by_cases hk0 : K = 0
  · have hmm := HMM.out
    rw [if_pos hk0] at hmm
    obtain ⟨rfl, rfl⟩ := Prod.mk.inj hmm
    have hne : (K != 0) = false := by simp [hk0]
    clear hmm HMM hk0
    go_upto_region 7 with (go_at_call 999)
    go_region_held3 (fun wx => wx.cell? ⟨g, 0, none⟩ = some (.int .i64 t.op) ∧ wx.cell? ⟨g, 1, none⟩ = some (.int .i64 t.vr) ∧ wx.cell? ⟨g, 2, none⟩ = some (.slice A t.ks.length c)) (first
        | exact HT.out _ HC8.out
        | exact HT.out _ HC16.out
        | exact HT.out _ HC15.out
        | exact HT.out _ HC12.out
        | exact HT.out _ HC14.out
        | exact HT.out _ HC13.out
        | exact HT.out _ HC11.out
        | exact HT.out _ HB0.out) (first
        | (go_at_call 8; (with_reducible refine (H8.out _).mono ?_); rintro e w18 ⟨rfl, hb⟩; have HC8 := Lib.hid (bt HC16.out hb); clear hb)
        | (go_at_call 16; (with_reducible refine (H16.out _ (bt HK.out HC15.out)).mono ?_); rintro e w17 ⟨rfl, hb⟩; have HC16 := Lib.hid (bt HC15.out hb); clear hb)
        | (go_at_call 15; (with_reducible refine (H15.out _ (bt HK.out HC12.out)).mono ?_); rintro e w16 ⟨rfl, hb⟩; have HC15 := Lib.hid (bt HC12.out hb); clear hb)
        | (go_at_call 12; (with_reducible refine (same_vs (HR13.out.step HX14.out) HR14.out HV.out).mono ?_); rintro e w15 ⟨rfl, hb⟩; have HC12 := Lib.hid (bt HC14.out hb); clear hb)
        | (go_at_call 14; (with_reducible refine (H14.out _ (bt HK.out HC13.out)).mono ?_); rintro e w14 ⟨A14, c14, rfl, hR14, _, hb⟩; have HR14 := Lib.hid hR14; have HX14 := Lib.hid hb; have HC14 := Lib.hid (bt HC13.out hb); clear hb hR14)
        | (go_at_call 13; (with_reducible refine (H13.out _ (bt HK.out HC11.out)).mono ?_); rintro e w13 ⟨A13, c13, rfl, hR13, _, hb⟩; have HR13 := Lib.hid hR13; have HC13 := Lib.hid (bt HC11.out hb); clear hb hR13)
        | (go_at_call 11; (with_reducible refine (H11.out _ (bt HK.out HB0.out)).mono ?_); rintro e w12 ⟨rfl, hb⟩; have HC11 := Lib.hid (bt HB0.out hb); clear hb))
    all_goals go_wp2
    all_goals (go_ret; exact ⟨rfl, bt HK.out HC8.out⟩)
  · have hmm := HMM.out
    rw [if_neg hk0] at hmm
    obtain ⟨rfl, rfl⟩ := Prod.mk.inj hmm
    have hne : (K != 0) = true := by simp [hk0]
    clear hmm HMM
    go_upto_region 7 with (go_at_call 999)
    go_region_held3 (fun wx => wx.cell? ⟨g, 0, none⟩ = some (.int .i64 t.op) ∧ wx.cell? ⟨g, 1, none⟩ = some (.int .i64 t.vr) ∧ wx.cell? ⟨g, 2, none⟩ = some (.slice A t.ks.length c)) (first
        | exact HT.out _ HC8.out
        | exact HT.out _ HC16.out
        | exact HT.out _ HC15.out
        | exact HT.out _ HC12.out
        | exact HT.out _ HC14.out
        | exact HT.out _ HC13.out
        | exact HT.out _ HC11.out
        | exact HT.out _ HB0.out) (first
        | (go_at_call 8; (with_reducible refine (H8.out _).mono ?_); rintro e w18 ⟨rfl, hb⟩; have HC8 := Lib.hid (bt HC16.out hb); clear hb)
        | (go_at_call 16; (with_reducible refine (H16.out _ (bt HK.out HC15.out)).mono ?_); rintro e w17 ⟨rfl, hb⟩; have HC16 := Lib.hid (bt HC15.out hb); clear hb)
        | (go_at_call 15; (with_reducible refine (H15.out _ (bt HK.out HC12.out)).mono ?_); rintro e w16 ⟨rfl, hb⟩; have HC15 := Lib.hid (bt HC12.out hb); clear hb)
        | (go_at_call 12; (with_reducible refine (same_vs (HR13.out.step HX14.out) HR14.out HV.out).mono ?_); rintro e w15 ⟨rfl, hb⟩; have HC12 := Lib.hid (bt HC14.out hb); clear hb)
        | (go_at_call 14; (with_reducible refine (H14.out _ (bt HK.out HC13.out)).mono ?_); rintro e w14 ⟨A14, c14, rfl, hR14, _, hb⟩; have HR14 := Lib.hid hR14; have HX14 := Lib.hid hb; have HC14 := Lib.hid (bt HC13.out hb); clear hb hR14)
        | (go_at_call 13; (with_reducible refine (H13.out _ (bt HK.out HC11.out)).mono ?_); rintro e w13 ⟨A13, c13, rfl, hR13, _, hb⟩; have HR13 := Lib.hid hR13; have HC13 := Lib.hid (bt HC11.out hb); clear hb hR13)
        | (go_at_call 11; (with_reducible refine (H11.out _ (bt HK.out HB0.out)).mono ?_); rintro e w12 ⟨rfl, hb⟩; have HC11 := Lib.hid (bt HB0.out hb); clear hb))
    all_goals go_wp2
    all_goals (go_ret; exact ⟨rfl, bt HK.out HC8.out⟩)
/-- PropChecks, by the contract of lives. -/
theorem propChecks_by (hL : ∀ w, Calls Try.prog 8 #[] w (RetT w)) (t : Ex) (A : Option Addr) (c : Nat) (w : World) (hs : t.sz ≤ 100000000) (hR : Rep w.heap.size w A t) : Calls Try.prog 3 #[exV t A c] w (RetT w) := by
  cases hl : lightB t with
  | false => exact propChecks_heavy hL t A c w hs hR hl
  | true =>
    refine propChecks_light hL t A c w ?_ hR hl
    unfold lightB at hl
    simp only [Bool.and_eq_true, decide_eq_true_eq] at hl
    exact hl.1
end Go.Proofs.Ytakhdlidikbnjaa
