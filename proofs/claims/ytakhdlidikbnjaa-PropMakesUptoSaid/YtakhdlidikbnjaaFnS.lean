/- The walk of lives, over the contracts of its calls; layer 6 (prop). -/
import Derived.Test.YtakhdlidikbnjaaFnR
namespace Go.Proofs.Ytakhdlidikbnjaa
open Go.RowKit Go.PlainAid
theorem av (w : World) (v : Int) : Calls Try.prog 21 #[.int .i64 v] w fun e w' => e = .returned (.agg #[.int .i64 3, .int .i64 v, .slice none 0 0]) ∧ Below w.heap.size w w' := pr_Var v w
theorem lv_AndN (w : World) : Calls Try.prog 17 #[.slice (some ⟨w.heap.size, 0, none⟩) 2 2] (w.alloc (.cells #[.int .i64 3, .int .i64 0, .slice none 0 0, .int .i64 3, .int .i64 1, .slice none 0 0] 24)) (AndP w tE 2 5) :=
  (lv_And _ _ (Blk.new _ _ _)).mono fun _ _ ⟨A, c, h1, h2, h3⟩ => ⟨A, c, h1, h2, ((Below.refl _ _).alloc (Nat.le_refl _) _).trans (h3.mono (by simp))⟩
theorem bal (w : World) (o : Obj) : Below w.heap.size w (w.alloc o) := (Below.refl _ _).alloc (Nat.le_refl _) o
theorem lv_E1N (A : Option Addr) (c : Nat) (w : World) (hR : RepQ w A tE) : Calls Try.prog 23 #[.agg #[.int .i64 5, .int .i64 0, .slice A 2 c], .slice (some ⟨w.heap.size, 0, none⟩) 2 2] (w.alloc (.cells #[.bool true, .bool false] 4)) (ValP w false) :=
  (lv_E1 A c _ _ (hR.step (bal w _)) (Blk.new _ _ _)).mono fun _ _ ⟨h1, h2⟩ => ⟨h1, (bal w _).trans (h2.mono (by simp))⟩
theorem lv_trN (g : Nat) (w : World) (h1 : Blk w g 4 (boolRow [false, false, false, true])) : Calls Try.prog 25 #[.slice (some ⟨g, 0, none⟩) 4 4, .slice (some ⟨w.heap.size, 0, none⟩) 4 4] (w.alloc (.cells #[.bool false, .bool false, .bool false, .bool true] 4)) (ValP w true) :=
  (lv_tr g _ _ (h1.alloc _) (Blk.new _ _ _)).mono fun _ _ ⟨h1, h2⟩ => ⟨h1, (bal w _).trans (h2.mono (by simp))⟩
def Upd (w4 : World) (A : Option Addr) (c g : Nat) (wx : World) : Prop := RepQ wx A tE ∧ wx.cell? ⟨g, 0, none⟩ = some (.int .i64 5) ∧ wx.cell? ⟨g, 1, none⟩ = some (.int .i64 0) ∧ wx.cell? ⟨g, 2, none⟩ = some (.slice A 2 c) ∧ Below w4.heap.size w4 wx
set_option maxRecDepth 100000 in
set_option maxHeartbeats 4000000 in
theorem law_lives (w : World) : Calls Try.prog 8 #[] w (RetT w) := by
  go_enter Try.func8, Try.ntmps8
  go_upto_region 2 with (first
    | (go_at_call 17; (with_reducible refine (lv_AndN w2).mono ?_); rintro e w3 ⟨A3, c3, rfl, hr3, hb3⟩; have HR3 := Lib.hid hr3; have HB3 := Lib.hid hb3; clear hr3 hb3)
    | (go_at_call 21; (with_reducible refine (av w1 1).mono ?_); rintro e w2 ⟨rfl, hb2⟩; have HB2 := Lib.hid hb2; clear hb2)
    | (go_at_call 21; (with_reducible refine (av w 0).mono ?_); rintro e w1 ⟨rfl, hb1⟩; have HB1 := Lib.hid hb1; clear hb1))
  have hU : ∀ wx, Below (w3.alloc (.cells #[.int .i64 5, .int .i64 0, .slice A3 2 c3] 24)).heap.size (w3.alloc (.cells #[.int .i64 5, .int .i64 0, .slice A3 2 c3] 24)) wx → Upd w3 A3 c3 w3.heap.size wx := fun wx hb => by
    have hk := (Blk.new w3 24 #[.int .i64 5, .int .i64 0, .slice A3 2 c3])
    have hk2 := hk.below hb hk.lt
    exact ⟨(HR3.out.step (bal w3 _)).step hb, hk2.cell 0, hk2.cell 1, hk2.cell 2, (bal w3 _).trans (hb.mono (by simp))⟩
  have hG : w3.heap.size < (w3.alloc (.cells #[.int .i64 5, .int .i64 0, .slice A3 2 c3] 24)).heap.size := by simp
  have HW3 := Lib.hid (bt HB1.out (bt HB2.out HB3.out))
  obtain ⟨g, hg⟩ : ∃ g, w3.heap.size = g := ⟨_, rfl⟩
  rw [hg] at hU hG ⊢
  obtain ⟨w4, hw4⟩ : ∃ w4, w3.alloc (.cells #[.int .i64 5, .int .i64 0, .slice A3 2 c3] 24) = w4 := ⟨_, rfl⟩
  rw [hw4] at hU hG ⊢
  have HU := Lib.hid hU
  obtain ⟨hr4, e0, e1, e2, hb4⟩ := hU w4 (Below.refl _ _)
  have HR4 := Lib.hid hr4
  have HB4 := Lib.hid hb4
  clear hU hg hw4 hr4 hb4 HB1 HB2 HB3 HR3
  go_wp2_with (first
    | (go_at_call 11; (with_reducible refine (lv_C4 A12 c12 w12 HR12.out).mono ?_); rintro e w13 ⟨rfl, hb13⟩; have HB13 := Lib.hid hb13; clear hb13)
    | (go_at_call 20; (with_reducible refine (lv_Not w11).mono ?_); rintro e w12 ⟨A12, c12, rfl, hr12, hb12⟩; have HR12 := Lib.hid hr12; have HB12 := Lib.hid hb12; clear hr12 hb12)
    | (go_at_call 21; (with_reducible refine (av w10 64).mono ?_); rintro e w11 ⟨rfl, hb11⟩; have HB11 := Lib.hid hb11; clear hb11)
    | (go_at_call 23; (with_reducible refine (lv_E3 A9 c9 w9 HR9.out).mono ?_); rintro e w10 ⟨rfl, hb10⟩; have HB10 := Lib.hid hb10; clear hb10)
    | (go_at_call 17; (with_reducible refine (lv_And0 w8).mono ?_); rintro e w9 ⟨A9, c9, rfl, hr9, hb9⟩; have HR9 := Lib.hid hr9; have HB9 := Lib.hid hb9; clear hr9 hb9)
    | (go_at_call 23; (with_reducible refine (lv_E2 w7).mono ?_); rintro e w8 ⟨rfl, hb8⟩; have HB8 := Lib.hid hb8; clear hb8)
    | (go_at_call 25; (with_reducible refine (lv_trN g6 w6 HG6.out).mono ?_); rintro e w7 ⟨rfl, hb7⟩; have HB7 := Lib.hid hb7; clear hb7)
    | (go_at_call 26; (with_reducible refine (lv_T A3 c3 w5 HR5.out).mono ?_); rintro e w6 ⟨g6, rfl, hg6, hb6⟩; have HG6 := Lib.hid hg6; have HB6 := Lib.hid hb6; clear hg6 hb6)
    | (go_at_call 23; (with_reducible refine (lv_E1N A3 c3 w4 HR4.out).mono ?_); rintro e w5 ⟨rfl, hb5⟩; have HB5 := Lib.hid hb5; clear hb5; obtain ⟨hr5, f0, f1, f2, _⟩ := HU.out w5 HB5.out; have HR5 := Lib.hid hr5; clear hr5))
  go_ret
  exact ⟨rfl, bt HW3.out (bt HB4.out (bt HB5.out (bt HB6.out (bt HB7.out (bt HB8.out (bt HB9.out (bt HB10.out (bt HB11.out (bt HB12.out HB13.out)))))))))⟩
end Go.Proofs.Ytakhdlidikbnjaa
