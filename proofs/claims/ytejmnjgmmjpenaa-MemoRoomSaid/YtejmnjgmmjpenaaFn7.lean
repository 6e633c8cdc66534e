/- The examples of the chapter, and the operations on tables in the laws of layer 11 (memo), over the translation. -/
import Derived.Test.YtejmnjgmmjpenaaFn6
namespace Go.Proofs.Ytejmnjgmmjpenaa
open Go.RowKit

theorem Memo.narrow {w : World} {S S' : Nat → Prop} {bm n : Nat} {asked found : Int} {T : Nat → Option Rc} (h : Memo w S bm n asked found T) (hs : ∀ k, S k → k < w.heap.size → S' k) : Memo w S' bm n asked found T := by
  obtain ⟨gp, P, F, h1, h2⟩ := h
  refine ⟨gp, P, F, ⟨h1.head, h1.ptrs, fun i q hi hq => ?_, h1.inj, h1.ne, hs _ h1.sm h1.head.lt, hs _ h1.sp h1.ptrs.lt⟩, h2⟩
  obtain ⟨g1, g2, g3, g4⟩ := h1.page i q hi hq
  exact ⟨g1, hs _ g2 g1.lt, g3, g4⟩
theorem Frm.below2 {S : Nat → Prop} {B : Nat} {a b : World} (h : Frm S a b) (hS : ∀ k, S k → B ≤ k) (hB : B ≤ a.heap.size) : Below B a b :=
  ⟨h.os, h.tape, h.output, h.size, fun k hk => h.block k (by omega) (fun hs => by have := hS k hs; omega)⟩
theorem act_cells {w : World} {b : Nat} {x : Act} (h : Blk w b 27 (actRow x)) : w.cell? ⟨b, 0, none⟩ = some (.int .u8 x.kind) ∧ w.cell? ⟨b, 1, none⟩ = some (.int .i64 x.op) ∧ w.cell? ⟨b, 2, none⟩ = some (.int .i64 x.a) ∧
    w.cell? ⟨b, 3, none⟩ = some (.int .i64 x.b) ∧ w.cell? ⟨b, 4, none⟩ = some (.int .i64 x.c) ∧ w.cell? ⟨b, 5, none⟩ = some (.int .i64 x.r) :=
  ⟨h.cell 0, h.cell 1, h.cell 2, h.cell 3, h.cell 4, h.cell 5⟩
theorem exA_cells {w : World} {b : Nat} (h : Blk w b 27 (actRow ⟨0, 100, 2, 4, 6, 8⟩)) : w.cell? ⟨b, 0, none⟩ = some (.int .u8 0) ∧ w.cell? ⟨b, 1, none⟩ = some (.int .i64 100) ∧ w.cell? ⟨b, 2, none⟩ = some (.int .i64 2) ∧
    w.cell? ⟨b, 3, none⟩ = some (.int .i64 4) ∧ w.cell? ⟨b, 4, none⟩ = some (.int .i64 6) ∧ w.cell? ⟨b, 5, none⟩ = some (.int .i64 8) := act_cells h
theorem exB_cells {w : World} {b : Nat} (h : Blk w b 27 (actRow ⟨0, 100, 2, 4, 7, 8⟩)) : w.cell? ⟨b, 0, none⟩ = some (.int .u8 0) ∧ w.cell? ⟨b, 1, none⟩ = some (.int .i64 100) ∧ w.cell? ⟨b, 2, none⟩ = some (.int .i64 2) ∧
    w.cell? ⟨b, 3, none⟩ = some (.int .i64 4) ∧ w.cell? ⟨b, 4, none⟩ = some (.int .i64 7) ∧ w.cell? ⟨b, 5, none⟩ = some (.int .i64 8) := act_cells h
theorem memo_New2 (n : Int) (w : World) (S : Nat → Prop) (hS : ∀ k, w.heap.size ≤ k → k < w.heap.size + 2 → S k) :
    Calls Try.prog 8 #[.int .i64 n] w fun e w' => e = .returned (.pointer (some ⟨w.heap.size + 1, 0, none⟩)) ∧ Memo w' S (w.heap.size + 1) (heldF n) 0 0 (fun _ => none) ∧ Below w.heap.size w w' ∧ w'.heap.size = w.heap.size + 2 :=
  (memo_New n w S hS).mono fun _e _w' ⟨h1, h2, h3, h4⟩ => ⟨h1, ⟨_, _, _, h2, fun _ _ => rfl⟩, h3, h4⟩
def exA : Act := ⟨0, 100, 2, 4, 6, 8⟩
def exB : Act := ⟨0, 100, 2, 4, 7, 8⟩
set_option maxRecDepth 100000 in
set_option maxHeartbeats 2000000 in
theorem lives_any (w : World) : Calls Try.prog 7 #[] w fun r w' => r = .returned (.bool true) ∧ Below w.heap.size w w' := by
  obtain ⟨n0, hn0⟩ : ∃ n, w.heap.size = n := ⟨_, rfl⟩
  obtain ⟨S1, hS1⟩ : ∃ S : Nat → Prop, S = fun k => n0 ≤ k ∧ k ≠ n0 + 2 := ⟨_, rfl⟩
  have hN := memo_New2 2 w S1 (fun k h h2 => by rw [hS1]; exact ⟨by omega, by omega⟩)
  have hG1 : ∀ T, getA (putT T (slotA exA 2) (recA exA)) exA 2 = some 8 := fun T => get_put T exA 2
  have hG2 : getA (putT (fun _ => none) (slotA exA 2) (recA exA)) exB 2 = none := get_put_other _ exA exB 2 (by decide) (get_none exB 2)
  obtain ⟨T1, hT1⟩ : ∃ T, putT (fun _ => none) (slotA exA 2) (recA exA) = T := ⟨_, rfl⟩
  have hG1' := hG1 (fun _ => none)
  rw [hT1] at hG1' hG2
  have h2 : heldF 2 = 2 := rfl
  rw [h2, hn0] at hN
  rw [hn0]
  have hnx : ¬ S1 (n0 + 2) := fun h => by rw [hS1] at h; exact h.2 rfl
  have hge : ∀ k, S1 k → n0 ≤ k := fun k h => by rw [hS1] at h; exact h.1
  have hin : ∀ k, n0 + 2 < k → S1 k := fun k h => by rw [hS1]; exact ⟨by omega, by omega⟩
  have HN := Lib.hid hN
  have HA := Lib.hid hG1'
  have HB := Lib.hid hG2
  have HT := Lib.hid hT1
  have HX := Lib.hid hnx
  have HE := Lib.hid hge
  have HI := Lib.hid hin
  have H0 := Lib.hid hn0
  clear hN hG1' hG2 hT1 hnx hge hin hG1 hS1 h2 hn0
  go_enter Try.func7, Try.ntmps7
  go_wp2_with fail
  refine HN.out.mono ?_; rintro e w1 ⟨rfl, hM1, hb1, hz1⟩
  have hba : Below w1.heap.size w1 (w1.alloc (.cells #[.int .u8 0, .int .i64 100, .int .i64 2, .int .i64 4, .int .i64 6, .int .i64 8] 27)) := (Below.refl _ _).alloc (Nat.le_refl _) _
  have hX2 : Blk (w1.alloc (.cells #[.int .u8 0, .int .i64 100, .int .i64 2, .int .i64 4, .int .i64 6, .int .i64 8] 27)) (n0 + 2) 27 (actRow exA) := by rw [← hz1]; exact Blk.new _ _ _
  have HX2 := Lib.hid hX2
  have HB2 := Lib.hid (hb1.trans (hba.mono (by omega)))
  have HP := Lib.hid (law_put (hM1.below hba) exA (by omega) (by omega) (fun k hk => HI.out k (by simp at hk; omega)))
  clear hM1 hb1 hba hX2
  go_wp2_with fail
  refine HP.out.mono ?_; rintro e w3 ⟨rfl, hM3, hf3⟩
  rw [HT.out] at hM3
  have hX3 := HX2.out.frm hf3 HX.out
  have HB3 := Lib.hid (HB2.out.trans (hf3.below2 HE.out (by simp; omega)))
  obtain ⟨y0, y1, y2, y3, y4, y5⟩ := exA_cells hX3
  have HX3 := Lib.hid hX3
  have hP := law_get hM3 exA (by omega) (by omega) (by omega) (by omega) (by omega) (by omega)
  rw [HA.out] at hP
  have HP3 := Lib.hid hP
  clear hM3 hf3 hX3 HP HX2 HB2 hz1 hP
  go_wp2_with fail
  refine HP3.out.mono ?_; rintro e w4 ⟨he, hM4, hf4⟩
  have he2 : e = .returned (.tuple #[.int .i64 8, .bool true]) := he
  clear he
  subst he2
  have hX4 := HX3.out.frm hf4 HX.out
  have HB4 := Lib.hid (HB3.out.trans (hf4.below2 HE.out (by have := HB3.out.size; have := H0.out; omega)))
  obtain ⟨z0, z1, z2, z3, z4, z5⟩ := exA_cells hX4
  have HX4 := Lib.hid hX4
  have HM4 := Lib.hid hM4
  clear HP3 y0 y1 y2 y3 y4 y5 hX4 hM4 hf4 HX3 HB3
  go_wp2_with fail
  have hbb : Below w4.heap.size w4 (w4.alloc (.cells #[.int .u8 0, .int .i64 100, .int .i64 2, .int .i64 4, .int .i64 7, .int .i64 8] 27)) := (Below.refl _ _).alloc (Nat.le_refl _) _
  have hn4 : n0 ≤ w4.heap.size := by have := HB4.out.size; have := H0.out; omega
  have hQ := law_get (HM4.out.below hbb) exB (by omega) (by omega) (by omega) (by decide) (by decide) (by decide)
  rw [HB.out] at hQ
  have HQ := Lib.hid hQ
  have HX5 := Lib.hid (HX4.out.alloc (.cells #[.int .u8 0, .int .i64 100, .int .i64 2, .int .i64 4, .int .i64 7, .int .i64 8] 27))
  have HB5 := Lib.hid (HB4.out.trans (hbb.mono hn4))
  clear hQ hbb z0 z1 z2 z3 z4 z5 HX4 HB4 HM4
  refine HQ.out.mono ?_; rintro e w6 ⟨he, hM6, hf6⟩
  have he2 : e = .returned (.tuple #[.int .i64 0, .bool false]) := he
  clear he
  subst he2
  have hX6 := HX5.out.frm hf6 HX.out
  have HB6 := Lib.hid (HB5.out.trans (hf6.below2 HE.out (by have := HB5.out.size; have := H0.out; omega)))
  have HX6 := Lib.hid hX6
  have HC := Lib.hid (memo_Clear hM6 (by omega) (by omega))
  clear hX6 hM6 hf6 HX5 HB5 HQ hn4
  go_wp2_with fail
  refine HC.out.mono ?_; rintro e w7 ⟨rfl, hM7, hf7⟩
  have hX7 := HX6.out.frm hf7 HX.out
  have HB7 := Lib.hid (HB6.out.trans (hf7.below2 HE.out (by have := HB6.out.size; have := H0.out; omega)))
  obtain ⟨y0, y1, y2, y3, y4, y5⟩ := exA_cells hX7
  have hQ := law_get hM7 exA (by omega) (by omega) (by decide) (by decide) (by decide) (by decide)
  rw [get_none] at hQ
  have HQ := Lib.hid hQ
  clear hX7 hM7 hf7 HX6 HB6 HC hQ
  go_wp2_with fail
  refine HQ.out.mono ?_; rintro e w8 ⟨he, hM8, hf8⟩
  have he2 : e = .returned (.tuple #[.int .i64 0, .bool false]) := he
  clear he
  subst he2
  have HB8 := Lib.hid (HB7.out.trans (hf8.below2 HE.out (by have := HB7.out.size; have := H0.out; omega)))
  have hc : Calls Try.prog 13 #[.pointer (some ⟨n0 + 1, 0, none⟩)] w8 fun e w' => e = .returned (.tuple #[.int .i64 3, .int .i64 1]) ∧ Below w8.heap.size w8 w' := hM8.count
  have HC := Lib.hid hc
  have HM8 := Lib.hid hM8
  clear y0 y1 y2 y3 y4 y5 hM8 hf8 HB7 HQ hc
  go_wp2_with fail
  refine HC.out.mono ?_; rintro e w9 ⟨rfl, hb9⟩
  have HB9 := Lib.hid (HB8.out.trans (hb9.mono (by have := HB8.out.size; have := H0.out; omega)))
  have HZ := Lib.hid (HM8.out.below hb9).size
  clear hb9 HM8 HC HB8
  go_wp2_with fail
  refine HZ.out.mono ?_; rintro e w10 ⟨rfl, rfl⟩
  go_wp2
  go_ret
  exact ⟨rfl, HB9.out⟩
end Go.Proofs.Ytejmnjgmmjpenaa
