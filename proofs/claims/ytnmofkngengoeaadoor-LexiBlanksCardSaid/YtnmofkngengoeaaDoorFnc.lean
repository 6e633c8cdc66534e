/- The law's examples, long; the walk of LexiAll of layer 29 (lexi), over the translation. -/
import Derived.Test.YtnmofkngengoeaaDoorFnb
import Derived.Deep.Cut
namespace Go.Proofs.YtnmofkngengoeaaDoor
open Go.RowKit Go.PlainAid

theorem ex_a : allS ⟨#[97, 32, 48, 49]⟩ = .er 2 15 := by kernel_rfl
theorem ex_b : allS ⟨#[50, 53, 54]⟩ = .er 0 2 := by kernel_rfl
def ex3 : List Tk := [(2, 0, ⟨#[120]⟩, 0), (4, 0, ⟨#[58, 61]⟩, 1), (1, 1, ⟨#[49]⟩, 3)]
theorem ex_c : allS ⟨#[120, 58, 61, 49, 32, 45, 45, 32, 97]⟩ = .ok ex3 := by kernel_rfl
theorem ex_p : isS ⟨#[112]⟩ = true := by kernel_rfl
theorem ex_q : isS ⟨#[69, 88]⟩ = false := by kernel_rfl
theorem all_ok {t : TypeId} {s : ByteArray} {w w' : World} {e : Ending} {l : List Tk} (h : AllR t s w e w') (hs : allS s = .ok l) : ∃ A c, e = .returned (.tuple #[.slice A l.length c, .int .i64 0, .int .i64 0]) ∧ RT w' A l ∧ Below w.heap.size w w' ∧ l.length ≤ s.size := by
  obtain ⟨hb, ⟨a, c, h1, _⟩ | ⟨l2, v, h1, rfl, hO, hl⟩⟩ := h
  · rw [hs] at h1; cases h1
  · rw [hs] at h1
    cases h1
    obtain ⟨A, c, rfl, hR⟩ := hO.rt
    exact ⟨A, c, rfl, hR, hb, hl⟩
theorem all_er {t : TypeId} {s : ByteArray} {w w' : World} {e : Ending} {a : Nat} {c : Int} (h : AllR t s w e w') (hs : allS s = .er a c) : e = .returned (.tuple #[.slice none 0 0, .int .i64 (a : Int), .int .i64 c]) ∧ Below w.heap.size w w' := by
  obtain ⟨hb, ⟨a2, c2, h1, rfl⟩ | ⟨l2, v, h1, _⟩⟩ := h
  · rw [hs] at h1
    cases h1
    exact ⟨rfl, hb⟩
  · rw [hs] at h1; cases h1
theorem to_rt {A : Option Addr} {c : Nat} {l : List Tk} {w : World} (h : RT w A l) (hl : l.length ≤ 100000000) :
    Calls Tryd.prog 12 #[.slice A l.length c] w fun e w' => ∃ B d, e = .returned (.slice B l.length d) ∧ RT w' B l ∧ Below w.heap.size w w' := by
  refine (law_to A c l w h hl).mono ?_
  rintro e w' ⟨v, rfl, hO, hb⟩
  obtain ⟨B, d, rfl, hR⟩ := hO.rt
  exact ⟨B, d, rfl, hR, hb⟩
theorem RT.of_blk {w : World} {g : Nat} {t : TypeId} {l : List Tk} {cs : Array Value} (h : Blk w g t cs) (e : cs.toList = l.flatMap tkCells) : RT w (some ⟨g, 0, none⟩) l := fun _ => by
  refine ⟨g, rfl, h.lt, fun k hk => ?_⟩
  have key : ∀ j, j < 4 → w.cell? ⟨g, k * 4 + j, none⟩ = (tkCells (tkAt l k))[j]? := fun j hj => by
    rw [h.cell, ← flat_at l k j hk hj, ← e, Array.getElem?_toList]
  exact ⟨key 0 (by omega), key 1 (by omega), key 2 (by omega), key 3 (by omega)⟩
theorem all3 (w : World) (hG : Glob w) : Calls Tryd.prog 14 #[.string ⟨#[120, 58, 61, 49, 32, 45, 45, 32, 97]⟩] w fun e w' => ∃ A c, e = .returned (.tuple #[.slice A 3 c, .int .i64 0, .int .i64 0]) ∧ RT w' A ex3 ∧ Below w.heap.size w w' := by
  refine (lx_All _ w hG (by decide)).mono ?_
  intro e w1 hR
  obtain ⟨A1, c1, rfl, hr1, hb1, _⟩ := all_ok hR ex_c
  exact ⟨A1, c1, rfl, hr1, hb1⟩
theorem allA (w : World) (hG : Glob w) : Calls Tryd.prog 14 #[.string ⟨#[97, 32, 48, 49]⟩] w fun e w' => e = .returned (.tuple #[.slice none 0 0, .int .i64 2, .int .i64 15]) ∧ Below w.heap.size w w' := by
  refine (lx_All _ w hG (by decide)).mono ?_
  intro e w1 hR
  exact all_er hR ex_a
theorem allB (w : World) (hG : Glob w) : Calls Tryd.prog 14 #[.string ⟨#[50, 53, 54]⟩] w fun e w' => e = .returned (.tuple #[.slice none 0 0, .int .i64 0, .int .i64 2]) ∧ Below w.heap.size w w' := by
  refine (lx_All _ w hG (by decide)).mono ?_
  intro e w1 hR
  exact all_er hR ex_b
theorem to3 {A : Option Addr} {c : Nat} {w : World} (h : RT w A ex3) : Calls Tryd.prog 12 #[.slice A 3 c] w fun e w' => ∃ B d, e = .returned (.slice B 3 d) ∧ RT w' B ex3 ∧ Below w.heap.size w w' := to_rt (l := ex3) h (by decide)
theorem same3 {A B : Option Addr} {c d : Nat} {w : World} (h : RT w A ex3) (h2 : RT w B ex3) : Calls Tryd.prog 11 #[.slice A 3 c, .slice B 3 d, .bool true] w fun e w' => e = .returned (.bool true) ∧ Below w.heap.size w w' := rf_Same A B c d ex3 w h h2 (by decide)
theorem isP (w : World) (hG : Glob w) : Calls Tryd.prog 16 #[.string ⟨#[112]⟩] w fun e w' => e = .returned (.bool true) ∧ w = w' := by
  have h := lx_Is ⟨#[112]⟩ w hG
  rwa [ex_p] at h
theorem isQ (w : World) (hG : Glob w) : Calls Tryd.prog 16 #[.string ⟨#[69, 88]⟩] w fun e w' => e = .returned (.bool false) ∧ w = w' := by
  have h := lx_Is ⟨#[69, 88]⟩ w hG
  rwa [ex_q] at h
theorem same_lit {B : Option Addr} {d : Nat} {w0 w : World} (h : RT w B ex3) (h0 : Below w0.heap.size w0 w) :
    Calls Tryd.prog 11 #[.slice B 3 d, .slice (some ⟨w.heap.size, 0, none⟩) 3 3, .bool true] (w.alloc (.cells #[.int .i64 2, .int .i64 0, .string { data := #[120] }, .int .i64 0, .int .i64 4, .int .i64 0, .string { data := #[58, 61] }, .int .i64 1, .int .i64 1, .int .i64 1, .string { data := #[49] }, .int .i64 3] 28)) fun e w' => e = .returned (.bool true) ∧ Below w0.heap.size w0 w' := by
  have hb : Below w.heap.size w (w.alloc (.cells #[.int .i64 2, .int .i64 0, .string { data := #[120] }, .int .i64 0, .int .i64 4, .int .i64 0, .string { data := #[58, 61] }, .int .i64 1, .int .i64 1, .int .i64 1, .string { data := #[49] }, .int .i64 3] 28)) := (Below.refl _ _).alloc (Nat.le_refl _) _
  refine (same3 (h.step hb) (RT.of_blk (l := ex3) (Blk.new w 28 #[.int .i64 2, .int .i64 0, .string { data := #[120] }, .int .i64 0, .int .i64 4, .int .i64 0, .string { data := #[58, 61] }, .int .i64 1, .int .i64 1, .int .i64 1, .string { data := #[49] }, .int .i64 3]) rfl)).mono ?_
  rintro e w' ⟨rfl, hb2⟩
  have h1 := h0.trans (hb.mono h0.size)
  exact ⟨rfl, h1.trans (hb2.mono h1.size)⟩
set_option maxRecDepth 100000 in
set_option maxHeartbeats 4000000 in
theorem law_lives (w : World) (hG : Glob w) : Calls Tryd.prog 8 #[] w fun e w' => e = .returned (.bool true) ∧ Below w.heap.size w w' := by
  have HG := Lib.hid hG
  clear hG
  go_enter Tryd.func8, Tryd.ntmps8
  go_upto_region 2 with (go_at_call 14; refine (all3 w HG.out).mono ?_; rintro e w1 ⟨A1, c1, rfl, hr1, hb1⟩; have HR1 := Lib.hid hr1; clear hr1)
  go_upto_region 3 with (go_at_call 14; refine (allA w1 (HG.out.step hb1)).mono ?_; rintro e w2 ⟨rfl, hb2⟩)
  have k2 : Below w.heap.size w w2 := hb1.trans (hb2.mono hb1.size)
  go_upto_region 4 with (go_at_call 14; refine (allB w2 (HG.out.step k2)).mono ?_; rintro e w3 ⟨rfl, hb3⟩)
  have k3 : Below w.heap.size w w3 := k2.trans (hb3.mono k2.size)
  have HR3 := Lib.hid ((HR1.out.step hb2).step hb3)
  have HP := Lib.hid isP
  have HQ := Lib.hid isQ
  go_wp2_with (first
    | (go_at_call 12; refine (to3 HR3.out).mono ?_; rintro e w4 ⟨B4, d4, rfl, hr4, hb4⟩; have HR4 := Lib.hid hr4; have hk4 := k3.trans (hb4.mono k3.size); have HK4 := Lib.hid hk4; clear hr4 hb4 hk4)
    | (go_at_call 11; refine (same_lit HR4.out HK4.out).mono ?_; rintro e w5 ⟨rfl, hb5⟩; have HK5 := Lib.hid hb5; clear hb5)
    | (go_at_call 16; first
        | (with_reducible refine (HP.out _ (HG.out.step HK5.out)).mono ?_; rintro e w6 ⟨rfl, rfl⟩)
        | (with_reducible refine (HQ.out _ (HG.out.step HK5.out)).mono ?_; rintro e w6 ⟨rfl, rfl⟩)))
  go_ret
  exact ⟨rfl, HK5.out⟩
theorem law_long (s : ByteArray) (w : World) (q : Bool) (hq : decide (1500 < s.size ∧ s.size ≤ 65536 ∨ 65546 < s.size) = q) : Calls Tryd.prog 13 #[.string s] w fun e w' => e = .returned (.bool q) ∧ w = w' := by
  obtain ⟨a, ha⟩ : ∃ a, decide ((1500 : Int) < (s.size : Int)) = a := ⟨_, rfl⟩
  obtain ⟨b, hb⟩ : ∃ a, decide ((s.size : Int) ≤ 65536) = a := ⟨_, rfl⟩
  obtain ⟨c, hc⟩ : ∃ a, decide ((65546 : Int) < (s.size : Int)) = a := ⟨_, rfl⟩
  have HX : Hid (((a && b) || c) = q) := Lib.hid (by
    rw [← hq, ← ha, ← hb, ← hc, Bool.eq_iff_iff]
    simp only [Bool.or_eq_true, Bool.and_eq_true, decide_eq_true_eq]
    omega)
  clear hq
  cases a <;> cases b <;> cases c
  all_goals
    first | (have g1 := of_decide_eq_false ha) | (have g1 := of_decide_eq_true ha)
    first | (have g2 := of_decide_eq_false hb) | (have g2 := of_decide_eq_true hb)
    first | (have g3 := of_decide_eq_false hc) | (have g3 := of_decide_eq_true hc)
    go_enter Tryd.func13, Tryd.ntmps13
    go_wp2
    go_ret
    exact ⟨by rw [← HX.out]; rfl, rfl⟩
end Go.Proofs.YtnmofkngengoeaaDoor
