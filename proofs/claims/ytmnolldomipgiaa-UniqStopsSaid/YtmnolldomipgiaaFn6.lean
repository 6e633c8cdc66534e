/- The order of Each, as compare gives it; layer 10 (uniq). -/
import Derived.Test.YtmnolldomipgiaaFn5
namespace Go.Proofs.Ytmnolldomipgiaa
open Go.RowKit Go.Maps

def cmpZ (x y : Int) : Int := if x < y then -1 else if y < x then 1 else 0
theorem s_nan (x : Int) (w : World) : Calls Try.prog 43 #[.int .i64 x] w fun e w' => e = .returned (.bool false) ∧ w = w' := by
  have g : (x != x) = false := by simp
  go_enter Try.func43, Try.ntmps43
  go_wp2
  go_ret
  exact ⟨rfl, rfl⟩
theorem s_nanE (x : Int) (w : World) : Calls Try.prog 50 #[.int .i64 x] w fun e w' => e = .returned (.bool false) ∧ w = w' := by
  have g : (x != x) = false := by simp
  go_enter Try.func50, Try.ntmps50
  go_wp2
  go_ret
  exact ⟨rfl, rfl⟩
theorem s_cmp (x y : Int) (w : World) : Calls Try.prog 31 #[.int .i64 x, .int .i64 y] w fun e w' => e = .returned (.int .i64 (cmpZ x y)) ∧ w = w' := by
  have HN : Hid (∀ x, Calls Try.prog 43 #[.int .i64 x] w fun e w' => e = .returned (.bool false) ∧ w = w') := Lib.hid (fun x => s_nan x w)
  unfold cmpZ
  by_cases h1 : x < y
  · go_enter Try.func31, Try.ntmps31
    go_wp2_with (go_at_call 43; refine (HN.out _).mono ?_; rintro r w' ⟨rfl, rfl⟩)
    go_ret
    exact ⟨ret_i (by first | rfl | omega | ((repeat' split) <;> first | rfl | omega | simp_all)), rfl⟩
  · by_cases h2 : y < x
    · go_enter Try.func31, Try.ntmps31
      go_wp2_with (go_at_call 43; refine (HN.out _).mono ?_; rintro r w' ⟨rfl, rfl⟩)
      go_ret
      exact ⟨ret_i (by first | rfl | omega | ((repeat' split) <;> first | rfl | omega | simp_all)), rfl⟩
    · go_enter Try.func31, Try.ntmps31
      go_wp2_with (go_at_call 43; refine (HN.out _).mono ?_; rintro r w' ⟨rfl, rfl⟩)
      go_ret
      exact ⟨ret_i (by first | rfl | omega | ((repeat' split) <;> first | rfl | omega | simp_all)), rfl⟩
theorem s_cmpE (x y : Int) (w : World) : Calls Try.prog 44 #[.int .i64 x, .int .i64 y] w fun e w' => e = .returned (.int .i64 (cmpZ x y)) ∧ w = w' := by
  have HN : Hid (∀ x, Calls Try.prog 50 #[.int .i64 x] w fun e w' => e = .returned (.bool false) ∧ w = w') := Lib.hid (fun x => s_nanE x w)
  unfold cmpZ
  by_cases h1 : x < y
  · go_enter Try.func44, Try.ntmps44
    go_wp2_with (go_at_call 50; refine (HN.out _).mono ?_; rintro r w' ⟨rfl, rfl⟩)
    go_ret
    exact ⟨ret_i (by first | rfl | omega | ((repeat' split) <;> first | rfl | omega | simp_all)), rfl⟩
  · by_cases h2 : y < x
    · go_enter Try.func44, Try.ntmps44
      go_wp2_with (go_at_call 50; refine (HN.out _).mono ?_; rintro r w' ⟨rfl, rfl⟩)
      go_ret
      exact ⟨ret_i (by first | rfl | omega | ((repeat' split) <;> first | rfl | omega | simp_all)), rfl⟩
    · go_enter Try.func44, Try.ntmps44
      go_wp2_with (go_at_call 50; refine (HN.out _).mono ?_; rintro r w' ⟨rfl, rfl⟩)
      go_ret
      exact ⟨ret_i (by first | rfl | omega | ((repeat' split) <;> first | rfl | omega | simp_all)), rfl⟩
/-- cmp.Or of two numbers. -/
theorem s_or (p q : Int) (w : World) (g : Nat) (h : Blk w g 3 #[.int .i64 p, .int .i64 q]) : Calls Try.prog 30 #[.slice (some ⟨g, 0, none⟩) 2 2] w fun e w' => e = .returned (.int .i64 (if p ≠ 0 then p else q)) ∧ w = w' := by
  have c0 := h.cell 0
  have c1 := h.cell 1
  simp only [List.getElem?_toArray, List.getElem?_cons_zero, List.getElem?_cons_succ] at c0 c1
  clear h
  go_enter Try.func30, Try.ntmps30
  go_wp2
  go_loopw [8] (fun i wr => ((i = .int .i64 0) ∨ (i = .int .i64 1 ∧ p = 0) ∨ (i = .int .i64 2 ∧ p = 0 ∧ q = 0)) ∧ w = wr) (fun i _ => 2 - (intOf i).toNat)
  case atStart => exact ⟨.inl rfl, rfl⟩
  case round =>
    obtain ⟨h, rfl⟩ := hrel
    rcases h with rfl | ⟨rfl, hp⟩ | ⟨rfl, hp, hq⟩
    · by_cases hp : p = 0
      · have b0 : (p != 0) = false := by simp [hp]
        go_wp2
        go_roundw
        case rel => exact ⟨.inr (.inl ⟨rfl, hp⟩), by first | rfl | trivial⟩
        case measure => simp [intOf]
      · have b0 : (p != 0) = true := by simp [hp]
        go_wp2
        go_ret
        exact ⟨ret_i (by first | rfl | omega | ((repeat' split) <;> first | rfl | omega | simp_all)), rfl⟩
    · by_cases hq : q = 0
      · have b0 : (q != 0) = false := by simp [hq]
        go_wp2
        go_roundw
        case rel => exact ⟨.inr (.inr ⟨rfl, hp, hq⟩), by first | rfl | trivial⟩
        case measure => simp [intOf]
      · have b0 : (q != 0) = true := by simp [hq]
        go_wp2
        go_ret
        exact ⟨ret_i (by first | rfl | omega | ((repeat' split) <;> first | rfl | omega | simp_all)), rfl⟩
    · go_wp2
      go_ret
      exact ⟨ret_i (by first | rfl | omega | ((repeat' split) <;> first | rfl | omega | simp_all)), rfl⟩
def cmp2 (a b : En) : Int := if cmpZ a.lo b.lo ≠ 0 then cmpZ a.lo b.lo else cmpZ a.hi b.hi
def cmpE (a b : En) : Int := if cmpZ a.id b.id ≠ 0 then cmpZ a.id b.id else cmp2 a b
theorem s_cmps (a b : En) (w : World) (ga gb : Nat) (fa fb : Nat) (h0 : w.cell? ⟨ga, fa, none⟩ = some (.int .i64 a.lo)) (h1 : w.cell? ⟨ga, fa + 1, none⟩ = some (.int .i64 a.hi)) (h2 : w.cell? ⟨gb, fb, none⟩ = some (.int .i64 b.lo)) (h3 : w.cell? ⟨gb, fb + 1, none⟩ = some (.int .i64 b.hi)) :
    Calls Try.prog 32 #[.slice (some ⟨ga, fa, none⟩) 2 2, .slice (some ⟨gb, fb, none⟩) 2 2] w fun e w' => e = .returned (.int .i64 (cmp2 a b)) ∧ w = w' := by
  have HN : Hid (∀ x y, Calls Try.prog 44 #[.int .i64 x, .int .i64 y] w fun e w' => e = .returned (.int .i64 (cmpZ x y)) ∧ w = w') := Lib.hid (fun x y => s_cmpE x y w)
  have HZ : Hid (∀ p q, cmpZ a.lo b.lo = p → cmpZ a.hi b.hi = q → cmp2 a b = if p ≠ 0 then p else q) := Lib.hid (fun p q hp hq => by unfold cmp2; rw [hp, hq])
  have HN0 := Lib.hid (HN.out a.lo b.lo)
  have HN1 := Lib.hid (HN.out a.hi b.hi)
  rw [HZ.out _ _ rfl rfl]
  clear HZ HN
  generalize cmpZ a.lo b.lo = p at *
  generalize cmpZ a.hi b.hi = q at *
  go_enter Try.func32, Try.ntmps32
  go_wp2
  go_loopw [11] (fun i wr => ((i = .int .i64 0) ∨ (i = .int .i64 1 ∧ p = 0) ∨ (i = .int .i64 2 ∧ p = 0 ∧ q = 0)) ∧ w = wr) (fun i _ => 2 - (intOf i).toNat)
  case atStart => exact ⟨.inl rfl, rfl⟩
  case round =>
    obtain ⟨h, rfl⟩ := hrel
    rcases h with rfl | ⟨rfl, hp⟩ | ⟨rfl, hp, hq⟩
    · by_cases hp : p = 0
      · have b0 : (p != 0) = false := by simp [hp]
        go_wp2_with (go_at_call 44; refine HN0.out.mono ?_; rintro r w' ⟨rfl, rfl⟩)
        go_roundw
        case rel => exact ⟨.inr (.inl ⟨rfl, hp⟩), by first | rfl | trivial⟩
        case measure => simp [intOf]
      · have b0 : (p != 0) = true := by simp [hp]
        go_wp2_with (go_at_call 44; refine HN0.out.mono ?_; rintro r w' ⟨rfl, rfl⟩)
        go_ret
        exact ⟨ret_i (by first | rfl | omega | ((repeat' split) <;> first | rfl | omega | simp_all)), rfl⟩
    · by_cases hq : q = 0
      · have b0 : (q != 0) = false := by simp [hq]
        go_wp2_with (go_at_call 44; refine HN1.out.mono ?_; rintro r w' ⟨rfl, rfl⟩)
        go_roundw
        case rel => exact ⟨.inr (.inr ⟨rfl, hp, hq⟩), by first | rfl | trivial⟩
        case measure => simp [intOf]
      · have b0 : (q != 0) = true := by simp [hq]
        go_wp2_with (go_at_call 44; refine HN1.out.mono ?_; rintro r w' ⟨rfl, rfl⟩)
        go_ret
        exact ⟨ret_i (by first | rfl | omega | ((repeat' split) <;> first | rfl | omega | simp_all)), rfl⟩
    · go_wp2
      go_ret
      exact ⟨ret_i (by first | rfl | omega | ((repeat' split) <;> first | rfl | omega | simp_all)), rfl⟩
theorem cmpE_ahead (a b : En) : decide (cmpE a b < 0) = aheadB a b := by
  unfold cmpE cmp2 cmpZ aheadB
  apply Bool.eq_iff_iff.2
  repeat' split
  all_goals simp at *
  all_goals omega
set_option maxHeartbeats 4000000 in
theorem e_compare (a b : En) (w : World) : Calls Try.prog 26 #[enV a, enV b] w fun e w' => e = .returned (.int .i64 (cmpE a b)) ∧ Below w.heap.size w w' := by
  obtain ⟨W, hW⟩ : ∃ W, (w.alloc (.cells (enR a) 62)).alloc (.cells (enR b) 62) = W := ⟨_, rfl⟩
  have hb1 : Below w.heap.size w (w.alloc (.cells (enR a) 62)) := (Below.refl _ _).alloc (Nat.le_refl _) _
  have hb2 : Below (w.alloc (.cells (enR a) 62)).heap.size (w.alloc (.cells (enR a) 62)) W := by rw [← hW]; exact (Below.refl _ _).alloc (Nat.le_refl _) _
  have ka : Blk W w.heap.size 62 (enR a) := (Blk.new w 62 (enR a)).below hb2 (by simp)
  have kb : Blk W (w.heap.size + 1) 62 (enR b) := by
    have := Blk.new (w.alloc (.cells (enR a) 62)) 62 (enR b)
    rw [hW, World.size_alloc] at this
    exact this
  have hbw : Below w.heap.size w W := hb1.trans (hb2.mono (by simp))
  have a0 := ka.cell 0
  have a1 := ka.cell 1
  have a2 := ka.cell 2
  have b0 := kb.cell 0
  have b1 := kb.cell 1
  have b2 := kb.cell 2
  simp only [enR, List.getElem?_toArray, List.getElem?_cons_zero, List.getElem?_cons_succ] at a0 a1 a2 b0 b1 b2
  have HC1 : Hid (∀ w2 : World, Calls Try.prog 31 #[.int .i64 a.id, .int .i64 b.id] w2 fun e w' => e = .returned (.int .i64 (cmpZ a.id b.id)) ∧ w2 = w') := Lib.hid (fun w2 => s_cmp _ _ w2)
  have HC2 : Hid (Calls Try.prog 32 #[.slice (some ⟨w.heap.size, 0, none⟩) 2 2, .slice (some ⟨w.heap.size + 1, 0, none⟩) 2 2] W.drew fun e w' => e = .returned (.int .i64 (cmp2 a b)) ∧ W.drew = w') := Lib.hid (s_cmps a b W.drew _ _ 0 0 a0 a1 b0 b1)
  have HZ : Hid (∀ p q, cmpZ a.id b.id = p → cmp2 a b = q → cmpE a b = if p ≠ 0 then p else q) := Lib.hid (fun p q hp hq => by unfold cmpE; rw [hp, hq])
  rw [HZ.out _ _ rfl rfl]
  clear HZ
  generalize cmpZ a.id b.id = p at *
  generalize cmp2 a b = q at *
  have HC3 : Hid (Calls Try.prog 30 #[.slice (some ⟨W.heap.size, 0, none⟩) 2 2] (W.drew.alloc (.cells #[.int .i64 p, .int .i64 q] 3)) fun e w' => e = .returned (.int .i64 (if p ≠ 0 then p else q)) ∧ W.drew.alloc (.cells #[.int .i64 p, .int .i64 q] 3) = w') := Lib.hid (s_or p q _ _ (Blk.new W.drew 3 _))
  obtain ⟨r, hr⟩ : ∃ r, (if p ≠ 0 then p else q) = r := ⟨_, rfl⟩
  rw [hr] at HC3 ⊢
  clear hr
  have HE : Hid (Below w.heap.size w (W.drew.alloc (.cells #[.int .i64 p, .int .i64 q] 3))) := Lib.hid (hbw.drew.alloc hbw.size _)
  clear hb1 hb2 ka kb hbw
  unfold enV enR at *
  go_enter Try.func26, Try.ntmps26
  go_upto_region 1 with (fail)
  try rw [hW]
  clear hW
  go_region_with (first
    | (go_at_call 30; refine HC3.out.mono ?_; rintro e w' ⟨rfl, rfl⟩)
    | (go_at_call 31; refine (HC1.out _).mono ?_; rintro e w' ⟨rfl, rfl⟩)
    | (go_at_call 32; refine HC2.out.mono ?_; rintro e w' ⟨rfl, rfl⟩))
  all_goals
    go_wp2
    go_ret
    exact ⟨rfl, HE.out⟩
end Go.Proofs.Ytmnolldomipgiaa
