/- The sort of the entries; layer 10 (uniq). -/
import Derived.Test.YtmnolldomipgiaaFn9
import Derived.Shelf.SlSortCmp.NoneTotal
import Derived.Shelf.Lay
import Derived.Ground.SlsfProg
import Derived.Ground.NamesProg
namespace Go.Proofs.Ytmnolldomipgiaa
open Go.RowKit Go.Shelf Go.Maps Go.Lib Go.Sort
def laySort_ren : Go.Shelf.Ren := ⟨fun | 6 => 25 | 15 => 29 | 14 => 28 | 28 => 41 | 29 => 42 | 20 => 33 | 21 => 34 | 22 => 35 | 23 => 36 | 24 => 37 | 25 => 38 | 26 => 39 | 27 => 40 | 46 => 45 | 47 => 46 | 48 => 47 | 49 => 48 | 50 => 49 | 57 => 51 | n => n, fun | 22 => 59 | 24 => 62 | 25 => 65 | 3 => 3 | 39 => 68 | 0 => 0 | 53 => 81 | 55 => 83 | 4 => 4 | 46 => 75 | 45 => 74 | 50 => 34 | 5 => 5 | 9 => 9 | 66 => 87 | 70 => 91 | 76 => 94 | 77 => 95 | n => n, fun | n => n⟩
theorem laySort : Go.Proofs.SlLaysF0.n6 Try.prog laySort_ren := {
  mixed := by kernel_rfl
  f6 := ⟨Try.f25.name, by decide, Try.func25.trans (congrArg some (by kernel_rfl))⟩
  f14 := ⟨Try.f28.name, by decide, Try.func28.trans (congrArg some (by kernel_rfl))⟩
  f15 := Try.func29.trans (congrArg some (by kernel_rfl))
  f20 := ⟨Try.f33.name, by decide, Try.func33.trans (congrArg some (by kernel_rfl))⟩
  f21 := ⟨Try.f34.name, by decide, Try.func34.trans (congrArg some (by kernel_rfl))⟩
  f22 := ⟨Try.f35.name, by decide, Try.func35.trans (congrArg some (by kernel_rfl))⟩
  f23 := ⟨Try.f36.name, by decide, Try.func36.trans (congrArg some (by kernel_rfl))⟩
  f24 := ⟨Try.f37.name, by decide, Try.func37.trans (congrArg some (by kernel_rfl))⟩
  f25 := ⟨Try.f38.name, by decide, Try.func38.trans (congrArg some (by kernel_rfl))⟩
  f26 := ⟨Try.f39.name, by decide, Try.func39.trans (congrArg some (by kernel_rfl))⟩
  f27 := ⟨Try.f40.name, by decide, Try.func40.trans (congrArg some (by kernel_rfl))⟩
  f28 := Try.func41.trans (congrArg some (by kernel_rfl))
  f29 := Try.func42.trans (congrArg some (by kernel_rfl))
  f46 := ⟨Try.f45.name, by decide, Try.func45.trans (congrArg some (by kernel_rfl))⟩
  f47 := Try.func46.trans (congrArg some (by kernel_rfl))
  f48 := Try.func47.trans (congrArg some (by kernel_rfl))
  f49 := ⟨Try.f48.name, by decide, Try.func48.trans (congrArg some (by kernel_rfl))⟩
  f50 := ⟨Try.f49.name, by decide, Try.func49.trans (congrArg some (by kernel_rfl))⟩
  f57 := ⟨Try.f51.name, by decide, Try.func51.trans (congrArg some (by kernel_rfl))⟩
  t0 := Try.underlying0
  a0 := Try.isAgg0
  z0 := Try.sizeOf0
  v0 := Try.zeroValue0
  t3 := Try.underlying3
  a3 := Try.isAgg3
  z3 := Try.sizeOf3
  v3 := Try.zeroValue3
  t4 := Try.underlying4
  a4 := Try.isAgg4
  z4 := Try.sizeOf4
  v4 := Try.zeroValue4
  t5 := Try.underlying5
  a5 := Try.isAgg5
  z5 := Try.sizeOf5
  v5 := Try.zeroValue5
  t9 := Try.underlying9
  a9 := Try.isAgg9
  z9 := Try.sizeOf9
  v9 := Try.zeroValue9
  t22 := Try.underlying59
  a22 := Try.isAgg59
  z22 := Try.sizeOf59
  v22 := Try.zeroValue59
  t25 := Try.underlying65
  a25 := Try.isAgg65
  z25 := Try.sizeOf65
  v25 := Try.zeroValue65
  t39 := Try.underlying68
  a39 := Try.isAgg68
  z39 := Try.sizeOf68
  v39 := Try.zeroValue68
  t45 := Try.underlying74
  a45 := Try.isAgg74
  z45 := Try.sizeOf74
  v45 := Try.zeroValue74
  t46 := Try.underlying75
  a46 := Try.isAgg75
  z46 := Try.sizeOf75
  v46 := Try.zeroValue75
  t50 := Try.underlying34
  a50 := Try.isAgg34
  z50 := Try.sizeOf34
  v50 := Try.zeroValue34
  t53 := Try.underlying81
  a53 := Try.isAgg81
  z53 := Try.sizeOf81
  v53 := Try.zeroValue81
  t55 := Try.underlying83
  a55 := Try.isAgg83
  z55 := Try.sizeOf83
  v55 := Try.zeroValue83
  t66 := Try.underlying87
  a66 := Try.isAgg87
  z66 := Try.sizeOf87
  v66 := Try.zeroValue87
  t70 := Try.underlying91
  a70 := Try.isAgg91
  z70 := Try.sizeOf91
  v70 := Try.zeroValue91
  t76 := Try.underlying94
  a76 := Try.isAgg94
  z76 := Try.sizeOf94
  v76 := Try.zeroValue94
  t77 := Try.underlying95
  a77 := Try.isAgg95
  z77 := Try.sizeOf95
  v77 := Try.zeroValue95 }

theorem agg62 : ∀ w, (isAgg 62).run Try.prog w = .ok true w := fun w => by kernel_rfl
theorem size62 : ∀ w, (Go.sizeOf 62).run Try.prog w = .ok 3 w := fun w => by kernel_rfl
set_option maxHeartbeats 4000000 in
theorem c_compare (a b : En) (w : World) : Calls Try.prog 26 #[enV a, enV b] w fun e w' => e = .returned (.int .i64 (cmpE a b)) ∧ ∃ q os', w' = grow (w.drewN q) os' := by
  obtain ⟨W, hW⟩ : ∃ W, (w.alloc (.cells (enR a) 62)).alloc (.cells (enR b) 62) = W := ⟨_, rfl⟩
  have hb2 : Below (w.alloc (.cells (enR a) 62)).heap.size (w.alloc (.cells (enR a) 62)) W := by rw [← hW]; exact (Below.refl _ _).alloc (Nat.le_refl _) _
  have ka : Blk W w.heap.size 62 (enR a) := (Blk.new w 62 (enR a)).below hb2 (by simp)
  have kb : Blk W (w.heap.size + 1) 62 (enR b) := by
    have := Blk.new (w.alloc (.cells (enR a) 62)) 62 (enR b)
    rw [hW, World.size_alloc] at this
    exact this
  have a0 := ka.cell 0
  have a1 := ka.cell 1
  have a2 := ka.cell 2
  have b0 := kb.cell 0
  have b1 := kb.cell 1
  have b2 := kb.cell 2
  simp only [enR, List.getElem?_toArray, List.getElem?_cons_zero, List.getElem?_cons_succ] at a0 a1 a2 b0 b1 b2
  have HC1 : Hid (∀ w2 : World, Calls Try.prog 31 #[.int .i64 a.id, .int .i64 b.id] w2 fun e w' => e = .returned (.int .i64 (cmpZ a.id b.id)) ∧ w2 = w') := Lib.hid (fun w2 => s_cmp _ _ w2)
  have HC2 : Hid (Calls Try.prog 32 #[.slice (some ⟨w.heap.size, 0, none⟩) 2 2, .slice (some ⟨w.heap.size + 1, 0, none⟩) 2 2] W.drew fun e w' => e = .returned (.int .i64 (cmp2 a b)) ∧ W.drew = w') := Lib.hid (s_cmps a b W.drew _ _ 0 0 a0 a1 b0 b1)
  have HZ : Hid (∀ p q, cmpZ a.id b.id = p → cmp2 a b = q → cmpE a b = if p ≠ 0 then p else q) := Lib.hid (fun p q hp hq => by unfold cmpE; rw [hp, hq])
  rw [HZ.out _ _ rfl rfl]
  clear HZ
  generalize cmpZ a.id b.id = p at *
  generalize cmp2 a b = q at *
  have HC3 : Hid (Calls Try.prog 30 #[.slice (some ⟨W.heap.size, 0, none⟩) 2 2] (W.drew.alloc (.cells #[.int .i64 p, .int .i64 q] 3)) fun e w' => e = .returned (.int .i64 (if p ≠ 0 then p else q)) ∧ W.drew.alloc (.cells #[.int .i64 p, .int .i64 q] 3) = w') := Lib.hid (s_or p q _ _ (Blk.new W.drew 3 _))
  obtain ⟨r, hr⟩ : ∃ r, (if p ≠ 0 then p else q) = r := ⟨_, rfl⟩
  rw [hr] at HC3 ⊢
  clear hr
  have HE : Hid (∃ qq os', W.drew.alloc (.cells #[.int .i64 p, .int .i64 q] 3) = grow (w.drewN qq) os') := Lib.hid ⟨1, _, by rw [← hW]; simp only [alloc_eq_grow, drew_grow, grow_grow]; rfl⟩
  clear hb2 ka kb
  unfold enV enR at *
  go_enter Try.func26, Try.ntmps26
  go_upto_region 1 with (fail)
  try rw [hW]
  clear hW
  go_region_with (first
    | (go_at_call 30; refine HC3.out.mono ?_; rintro e w' ⟨rfl, rfl⟩)
    | (go_at_call 31; refine (HC1.out _).mono ?_; rintro e w' ⟨rfl, rfl⟩)
    | (go_at_call 32; refine HC2.out.mono ?_; rintro e w' ⟨rfl, rfl⟩))
  all_goals
    go_wp2
    go_ret
    exact ⟨rfl, HE.out⟩
theorem lt_cmpE (x y : En) : ltOf cmpE x y = aheadB x y := cmpE_ahead x y
theorem ahead_tot {x y : En} (h1 : aheadB x y = false) (h2 : aheadB y x = false) : x = y := by
  by_cases h : x = y
  · exact h
  · have := ahead_tri h; rw [h1, h2] at this; cases this
theorem ahead_asym {x y : En} (h : aheadB x y = true) : aheadB y x = false := by
  cases hq : aheadB y x with
  | false => rfl
  | true => have := ahead_trans h hq; rw [ahead_irr] at this; cases this
theorem swoE : SWO (ltOf cmpE) where
  irrefl x := by rw [lt_cmpE]; exact ahead_irr x
  trans x y z h1 h2 := by rw [lt_cmpE] at *; exact ahead_trans h1 h2
  ntrans x y z h1 h2 := by
    rw [lt_cmpE] at *
    cases hq : aheadB x z with
    | false => rfl
    | true =>
      by_cases h : x = y
      · subst h; rw [hq] at h2; cases h2
      · have h3 := ahead_tri h
        rw [h1] at h3
        have h4 : aheadB y x = true := by simpa using h3.symm
        have h5 := ahead_trans h4 hq
        rw [h2] at h5; cases h5
theorem sort_perm {L M : List En} (hp : L.Perm M) (hs : Srt M) : L.mergeSort (fun x y => !(ltOf cmpE) y x) = M := by
  have e : (fun x y : En => !(ltOf cmpE) y x) = (fun x y => !aheadB y x) := by funext x y; rw [lt_cmpE]
  rw [e]
  refine List.Perm.eq_of_pairwise (le := fun x y => (!aheadB y x) = true) ?_ (List.pairwise_mergeSort ?_ ?_ L) ?_ ((List.mergeSort_perm L _).trans hp)
  · intro a b _ _ h1 h2
    exact ahead_tot (by simpa using h2) (by simpa using h1)
  · intro a b c h1 h2
    simp only [Bool.not_eq_true'] at *
    have := swoE.ntrans c b a (by rw [lt_cmpE]; exact h2) (by rw [lt_cmpE]; exact h1)
    rw [lt_cmpE] at this; exact this
  · intro a b
    cases h1 : aheadB b a with
    | false => simp
    | true => simp [ahead_asym h1]
  · exact hs.imp (fun {a b} h => by simp [ahead_asym h])
end Go.Proofs.Ytmnolldomipgiaa
