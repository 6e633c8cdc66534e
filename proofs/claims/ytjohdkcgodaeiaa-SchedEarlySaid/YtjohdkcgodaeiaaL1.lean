/- The law's examples; layer 42 (sched). -/
import Derived.Test.YtjohdkcgodaeiaaP5
namespace Go.Proofs.Ytjohdkcgodaeiaa
open Go.RowKit
open Go.Shelf

set_option maxRecDepth 100000 in
set_option maxHeartbeats 4000000 in
theorem p_follow0 (w : World) : Calls Try.prog 33 #[.slice none 0 0, .slice none 0 0] w fun e w' => e = .returned (.tuple #[.slice none 0 0, .slice none 0 0]) ∧ Below w.heap.size w w' := by
  have mk41 := make41
  have HB : Hid (Below w.heap.size w ((w.alloc (.map #[] 0)).alloc (.map #[] 0))) := Lib.hid (((Below.refl _ _).alloc (Nat.le_refl _) _).alloc (by simp) _)
  go_enter Try.func33, Try.ntmps33
  go_wp2
  clear mk41
  go_loopw [4, 5, 19] (fun r q i wr => r = .slice none 0 0 ∧ q = .slice none 0 0 ∧ i = .int .i64 0 ∧ Below w.heap.size w wr) (fun _ _ _ _ => 0)
  case atStart => exact ⟨rfl, rfl, rfl, HB.out⟩
  case round =>
    obtain ⟨rfl, rfl, rfl, hb⟩ := hrel
    go_wp2
    go_returns
    exact ⟨rfl, hb⟩
theorem max_one {w : World} {B : Nat} {v : Value} (h : Own w B v [0]) : ∃ g cap, v = .slice (some ⟨g, 0, none⟩) 1 cap ∧ Calls Try.prog 35 #[.slice (some ⟨g, 0, none⟩) 1 cap] w fun e w' => e = .returned (.int .i64 0) ∧ w' = w := by
  rcases h.pre with ⟨_, h0⟩ | ⟨g, cap, hv, _, hcap, hcm, hp⟩
  · cases h0
  · refine ⟨g, cap, hv, ?_⟩
    have h1 := Any.slices_Max_int Try.laysMax g 0 1 cap [0] w (by decide) (by decide) (by decide) (fun j hj => by rw [Nat.zero_add]; exact hp.cell hj)
    have e : Lib.maxOf (([0] : List Int).take 1) = 0 := by rfl
    rw [e] at h1
    exact h1
set_option maxRecDepth 100000 in
set_option maxHeartbeats 4000000 in
theorem p_Widest0 (w : World) : Calls Try.prog 16 #[.slice none 0 0, .slice none 0 0, .slice none 0 0] w fun e w' => e = .returned (.int .i64 0) ∧ Below w.heap.size w w' := by
  obtain ⟨i0, hi0, hz0, hz1, hz2⟩ := info_parts info3
  have HF := Lib.hid (p_follow0 w)
  go_enter Try.func16, Try.ntmps16
  go_wp2_with (first
    | (go_at_call 35; refine HM5.out.mono ?_; rintro e w6 ⟨rfl, hw6⟩; subst hw6)
    | (at_builtin; refine wpList_append_own _ rfl _ _ 23 rfl w1.heap.size 3 i0 _ 1 8 Try.underlying23 hi0 hz0 hz1 hz2 rfl (by decide) (.slice none 0 0) 0 [] rfl (World.ownsRow.alloc (World.ownsRow_nil _ _ _ _) _) ⟨w1.heap.size, 0, none⟩ 1 1 [.int .i64 0] rfl rfl (cell_one_new _ _ _) (by simp [Value.oneCell']) (max_ok (by omega)) (by omega) (by simp) ?_; intro v5 w5 hO5 hg5 _; have HB5 := Lib.hid (HB1.out.trans ((((Below.refl w1.heap.size w1).alloc (Nat.le_refl _) _).grown hg5 (by simp) (fun k e => by simp [Value.ownBlock] at e)).mono HB1.out.size)); obtain ⟨g, cap, rfl, hM⟩ := max_one (hO5 : Own w5 w1.heap.size v5 [0]); have HM5 := Lib.hid hM; clear hO5 hg5 hM)
    | (go_at_call 33; refine HF.out.mono ?_; rintro e w1 ⟨rfl, hb1⟩; have HB1 := Lib.hid hb1; clear hb1))
  go_ret
  exact ⟨rfl, HB5.out⟩
/-- The example's parts, as they lie. -/
def exRows (h : Nat) : List Rw := [(some ⟨h, 0, none⟩, 2, [0, 1]), (some ⟨h + 1, 0, none⟩, 2, [1, 2]), (some ⟨h + 1 + 1, 0, none⟩, 1, [2])]
theorem ex_plan1 (h : Nat) : planT (fun k => sL (pr (exRows h) k)) [2, 1, 5] 3 [0, 1, 2] (cntP (exRows h) 3) (fun _ => false) [5] = [(2, [5]), (1, [2]), (0, [1])] := by kernel_rfl
theorem ex_free (h : Nat) : sL (List.filter (fun v => decide (v ∈ sL (allL (exRows h) (exRows h).length)) == false) [2, 1, 5]) = [5] := by kernel_rfl
theorem ex_plan (h : Nat) : planR (exRows h) [2, 1, 5] = [(2, [5]), (1, [2]), (0, [1])] := by
  unfold planR chs
  have hT : setT (exRows h) = fun k => sL (pr (exRows h) k) := funext fun k => setL_sL _
  rw [hT, setL_sL, setL_sL, ex_free]
  exact ex_plan1 h
theorem three_of {T : List St} {a b c : Int × List Int} (h : T.map stK = [a, b, c]) : ∃ (A0 A1 A2 : Option Addr) (c0 c1 c2 : Nat), T = [(a.1, A0, c0, a.2), (b.1, A1, c1, b.2), (c.1, A2, c2, c.2)] := by
  match T, h with
  | [(p0, A0, c0, l0), (p1, A1, c1, l1), (p2, A2, c2, l2)], h =>
    unfold stK at h
    simp at h
    obtain ⟨h0, h1, h2⟩ := h
    subst h0 h1 h2
    exact ⟨A0, A1, A2, c0, c1, c2, rfl⟩
theorem ex_in : ∀ v ∈ ([2, 1, 5] : List Int), In64 v := by intro v hv; simp at hv; unfold In64; omega
theorem ex_pin (h : Nat) : ∀ j, j < (exRows h).length → ∀ v ∈ pr (exRows h) j, In64 v := by
  intro j hj v hv
  have hj3 : j < 3 := hj
  unfold In64
  obtain rfl | rfl | rfl : j = 0 ∨ j = 1 ∨ j = 2 := by omega
  · have hv2 : v ∈ ([0, 1] : List Int) := hv
    simp at hv2; omega
  · have hv2 : v ∈ ([1, 2] : List Int) := hv
    simp at hv2; omega
  · have hv2 : v ∈ ([2] : List Int) := hv
    simp at hv2; omega
set_option maxHeartbeats 2000000 in
theorem ex_call (w : World) : Calls Try.prog 8 #[.slice (some ⟨w.heap.size + 1 + 1 + 1, 0, none⟩) 3 3, .slice (some ⟨w.heap.size + 1 + 1 + 1 + 1, 0, none⟩) 3 3]
    (((((w.alloc (.cells #[.int .i64 0, .int .i64 1] 3)).alloc (.cells #[.int .i64 1, .int .i64 2] 3)).alloc (.cells #[.int .i64 2] 3)).alloc (.cells #[.slice (some ⟨w.heap.size, 0, none⟩) 2 2, .slice (some ⟨w.heap.size + 1, 0, none⟩) 2 2, .slice (some ⟨w.heap.size + 1 + 1, 0, none⟩) 1 1] 23)).alloc (.cells #[.int .i64 2, .int .i64 1, .int .i64 5] 3))
    fun e w' => ∃ A c A0 A1 A2 c0 c1 c2, e = .returned (.slice A 3 c) ∧ StP w' A [(2, A0, c0, [5]), (1, A1, c1, [2]), (0, A2, c2, [1])] ∧ Below w.heap.size w w' := by
  have s1 : (w.alloc (.cells #[.int .i64 0, .int .i64 1] 3)).heap.size = w.heap.size + 1 := by simp
  have b1 := Blk.new w 3 #[.int .i64 0, .int .i64 1]
  obtain ⟨W1, hW1⟩ : ∃ W, w.alloc (.cells #[.int .i64 0, .int .i64 1] 3) = W := ⟨_, rfl⟩
  have k1 : Below w.heap.size w W1 := by rw [← hW1]; exact (Below.refl _ _).alloc (Nat.le_refl _) _
  rw [hW1] at s1 b1 ⊢
  have b2 := Blk.new W1 3 #[.int .i64 1, .int .i64 2]
  have b1 := b1.alloc (.cells #[.int .i64 1, .int .i64 2] 3)
  have s2 : (W1.alloc (.cells #[.int .i64 1, .int .i64 2] 3)).heap.size = w.heap.size + 1 + 1 := by simp [s1]
  have k2 : Below w.heap.size w (W1.alloc (.cells #[.int .i64 1, .int .i64 2] 3)) := k1.alloc k1.size _
  generalize W1.alloc (.cells #[.int .i64 1, .int .i64 2] 3) = W2 at *
  have b3 := Blk.new W2 3 #[.int .i64 2]
  have b1 := b1.alloc (.cells #[.int .i64 2] 3)
  have b2 := b2.alloc (.cells #[.int .i64 2] 3)
  have s3 : (W2.alloc (.cells #[.int .i64 2] 3)).heap.size = w.heap.size + 1 + 1 + 1 := by simp [s2]
  have k3 : Below w.heap.size w (W2.alloc (.cells #[.int .i64 2] 3)) := k2.alloc k2.size _
  generalize W2.alloc (.cells #[.int .i64 2] 3) = W3 at *
  have b4 := Blk.new W3 23 #[.slice (some ⟨w.heap.size, 0, none⟩) 2 2, .slice (some ⟨w.heap.size + 1, 0, none⟩) 2 2, .slice (some ⟨w.heap.size + 1 + 1, 0, none⟩) 1 1]
  have b1 := b1.alloc (.cells #[.slice (some ⟨w.heap.size, 0, none⟩) 2 2, .slice (some ⟨w.heap.size + 1, 0, none⟩) 2 2, .slice (some ⟨w.heap.size + 1 + 1, 0, none⟩) 1 1] 23)
  have b2 := b2.alloc (.cells #[.slice (some ⟨w.heap.size, 0, none⟩) 2 2, .slice (some ⟨w.heap.size + 1, 0, none⟩) 2 2, .slice (some ⟨w.heap.size + 1 + 1, 0, none⟩) 1 1] 23)
  have b3 := b3.alloc (.cells #[.slice (some ⟨w.heap.size, 0, none⟩) 2 2, .slice (some ⟨w.heap.size + 1, 0, none⟩) 2 2, .slice (some ⟨w.heap.size + 1 + 1, 0, none⟩) 1 1] 23)
  have s4 : (W3.alloc (.cells #[.slice (some ⟨w.heap.size, 0, none⟩) 2 2, .slice (some ⟨w.heap.size + 1, 0, none⟩) 2 2, .slice (some ⟨w.heap.size + 1 + 1, 0, none⟩) 1 1] 23)).heap.size = w.heap.size + 1 + 1 + 1 + 1 := by simp [s3]
  have k4 : Below w.heap.size w (W3.alloc (.cells #[.slice (some ⟨w.heap.size, 0, none⟩) 2 2, .slice (some ⟨w.heap.size + 1, 0, none⟩) 2 2, .slice (some ⟨w.heap.size + 1 + 1, 0, none⟩) 1 1] 23)) := k3.alloc k3.size _
  generalize W3.alloc (.cells #[.slice (some ⟨w.heap.size, 0, none⟩) 2 2, .slice (some ⟨w.heap.size + 1, 0, none⟩) 2 2, .slice (some ⟨w.heap.size + 1 + 1, 0, none⟩) 1 1] 23) = W4 at *
  have b5 := Blk.new W4 3 #[.int .i64 2, .int .i64 1, .int .i64 5]
  have b1 := b1.alloc (.cells #[.int .i64 2, .int .i64 1, .int .i64 5] 3)
  have b2 := b2.alloc (.cells #[.int .i64 2, .int .i64 1, .int .i64 5] 3)
  have b3 := b3.alloc (.cells #[.int .i64 2, .int .i64 1, .int .i64 5] 3)
  have b4 := b4.alloc (.cells #[.int .i64 2, .int .i64 1, .int .i64 5] 3)
  have k5 : Below w.heap.size w (W4.alloc (.cells #[.int .i64 2, .int .i64 1, .int .i64 5] 3)) := k4.alloc k4.size _
  rw [s1] at b2
  rw [s2] at b3
  rw [s3] at b4
  rw [s4] at b5
  generalize W4.alloc (.cells #[.int .i64 2, .int .i64 1, .int .i64 5] 3) = W at *
  have hRR : RR W W.heap.size (some ⟨w.heap.size + 1 + 1 + 1, 0, none⟩) (exRows w.heap.size) := by
    refine ⟨fun _ => ⟨_, 0, rfl, b4.lt, fun i hi => ?_⟩, fun i hi => ?_⟩
    · have hi3 : i < 3 := hi
      obtain rfl | rfl | rfl : i = 0 ∨ i = 1 ∨ i = 2 := by omega
      · exact b4.cell 0
      · exact b4.cell 1
      · exact b4.cell 2
    · have hi3 : i < 3 := hi
      obtain rfl | rfl | rfl : i = 0 ∨ i = 1 ∨ i = 2 := by omega
      · exact ⟨RI.blk (l := [0, 1]) b1 b1.lt, fun e => by cases e⟩
      · exact ⟨RI.blk (l := [1, 2]) b2 b2.lt, fun e => by cases e⟩
      · exact ⟨RI.blk (l := [2]) b3 b3.lt, fun e => by cases e⟩
  have hRI : RI W W.heap.size (some ⟨w.heap.size + 1 + 1 + 1 + 1, 0, none⟩) [2, 1, 5] := RI.blk (l := [2, 1, 5]) b5 b5.lt
  have h := p_Plan (some ⟨w.heap.size + 1 + 1 + 1, 0, none⟩) (some ⟨w.heap.size + 1 + 1 + 1 + 1, 0, none⟩) 3 3 (exRows w.heap.size) [2, 1, 5] W hRR hRI (by show 3 ≤ 1000; decide) (by decide) (fun j hj => by
    have hj3 : j < 3 := hj
    obtain rfl | rfl | rfl : j = 0 ∨ j = 1 ∨ j = 2 := by omega
    · show 2 ≤ 100; decide
    · show 2 ≤ 100; decide
    · show 1 ≤ 100; decide) (ex_pin _) ex_in
  refine h.mono ?_
  rintro e w' ⟨A, c, T, he, hst, hmap, hb⟩
  rw [ex_plan] at hmap
  obtain ⟨A0, A1, A2, c0, c1, c2, hT⟩ := three_of hmap
  subst hT
  exact ⟨A, c, A0, A1, A2, c0, c1, c2, he, hst, k5.trans (hb.mono k5.size)⟩
set_option maxRecDepth 100000 in
set_option maxHeartbeats 8000000 in
theorem law_lives (w : World) : Calls Try.prog 7 #[] w fun e w' => e = .returned (.bool true) ∧ Below w.heap.size w w' := by
  have HE := Lib.hid (ex_call w)
  go_enter Try.func7, Try.ntmps7
  go_upto_region 2 with (go_at_call 8; refine HE.out.mono ?_; rintro e w1 ⟨A, c, A0, A1, A2, c0, c1, c2, rfl, hst, hb1⟩; have HST := Lib.hid hst; have HB1 := Lib.hid hb1; clear hst hb1)
  obtain ⟨b, off, rfl, hb, hc⟩ := HST.out.1 (show 0 < 3 from by decide)
  obtain ⟨x0, x1⟩ := hc 0 (show 0 < 3 from by decide)
  obtain ⟨y0, y1⟩ := hc 1 (show 1 < 3 from by decide)
  obtain ⟨z0, z1⟩ := hc 2 (show 2 < 3 from by decide)
  obtain ⟨b0, o0, hA0, hb0, hc0⟩ := HST.out.2 0 (show 0 < 3 from by decide) (show 0 < 1 from by decide)
  obtain ⟨b1, o1, hA1, hb1, hc1⟩ := HST.out.2 1 (show 1 < 3 from by decide) (show 0 < 1 from by decide)
  have i0 := hc0 0 (show 0 < 1 from by decide)
  have i1 := hc1 0 (show 0 < 1 from by decide)
  have hA0' : A0 = some ⟨b0, o0, none⟩ := hA0
  have hA1' : A1 = some ⟨b1, o1, none⟩ := hA1
  subst hA0' hA1'
  have e0 : w1.cell? ⟨b, off, none⟩ = some (.int .i64 2) := x0
  have e1 : w1.cell? ⟨b, off + 1, none⟩ = some (.slice (some ⟨b0, o0, none⟩) 1 c0) := x1
  have f0 : w1.cell? ⟨b, off + 2, none⟩ = some (.int .i64 1) := y0
  have f1 : w1.cell? ⟨b, off + 2 + 1, none⟩ = some (.slice (some ⟨b1, o1, none⟩) 1 c1) := y1
  have f2 : w1.cell? ⟨b, off + 3, none⟩ = some (.slice (some ⟨b1, o1, none⟩) 1 c1) := y1
  have g0 : w1.cell? ⟨b, off + 4, none⟩ = some (.int .i64 0) := z0
  have j0 : w1.cell? ⟨b0, o0, none⟩ = some (.int .i64 5) := i0
  have j1 : w1.cell? ⟨b1, o1, none⟩ = some (.int .i64 2) := i1
  have HW := Lib.hid (p_Widest0 w1)
  clear hc x0 x1 y0 y1 z0 z1 hc0 hc1 i0 i1 HE hA0 hA1
  go_wp2_with (go_at_call 16; refine HW.out.mono ?_; rintro e w2 ⟨rfl, hb2⟩; have HB2 := Lib.hid (HB1.out.trans (hb2.mono HB1.out.size)); clear hb2)
  go_ret
  exact ⟨rfl, HB2.out⟩
end Go.Proofs.Ytjohdkcgodaeiaa
