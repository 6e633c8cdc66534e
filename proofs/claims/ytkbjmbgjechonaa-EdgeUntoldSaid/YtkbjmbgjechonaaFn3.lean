/- Contracts of Ite and lives, over the translation. -/
import Derived.Test.YtkbjmbgjechonaaFn2
namespace Go.Proofs.Ytkbjmbgjechonaa
open Go.RowKit

theorem notF_range {e : Int} (h1 : 0 ≤ e) : 0 ≤ notF e ∧ notF e ≤ e + 1 := by
  unfold notF; split <;> omega
theorem knownF_range {f o here : Int} (h1 : 0 ≤ o) (h2 : o ≤ 4294967297) (h3 : 0 ≤ here) (h4 : here ≤ 1) : 0 ≤ knownF f o here ∧ knownF f o here ≤ 4294967297 := by
  have := notF_range h3
  unfold knownF; split
  · omega
  · split <;> omega
def Ask (x : Int × Int × Int × Bool × Int × Bool) : Array Value := #[.int .i64 x.1, .int .i64 x.2.1, .int .i64 x.2.2.1, .bool x.2.2.2.1, .int .i64 x.2.2.2.2.1, .bool x.2.2.2.2.2]
theorem ret_t {x y : Int × Int × Int × Bool × Int × Bool} (h : x = y) : Ending.returned (.tuple (Ask x)) = .returned (.tuple (Ask y)) := by rw [h]
theorem ret_a {x y : Int × Int × Int × Bool × Int × Bool} (h : x = y) : Ending.returned (.agg (Ask x)) = .returned (.agg (Ask y)) := by rw [h]

theorem edge_Ite_done (f g h : Int) (w : World) (f1 : 0 ≤ f) (f2 : f ≤ 1152921504606846976) (hs : (settledF f (knownF f g 0) (knownF f h 1)).2 = true) :
    Calls Try.prog 27 #[.int .i64 f, .int .i64 g, .int .i64 h] w fun r w' => r = .returned (.tuple (Ask (iteF f g h))) ∧ Below w.heap.size w w' := by
  have e1 : iteF f g h = (0, 0, 0, false, (settledF f (knownF f g 0) (knownF f h 1)).1, true) := by unfold iteF; rw [if_pos hs]
  rw [e1]
  clear e1
  go_enter Try.func27, Try.ntmps27
  go_wp2_with (first
      | (go_at_call 29; refine (edge_known _ _ _ _ (by omega) (by omega) (by omega) (by omega)).mono ?_; rintro e w' ⟨rfl, rfl⟩)
      | (go_at_call 30; refine (edge_settled _ _ _ _ (by omega) (by omega)).mono ?_; rintro e w' ⟨rfl, hg1⟩))
  go_returns
  exact ⟨rfl, hg1⟩

set_option maxHeartbeats 400000 in
theorem edge_Ite_yy (f g h : Int) (w : World) (f1 : 0 ≤ f) (f2 : f ≤ 4294967296) (g1 : 0 ≤ g) (g2 : g ≤ 4294967296) (h1 : 0 ≤ h) (h2 : h ≤ 4294967296) (hs : (settledF f (knownF f g 0) (knownF f h 1)).2 = false)
    (hn : negF f = true) (hm : negF (knownF f h 1) = true) :
    Calls Try.prog 27 #[.int .i64 f, .int .i64 g, .int .i64 h] w fun r w' => r = .returned (.tuple (Ask (iteF f g h))) ∧ Below w.heap.size w w' := by
  obtain ⟨r1, r2⟩ := notF_range f1
  obtain ⟨r3, r4⟩ := knownF_range (f := f) g1 (by omega : g ≤ 4294967297) (here := 0) (by omega) (by omega)
  obtain ⟨r5, r6⟩ := knownF_range (f := f) h1 (by omega : h ≤ 4294967297) (here := 1) (by omega) (by omega)
  obtain ⟨r7, r8⟩ := notF_range r3
  obtain ⟨r9, r10⟩ := notF_range r5
  have e1 : iteF f g h = ((notF f), notF (knownF f h 1), notF (knownF f g 0), true, 0, false) := by unfold iteF turnedF; simp [hs, hn, hm]
  rw [e1]
  clear e1
  go_enter Try.func27, Try.ntmps27
  go_wp2_with (first
      | (go_at_call 29; refine (edge_known _ _ _ _ (by omega) (by omega) (by omega) (by omega)).mono ?_; rintro e w' ⟨rfl, rfl⟩)
      | (go_at_call 13; refine (edge_Neg _ _ (by omega) (by omega)).mono ?_; rintro e w' ⟨rfl, rfl⟩)
      | (go_at_call 15; refine (edge_Not _ _ (by omega) (by omega)).mono ?_; rintro e w' ⟨rfl, rfl⟩)
      | (go_at_call 30; refine (edge_settled _ _ _ _ (by omega) (by omega)).mono ?_; rintro e w' ⟨rfl, hg1⟩))
  go_returns
  exact ⟨rfl, hg1⟩

set_option maxHeartbeats 400000 in
theorem edge_Ite_yn (f g h : Int) (w : World) (f1 : 0 ≤ f) (f2 : f ≤ 4294967296) (g1 : 0 ≤ g) (g2 : g ≤ 4294967296) (h1 : 0 ≤ h) (h2 : h ≤ 4294967296) (hs : (settledF f (knownF f g 0) (knownF f h 1)).2 = false)
    (hn : negF f = true) (hm : negF (knownF f h 1) = false) :
    Calls Try.prog 27 #[.int .i64 f, .int .i64 g, .int .i64 h] w fun r w' => r = .returned (.tuple (Ask (iteF f g h))) ∧ Below w.heap.size w w' := by
  obtain ⟨r1, r2⟩ := notF_range f1
  obtain ⟨r3, r4⟩ := knownF_range (f := f) g1 (by omega : g ≤ 4294967297) (here := 0) (by omega) (by omega)
  obtain ⟨r5, r6⟩ := knownF_range (f := f) h1 (by omega : h ≤ 4294967297) (here := 1) (by omega) (by omega)
  obtain ⟨r7, r8⟩ := notF_range r3
  obtain ⟨r9, r10⟩ := notF_range r5
  have e1 : iteF f g h = ((notF f), (knownF f h 1), (knownF f g 0), false, 0, false) := by unfold iteF turnedF; simp [hs, hn, hm]
  rw [e1]
  clear e1
  go_enter Try.func27, Try.ntmps27
  go_wp2_with (first
      | (go_at_call 29; refine (edge_known _ _ _ _ (by omega) (by omega) (by omega) (by omega)).mono ?_; rintro e w' ⟨rfl, rfl⟩)
      | (go_at_call 13; refine (edge_Neg _ _ (by omega) (by omega)).mono ?_; rintro e w' ⟨rfl, rfl⟩)
      | (go_at_call 15; refine (edge_Not _ _ (by omega) (by omega)).mono ?_; rintro e w' ⟨rfl, rfl⟩)
      | (go_at_call 30; refine (edge_settled _ _ _ _ (by omega) (by omega)).mono ?_; rintro e w' ⟨rfl, hg1⟩))
  go_returns
  exact ⟨rfl, hg1⟩

set_option maxHeartbeats 400000 in
theorem edge_Ite_ny (f g h : Int) (w : World) (f1 : 0 ≤ f) (f2 : f ≤ 4294967296) (g1 : 0 ≤ g) (g2 : g ≤ 4294967296) (h1 : 0 ≤ h) (h2 : h ≤ 4294967296) (hs : (settledF f (knownF f g 0) (knownF f h 1)).2 = false)
    (hn : negF f = false) (hm : negF (knownF f g 0) = true) :
    Calls Try.prog 27 #[.int .i64 f, .int .i64 g, .int .i64 h] w fun r w' => r = .returned (.tuple (Ask (iteF f g h))) ∧ Below w.heap.size w w' := by
  obtain ⟨r1, r2⟩ := notF_range f1
  obtain ⟨r3, r4⟩ := knownF_range (f := f) g1 (by omega : g ≤ 4294967297) (here := 0) (by omega) (by omega)
  obtain ⟨r5, r6⟩ := knownF_range (f := f) h1 (by omega : h ≤ 4294967297) (here := 1) (by omega) (by omega)
  obtain ⟨r7, r8⟩ := notF_range r3
  obtain ⟨r9, r10⟩ := notF_range r5
  have e1 : iteF f g h = (f, notF (knownF f g 0), notF (knownF f h 1), true, 0, false) := by unfold iteF turnedF; simp [hs, hn, hm]
  rw [e1]
  clear e1
  go_enter Try.func27, Try.ntmps27
  go_wp2_with (first
      | (go_at_call 29; refine (edge_known _ _ _ _ (by omega) (by omega) (by omega) (by omega)).mono ?_; rintro e w' ⟨rfl, rfl⟩)
      | (go_at_call 13; refine (edge_Neg _ _ (by omega) (by omega)).mono ?_; rintro e w' ⟨rfl, rfl⟩)
      | (go_at_call 15; refine (edge_Not _ _ (by omega) (by omega)).mono ?_; rintro e w' ⟨rfl, rfl⟩)
      | (go_at_call 30; refine (edge_settled _ _ _ _ (by omega) (by omega)).mono ?_; rintro e w' ⟨rfl, hg1⟩))
  go_returns
  exact ⟨rfl, hg1⟩

set_option maxHeartbeats 400000 in
theorem edge_Ite_nn (f g h : Int) (w : World) (f1 : 0 ≤ f) (f2 : f ≤ 4294967296) (g1 : 0 ≤ g) (g2 : g ≤ 4294967296) (h1 : 0 ≤ h) (h2 : h ≤ 4294967296) (hs : (settledF f (knownF f g 0) (knownF f h 1)).2 = false)
    (hn : negF f = false) (hm : negF (knownF f g 0) = false) :
    Calls Try.prog 27 #[.int .i64 f, .int .i64 g, .int .i64 h] w fun r w' => r = .returned (.tuple (Ask (iteF f g h))) ∧ Below w.heap.size w w' := by
  obtain ⟨r1, r2⟩ := notF_range f1
  obtain ⟨r3, r4⟩ := knownF_range (f := f) g1 (by omega : g ≤ 4294967297) (here := 0) (by omega) (by omega)
  obtain ⟨r5, r6⟩ := knownF_range (f := f) h1 (by omega : h ≤ 4294967297) (here := 1) (by omega) (by omega)
  obtain ⟨r7, r8⟩ := notF_range r3
  obtain ⟨r9, r10⟩ := notF_range r5
  have e1 : iteF f g h = (f, (knownF f g 0), (knownF f h 1), false, 0, false) := by unfold iteF turnedF; simp [hs, hn, hm]
  rw [e1]
  clear e1
  go_enter Try.func27, Try.ntmps27
  go_wp2_with (first
      | (go_at_call 29; refine (edge_known _ _ _ _ (by omega) (by omega) (by omega) (by omega)).mono ?_; rintro e w' ⟨rfl, rfl⟩)
      | (go_at_call 13; refine (edge_Neg _ _ (by omega) (by omega)).mono ?_; rintro e w' ⟨rfl, rfl⟩)
      | (go_at_call 15; refine (edge_Not _ _ (by omega) (by omega)).mono ?_; rintro e w' ⟨rfl, rfl⟩)
      | (go_at_call 30; refine (edge_settled _ _ _ _ (by omega) (by omega)).mono ?_; rintro e w' ⟨rfl, hg1⟩))
  go_returns
  exact ⟨rfl, hg1⟩

theorem edge_Ite (f g h : Int) (w : World) (f1 : 0 ≤ f) (f2 : f ≤ 4294967296) (g1 : 0 ≤ g) (g2 : g ≤ 4294967296) (h1 : 0 ≤ h) (h2 : h ≤ 4294967296) :
    Calls Try.prog 27 #[.int .i64 f, .int .i64 g, .int .i64 h] w fun r w' => r = .returned (.tuple (Ask (iteF f g h))) ∧ Below w.heap.size w w' := by
  cases hs : (settledF f (knownF f g 0) (knownF f h 1)).2
  · cases hn : negF f
    · cases hm : negF (knownF f g 0)
      · exact edge_Ite_nn f g h w f1 f2 g1 g2 h1 h2 hs hn hm
      · exact edge_Ite_ny f g h w f1 f2 g1 g2 h1 h2 hs hn hm
    · cases hm : negF (knownF f h 1)
      · exact edge_Ite_yn f g h w f1 f2 g1 g2 h1 h2 hs hn hm
      · exact edge_Ite_yy f g h w f1 f2 g1 g2 h1 h2 hs hn hm
  · exact edge_Ite_done f g h w f1 (by omega) hs

theorem ref_turned (f g h : Int) (w : World) (g1 : 0 ≤ g) (g2 : g ≤ 1152921504606846976) (h1 : 0 ≤ h) (h2 : h ≤ 1152921504606846976) :
    Calls Try.prog 28 #[.int .i64 f, .int .i64 g, .int .i64 h] w fun r w' => r = .returned (.agg (Ask (turnedF f g h))) ∧ Below w.heap.size w w' := by
  cases hm : negF g
  · have e1 : turnedF f g h = (f, g, h, false, 0, false) := by unfold turnedF; simp [hm]
    rw [e1]
    clear e1
    go_enter Try.func28, Try.ntmps28
    go_wp2_with (first
      | (go_at_call 14; refine (ref_Neg _ _ (by omega) (by omega)).mono ?_; rintro e w' ⟨rfl, rfl⟩)
      | (go_at_call 16; refine (ref_Not _ _ (by omega) (by omega)).mono ?_; rintro e w' ⟨rfl, rfl⟩))
    go_returns
    exact ⟨rfl, by go_grown⟩
  · have e1 : turnedF f g h = (f, notF g, notF h, true, 0, false) := by unfold turnedF; simp [hm]
    rw [e1]
    clear e1
    go_enter Try.func28, Try.ntmps28
    go_wp2_with (first
      | (go_at_call 14; refine (ref_Neg _ _ (by omega) (by omega)).mono ?_; rintro e w' ⟨rfl, rfl⟩)
      | (go_at_call 16; refine (ref_Not _ _ (by omega) (by omega)).mono ?_; rintro e w' ⟨rfl, rfl⟩))
    go_returns
    exact ⟨rfl, by go_grown⟩

theorem law_ite (f g h : Int) (w : World) (f1 : 0 ≤ f) (f2 : f ≤ 4294967296) (g1 : 0 ≤ g) (g2 : g ≤ 4294967296) (h1 : 0 ≤ h) (h2 : h ≤ 4294967296) :
    Calls Try.prog 24 #[.int .i64 f, .int .i64 g, .int .i64 h] w fun r w' => r = .returned (.agg (Ask (iteF f g h))) ∧ Below w.heap.size w w' := by
  go_enter Try.func24, Try.ntmps24
  go_wp2_with (first
      | (go_at_call 27; refine (edge_Ite _ _ _ _ (by omega) (by omega) (by omega) (by omega) (by omega) (by omega)).mono ?_; rintro e w1 ⟨rfl, hb1⟩; unfold Ask; obtain ⟨hc1, hf1⟩ := bcell hb1; have hz1 : w.heap.size + 1 ≤ w1.heap.size := (by have := hb1.size; simp at this; omega)))
  have hbw : Below w.heap.size w w1 := ((Below.refl _ _).alloc (Nat.le_refl _) _).trans (hb1.mono (by simp))
  refine bodyPost_ret (v := .agg (Ask (iteF f g h))) (by unfold Ask; simp [results, Try.results24, go_sem, hc1]) rfl ⟨rfl, ?_⟩
  go_grown
end Go.Proofs.Ytkbjmbgjechonaa
