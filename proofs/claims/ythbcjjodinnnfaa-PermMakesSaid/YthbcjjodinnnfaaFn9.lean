/- Contracts of Inverse of layer 5 (perm) and of its specification, over the translation. -/
import Derived.Test.YthbcjjodinnnfaaFn8
namespace Go.Proofs.Ythbcjjodinnnfaa
open Go.RowKit

/-- What of the inverse stands after k rounds of the specification. -/
def invTo (l : List Int) (k : Nat) : List Int := (List.range k).map fun (x : Nat) => placeL l (x : Int)
def invL (l : List Int) : List Int := invTo l l.length
theorem invTo_len (l : List Int) (k : Nat) : (invTo l k).length = k := by unfold invTo; simp
theorem invTo_succ (l : List Int) (k : Nat) : invTo l (k + 1) = invTo l k ++ [placeL l (k : Int)] := by unfold invTo; rw [List.range_succ]; simp

theorem Own.keep {w w' : World} {base : Nat} {v : Value} {l : List Int} (h : Own w base v l) (hb : Below w.heap.size w w') : Own w' base v l := by
  obtain ⟨h1, h2⟩ := h
  refine ⟨h1, ?_⟩
  rcases h2 with h2 | ⟨g, cap, cur, e, hg, hh, r⟩
  · exact .inl h2
  · have hlt : g < w.heap.size := by
      rcases Nat.lt_or_ge g w.heap.size with q | q
      · exact q
      · rw [Array.getElem?_eq_none q] at hh; cases hh
    exact .inr ⟨g, cap, cur, e, hg, (hb.block g hlt).trans hh, r⟩

set_option maxHeartbeats 1000000 in
theorem ref_Inverse_no (A : Option Addr) (ca : Nat) (l : List Int) (w : World) (h : RI w w.heap.size A l) (hl : l.length ≤ 1000000) (hR : rightB l = false) :
    Calls Try.prog 14 #[.slice A l.length ca] w fun r w' => ∃ v, r = .returned v ∧ Own w' w.heap.size v [] ∧ Below w.heap.size w w' := by
  have H := Lib.hid h
  clear h
  have hb0 : Below w.heap.size w (w.alloc (.cells #[] 3)) := (Below.refl _ _).alloc (Nat.le_refl _) _
  have HA := Lib.hid (H.out.step hb0)
  have HE := Lib.hid (Own.empty w)
  go_enter Try.func14, Try.ntmps14
  go_wp2_with (first
    | (go_at_call 9; refine (ref_Right _ _ _ _ HA.out (by omega)).mono ?_; rintro e w1 ⟨rfl, hb1⟩; rw [hR]))
  go_ret
  exact ⟨_, rfl, HE.out.keep hb1, hb0.trans (hb1.mono (by simp))⟩

set_option maxHeartbeats 1000000 in
theorem ref_Inverse_yes (A : Option Addr) (ca : Nat) (l : List Int) (w : World) (h : RI w w.heap.size A l) (hl : l.length ≤ 1000000) (hR : rightB l = true) :
    Calls Try.prog 14 #[.slice A l.length ca] w fun r w' => ∃ v, r = .returned v ∧ Own w' w.heap.size v (invL l) ∧ Below w.heap.size w w' := by
  obtain ⟨i0, hi0, hz0, hz1, hz2⟩ := info_parts info3
  have H := Lib.hid h
  clear h
  have hb0 : Below w.heap.size w (w.alloc (.cells #[] 3)) := (Below.refl _ _).alloc (Nat.le_refl _) _
  have HA := Lib.hid (H.out.step hb0)
  have HE := Lib.hid (Own.empty w)
  go_enter Try.func14, Try.ntmps14
  go_wp2_with (first
    | (go_at_call 9; refine (ref_Right _ _ _ _ HA.out (by omega)).mono ?_; rintro e w1 ⟨rfl, hb1⟩; rw [hR]))
  have hbw1 : Below w.heap.size w w1 := hb0.trans (hb1.mono (by simp))
  have HE1 := Lib.hid (HE.out.keep hb1)
  go_loopw [3, 4] (fun v i wr => ∃ k : Nat, k ≤ l.length ∧ i = .int .i64 k ∧ Own wr w.heap.size v (invTo l k) ∧ Below w.heap.size w wr) (fun _ i _ => l.length - (intOf i).toNat)
  case atStart => exact ⟨0, Nat.zero_le _, rfl, HE1.out, hbw1⟩
  case round =>
    obtain ⟨k, hk, rfl, hO, hbw⟩ := hrel
    have HO := Lib.hid hO
    clear hO
    have hlen := invTo_len l k
    by_cases hlt : k < l.length
    · have h1 : (k : Int) < (l.length : Int) := by omega
      have HOP : ∀ v' w', World.ownsRow w' w.heap.size 3 1 v' ((invTo l k).length + 1) ((invTo l k).map (Value.int .i64) ++ [.int .i64 (placeL l (k : Int))]) → Hid (Own w' w.heap.size v' (invTo l (k + 1))) := fun v' w' h => by
        show Own _ _ _ _; rw [invTo_succ]; exact Own.push h
      have HI := Lib.hid (H.out.step hbw)
      go_wp2_with (first
        | (go_at_call 24; refine (ref_Place _ _ _ _ _ HI.out (by omega)).mono ?_; rintro e w2 ⟨rfl, rfl⟩)
        | (at_builtin; refine wpList_append_own _ rfl _ _ 22 rfl w.heap.size 3 i0 _ 1 8 Try.underlying22 hi0 hz0 hz1 hz2 rfl (by decide) _ _ _ rfl (World.ownsRow.alloc HO.out _) ⟨wr.heap.size, 0, none⟩ 1 1 [.int .i64 (placeL l (k : Int))] rfl rfl (cell_one_new _ _ _) (by simp [Value.oneCell']) (max_ok (by omega)) (by omega) (by have := hbw.size; simp; omega) ?_; intro v2 w3 hown hg1 _))
      go_roundw
      case rel => exact ⟨k + 1, by omega, by go_num, (HOP _ _ hown).out, HO.out.grow hbw hg1⟩
      case measure => simp [intOf]; omega
    · obtain rfl : k = l.length := by omega
      go_wp2
      go_ret
      exact ⟨_, rfl, HO.out, hbw⟩

set_option maxHeartbeats 1000000 in
theorem perm_Inverse_no (A : Option Addr) (ca : Nat) (l : List Int) (w : World) (h : RI w w.heap.size A l) (hl : l.length ≤ 1000000000000) (hR : rightB l = false) :
    Calls Try.prog 13 #[.slice A l.length ca] w fun r w' => r = .returned (.slice none 0 0) ∧ Below w.heap.size w w' := by
  have H := Lib.hid h
  clear h
  go_enter Try.func13, Try.ntmps13
  go_wp2_with (first
    | (go_at_call 8; refine (perm_Right _ _ _ _ H.out (by omega)).mono ?_; rintro e w1 ⟨rfl, hb1⟩; rw [hR]))
  go_ret
  exact ⟨rfl, hb1⟩

/-- What of the inverse stands after k rounds of the program: at each of the first k numbers its index, elsewhere 0. -/
def invAt (l : List Int) (k : Nat) : List Int := (List.range l.length).map fun (x : Nat) => if placeL l (x : Int) < (k : Int) ∧ 0 ≤ placeL l (x : Int) then placeL l (x : Int) else 0
theorem invAt_len (l : List Int) (k : Nat) : (invAt l k).length = l.length := by unfold invAt; simp
theorem invAt_zero (l : List Int) : invAt l 0 = List.replicate l.length 0 := by
  unfold invAt
  apply List.ext_getElem
  · simp
  · intro i h1 h2; simp; omega
theorem right_ok {l : List Int} (h : rightB l = true) : okTo l l.length := by unfold rightB at h; simpa using h
theorem place_of_right {l : List Int} (h : okTo l l.length) {k : Nat} (hk : k < l.length) : placeL l (li l k) = k :=
  place_at hk (fun j hj => (h k hk).2 j hj) rfl
theorem place_mem {l : List Int} {x : Int} (h : 0 ≤ placeL l x) : ∃ k : Nat, k < l.length ∧ li l k = x ∧ placeL l x = k := by
  unfold placeL at h ⊢
  cases hf : (List.range l.length).find? (fun i => li l i == x) with
  | none => rw [hf] at h; simp at h
  | some i =>
    rw [List.find?_range_eq_some] at hf
    exact ⟨i, by simpa using hf.2.1, by simpa using hf.1, rfl⟩
theorem invAt_set {l : List Int} (h : okTo l l.length) {k x : Nat} (hk : k < l.length) (e : li l k = (x : Int)) : (invAt l k).set x (k : Int) = invAt l (k + 1) := by
  have hp := place_of_right h hk
  rw [e] at hp
  unfold invAt
  apply List.ext_getElem
  · simp
  · intro i h1 h2
    simp only [List.length_set, List.length_map, List.length_range] at h1
    rw [List.getElem_set]
    simp only [List.getElem_map, List.getElem_range]
    by_cases c : x = i
    · subst c
      rw [if_pos rfl, hp, if_pos (by omega)]
    · rw [if_neg c]
      have hne : placeL l (i : Int) ≠ k := fun q => by
        obtain ⟨j, _, h3, h4⟩ := place_mem (l := l) (x := (i : Int)) (by omega)
        have : j = k := by omega
        subst this
        rw [e] at h3; omega
      by_cases d : placeL l (i : Int) < (k : Int) ∧ 0 ≤ placeL l (i : Int)
      · rw [if_pos d, if_pos (by omega)]
      · rw [if_neg d, if_neg (by omega)]
theorem invAt_all {l : List Int} : invAt l l.length = (List.range l.length).map fun (x : Nat) => if 0 ≤ placeL l (x : Int) then placeL l (x : Int) else 0 := by
  unfold invAt
  apply List.ext_getElem
  · simp
  · intro i h1 h2
    simp only [List.getElem_map, List.getElem_range]
    by_cases c : 0 ≤ placeL l (i : Int)
    · obtain ⟨j, h3, _, h4⟩ := place_mem c
      rw [if_pos (by omega), if_pos c]
    · rw [if_neg (by omega), if_neg c]
end Go.Proofs.Ythbcjjodinnnfaa
