/- Contracts of Of, sorted, exact of vset; layer 42 (sched). -/
import Derived.Test.YtjohdkcgodaeiaaLys
namespace Go.Proofs.Ytjohdkcgodaeiaa
open Go.RowKit
open Go.Shelf

/-- Block g begins with the integers l. -/
def PreB (w : World) (g : Nat) (l : List Int) : Prop := ∃ tl : List Value, Blk w g 3 (l.map (Value.int .i64) ++ tl).toArray
section
variable {w w' : World} {g : Nat} {l m : List Int}
theorem PreB.cell (h : PreB w g l) {i : Nat} (hi : i < l.length) : w.cell? ⟨g, i, none⟩ = some (.int .i64 (li l i)) := by
  obtain ⟨tl, h⟩ := h
  rw [h.cell]
  unfold li
  simp [List.getElem?_append, hi, List.getD]
theorem PreB.lt (h : PreB w g l) : g < w.heap.size := by obtain ⟨tl, h⟩ := h; exact h.lt
theorem PreB.frozen (h : PreB w g l) (i : Nat) : w.frozen? ⟨g, i, none⟩ = false := by obtain ⟨tl, h⟩ := h; exact h.frozen i
theorem PreB.ri (h : PreB w g l) : RI w w.heap.size (some ⟨g, 0, none⟩) l := fun _ => ⟨g, 0, rfl, h.lt, fun i hi => by rw [Nat.zero_add]; exact h.cell hi⟩
theorem PreB.holds (h : PreB w g l) : Sort.Holds (Value.int .i64) w g 0 l.toArray := fun j hj => by
  have hj' : j < l.length := by simpa using hj
  refine ⟨?_, by rw [Nat.zero_add]; exact h.frozen j⟩
  rw [Nat.zero_add, h.cell hj']
  unfold li
  have e : l.toArray[j]! = l[j] := by simp [hj']
  rw [e]
  simp [List.getD, List.getElem?_eq_getElem hj']
theorem PreB.short {a b : List Int} (h : PreB w g (a ++ b)) : PreB w g a := by
  obtain ⟨tl, h⟩ := h
  exact ⟨b.map (Value.int .i64) ++ tl, by simpa using h⟩
theorem PreB.drewN (h : PreB w g l) (n : Nat) : PreB (w.drewN n) g l := h
theorem PreB.below {B : Nat} (h : PreB w g l) (hb : Below B w w') (hg : g < B) : PreB w' g l := by
  obtain ⟨tl, h⟩ := h
  exact ⟨tl, h.below hb hg⟩
theorem PreB.put (h : PreB w g l) (hl : m.length = l.length) (n : Nat) : PreB (Sort.putRow (Value.int .i64) (Sort.ahead w n) g 0 m.toArray) g m := by
  obtain ⟨tl, h⟩ := h
  refine ⟨tl, ?_⟩
  have h1 : (Sort.ahead w n).heap[g]? = some (.cells (l.map (Value.int .i64) ++ tl).toArray 3 (0, 0)) := h
  have h2 : (Sort.putRow (Value.int .i64) (Sort.ahead w n) g 0 m.toArray).heap[g]? = some (.cells (Sort.putCells (Value.int .i64) 0 m.toArray (l.map (Value.int .i64) ++ tl).toArray) 3 (0, 0)) := by
    unfold Sort.putRow Sort.mapBlock
    simp only [Array.getElem?_modify, if_true, h1, Option.map_some]
    rfl
  have h3 : Sort.putCells (Value.int .i64) 0 m.toArray (l.map (Value.int .i64) ++ tl).toArray = (m.map (Value.int .i64) ++ tl).toArray := by
    apply Array.ext_getElem?
    intro i
    unfold Sort.putCells
    rw [Array.getElem?_mapIdx]
    simp only [List.getElem?_toArray, List.getElem?_append, List.length_map, hl]
    by_cases hm : i < l.length
    · have e : m.toArray[i]! = m[i] := by simp [show i < m.length by omega]
      simp [hm, hl]
    · simp [hm, hl]
  unfold Blk
  rw [h2, h3]
end
theorem PreB.grow {w : World} {g : Nat} {l : List Int} (h : PreB w g l) (os : Array Obj) : PreB (Sort.grow w os) g l := by
  obtain ⟨tl, h⟩ := h
  refine ⟨tl, ?_⟩
  unfold Blk at h ⊢
  rw [← h]
  have hlt : g < w.heap.size := Blk.lt h
  unfold Sort.grow
  simp [Array.getElem?_append, hlt]
theorem below_grow {B : Nat} {w w1 : World} (h : Below B w w1) (os : Array Obj) (hB : B ≤ w1.heap.size) : Below B w (Sort.grow w1 os) := by
  refine h.trans ⟨rfl, rfl, rfl, ?_, fun k hk => ?_⟩
  · unfold Sort.grow; simp
  · unfold Sort.grow
    simp [Array.getElem?_append, show k < w1.heap.size by omega]
theorem Own.pre {w : World} {base : Nat} {v : Value} {l : List Int} (h : Own w base v l) : (v = .slice none 0 0 ∧ l = []) ∨ ∃ g cap, v = .slice (some ⟨g, 0, none⟩) l.length cap ∧ base ≤ g ∧ l.length ≤ cap ∧ cap ≤ maxLen ∧ PreB w g l := by
  rcases h.2 with ⟨rfl, h0⟩ | ⟨g, cap, cur, rfl, hg, hh, hn, hc, hsz, htk⟩
  · exact .inl ⟨rfl, List.eq_nil_of_length_eq_zero h0⟩
  · refine .inr ⟨g, cap, rfl, hg, hn, hc, cur.toList.drop l.length, ?_⟩
    rw [Nat.mul_one] at htk
    rw [← htk, List.take_append_drop]
    exact hh

set_option maxHeartbeats 400000 in
theorem vset_exact (A : Option Addr) (n cap : Nat) (w : World) (h : n ≤ cap) (_hc : cap ≤ 9223372036854775807) :
    Calls Try.prog 47 #[.slice A n cap] w fun e w' => e = .returned (.slice A n n) ∧ w = w' := by
  have h1 : (n : Int) ≤ (cap : Int) := by omega
  have h2 : (0 : Int) ≤ (n : Int) := by omega
  go_enter Try.func47, Try.ntmps47
  go_wp2
  go_ret
  exact ⟨rfl, rfl⟩

theorem vset_exact_nil (w : World) : Calls Try.prog 47 #[.slice none 0 0] w fun e w' => e = .returned (.slice none 0 0) ∧ w = w' := vset_exact none 0 0 w (by omega) (by omega)

set_option maxHeartbeats 1000000 in
theorem vset_sorted_blk (g cap : Nat) (l : List Int) (w : World) (h : PreB w g l) (hcap : l.length ≤ cap) (hm : cap ≤ maxLen) (hl : l.length ≤ 1000000000) :
    Calls Try.prog 38 #[.slice (some ⟨g, 0, none⟩) l.length cap] w fun e w' => e = .returned (.slice (some ⟨g, 0, none⟩) (setL l).length (setL l).length) ∧ PreB w' g (setL l) ∧ Below g w w' := by
  unfold maxLen at hm
  have hS := Any.slices_Sort_int Try.laysSort g 0 cap l w h.holds h.lt (by omega)
  have H := Lib.hid h
  have HS := Lib.hid hS
  have hgl := h.lt
  clear h hS
  go_enter Try.func38, Try.ntmps38
  go_wp2_with fail
  refine HS.out.mono ?_; rintro e w1 ⟨rfl, n, os, hw1⟩
  have hP1 : PreB w1 g (srt l) := by rw [hw1]; exact (H.out.put (m := srt l) (srt_len l) n).grow os
  have hb1 : Below g w w1 := by rw [hw1]; exact below_grow (below_put (Nat.le_refl _)) os (by rw [put_size]; omega)
  have hC := Any.slices_Compact_int Try.laysCompact g 0 cap (srt l) w1 hP1.holds (by rw [srt_len]; omega) (by rw [srt_len]; exact hcap)
  rw [srt_len] at hC
  have HC : Hid (Calls Try.prog 48 #[.slice (some ⟨g, 0, none⟩) l.length cap] w1 fun e w' => e = .returned (.slice (some ⟨g, 0, none⟩) (setL l).length cap) ∧ ∃ q, w' = Sort.putRow (Value.int .i64) (Sort.ahead w1 q) g 0 (setL l ++ List.replicate (l.length - (setL l).length) 0).toArray) := hC
  have HP1 := Lib.hid hP1
  clear hw1 hP1 hC H HS
  go_wp2_with fail
  refine HC.out.mono ?_; rintro e w2 ⟨rfl, q, hw2⟩
  have hsl := set_le l
  have hP2 : PreB w2 g (setL l) := by
    rw [hw2]
    exact (HP1.out.put (m := setL l ++ List.replicate (l.length - (setL l).length) 0) (by rw [List.length_append, List.length_replicate, srt_len]; omega) q).short
  have hb2 : Below g w w2 := by rw [hw2]; exact hb1.trans (below_put (Nat.le_refl _))
  have HP2 := Lib.hid hP2
  clear hw2 hP2 HC HP1 hb1
  obtain ⟨n2, hn2⟩ : ∃ n2, (setL l).length = n2 := ⟨_, rfl⟩
  rw [hn2] at hsl ⊢
  have HN2 := Lib.hid hn2
  clear hn2
  go_wp2_with fail
  refine (vset_exact _ _ _ _ (by omega) (by omega)).mono ?_; rintro e w3 ⟨rfl, rfl⟩
  go_wp2
  go_ret
  exact ⟨by rw [HN2.out]; rfl, HP2.out, hb2⟩
set_option maxHeartbeats 1000000 in
theorem vset_sorted_nil (w : World) :
    Calls Try.prog 38 #[.slice none 0 0] w fun e w' => e = .returned (.slice none 0 0) ∧ w = w' := by
  have hS := Any.slices_Sort_int_none Try.laysSort none 0 w
  have hC := Any.slices_Compact_int_empty Try.laysCompact none 0 w
  have HS := Lib.hid hS
  have HC := Lib.hid hC
  clear hS hC
  go_enter Try.func38, Try.ntmps38
  go_wp2_with fail
  refine HS.out.mono ?_; rintro e w1 ⟨rfl, hw1⟩
  subst hw1
  go_wp2_with fail
  refine HC.out.mono ?_; rintro e w2 ⟨rfl, hw2⟩
  subst hw2
  go_wp2_with fail
  refine (vset_exact_nil _).mono ?_; rintro e w3 ⟨rfl, rfl⟩
  go_wp2
  go_ret
  exact ⟨rfl, rfl⟩

/-- e returns a slice of the call's own memory that reads as l, with no spare capacity; nothing below base has turned. -/
def GivesB (base : Nat) (w : World) (l : List Int) (e : Ending) (w' : World) : Prop := ∃ A, e = .returned (.slice A l.length l.length) ∧ ((A = none ∧ l = []) ∨ ∃ g, A = some ⟨g, 0, none⟩ ∧ base ≤ g ∧ PreB w' g l) ∧ Below base w w'
theorem GivesB.gives {w w' : World} {l : List Int} {e : Ending} (h : GivesB w.heap.size w l e w') : Gives w l e w' := by
  obtain ⟨A, he, hA, hb⟩ := h
  refine ⟨A, l.length, he, ?_, ?_, hb⟩
  · rcases hA with ⟨rfl, rfl⟩ | ⟨g, rfl, _, hP⟩
    · exact RI.nil
    · exact hP.ri
  · rintro rfl
    rcases hA with ⟨_, rfl⟩ | ⟨g, e, _⟩
    · rfl
    · cases e
theorem vset_sorted (base : Nat) (v : Value) (l : List Int) (w : World) (h : Own w base v l) (hl : l.length ≤ 1000000000) :
    Calls Try.prog 38 #[v] w (GivesB base w (setL l)) := by
  rcases h.pre with ⟨rfl, rfl⟩ | ⟨g, cap, rfl, hg, hcap, hm, hP⟩
  · refine (vset_sorted_nil w).mono fun e w' ⟨he, hw⟩ => ?_
    subst hw
    refine ⟨none, ?_, .inl ⟨rfl, set_nil⟩, Below.refl _ _⟩
    rw [he, set_nil]; rfl
  · exact (vset_sorted_blk g cap l w hP hcap hm hl).mono fun e w' ⟨he, hP2, hb⟩ => ⟨_, he, .inr ⟨g, rfl, hg, hP2⟩, hb.mono hg⟩

theorem clone_any (A : Option Addr) (ca : Nat) (l : List Int) (w : World) (h : RI w w.heap.size A l) (hl : l.length ≤ 1000000000) :
    Calls Try.prog 42 #[.slice A l.length ca] w fun e w' => ∃ v, e = .returned v ∧ Own w' w.heap.size v l ∧ Below w.heap.size w w' := by
  cases A with
  | none =>
    have e := h.none_nil
    subst e
    exact (Any.slices_Clone_int_nil Try.laysClone 0 ca w).mono fun e w' ⟨he, hw⟩ => by
      subst hw
      exact ⟨_, he, World.ownsRow_nil _ _ _ _, Below.refl _ _⟩
  | some ad =>
    by_cases hp : 0 < l.length
    · obtain ⟨b, off, e, hb, hc⟩ := h hp
      cases e
      refine (Any.slices_Clone_int Try.laysClone b off l.length ca l w (Nat.le_refl _) (by omega) (fun j hj => hc j hj)).mono fun e w' ⟨v, he, hO, _, hbw⟩ => ⟨v, he, ?_, hbw⟩
      rw [List.take_length] at hO
      exact hO
    · have e : l = [] := List.eq_nil_of_length_eq_zero (by omega)
      subst e
      exact (Any.slices_Clone_int_zero Try.laysClone ad ca w).mono fun e w' ⟨v, he, hO, _, hbw⟩ => ⟨v, he, hO, hbw⟩
set_option maxHeartbeats 1000000 in
theorem vset_Of (A : Option Addr) (ca : Nat) (l : List Int) (w : World) (h : RI w w.heap.size A l) (hl : l.length ≤ 1000000000) :
    Calls Try.prog 30 #[.slice A l.length ca] w (GivesB w.heap.size w (setL l)) := by
  have H := Lib.hid h
  clear h
  go_enter Try.func30, Try.ntmps30
  go_wp2_with fail
  refine (clone_any _ _ _ _ H.out hl).mono ?_; rintro e w1 ⟨v, rfl, hO, hb1⟩
  have HO := Lib.hid hO
  clear hO
  go_wp2_with fail
  refine (vset_sorted _ _ _ _ HO.out hl).mono ?_; rintro e w2 ⟨A2, rfl, hA, hb2⟩
  have HA := Lib.hid hA
  have HB := Lib.hid (hb1.trans hb2)
  clear hA
  go_wp2
  go_ret
  exact ⟨A2, rfl, HA.out, HB.out⟩
end Go.Proofs.Ytjohdkcgodaeiaa
