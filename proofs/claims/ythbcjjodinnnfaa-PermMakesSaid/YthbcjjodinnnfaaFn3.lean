/- Rows of the call's own; contracts of Ident and Swap of the specification of layer 5 (perm), over the translation. -/
import Derived.Test.YthbcjjodinnnfaaFn2
import Derived.Laws.AppendOwnNone
namespace Go.Proofs.Ythbcjjodinnnfaa
open Go.RowKit

/-- The slice v holds the integers l, in memory of the call's own. -/
def Own (w : World) (base : Nat) (v : Value) (l : List Int) : Prop := w.ownsRow base 3 1 v l.length (l.map (Value.int .i64))
theorem Own.empty (w : World) : Own (w.alloc (.cells #[] 3)) w.heap.size (.slice (some ⟨w.heap.size, 0, none⟩) 0 0) [] := by
  refine ⟨rfl, .inr ⟨w.heap.size, 0, #[], rfl, Nat.le_refl _, ?_, Nat.le_refl _, Nat.zero_le _, rfl, rfl⟩⟩
  exact heap_alloc_new w _
theorem Own.block {w : World} {base : Nat} {v : Value} {l : List Int} (h : Own w base v l) (k : Nat) (e : v.ownBlock = some k) : base ≤ k := by
  rcases h.2 with ⟨rfl, _⟩ | ⟨g, cap, cur, rfl, hg, _⟩
  · simp [Value.ownBlock] at e
  · simp [Value.ownBlock] at e; omega
theorem Own.form {w : World} {base : Nat} {v : Value} {l : List Int} (h : Own w base v l) : ∃ A c, v = .slice A l.length c ∧ RI w w.heap.size A l ∧ (A = none → c = 0) := by
  rcases h.2 with ⟨rfl, h0⟩ | ⟨g, cap, cur, rfl, hg, hh, hn, hc, hsz, htk⟩
  · have : l = [] := List.eq_nil_of_length_eq_zero h0
    subst this
    exact ⟨none, 0, rfl, RI.nil, fun _ => rfl⟩
  · refine ⟨_, cap, rfl, fun hp => ⟨g, 0, rfl, ?_, fun i hi => ?_⟩, fun e => by cases e⟩
    · rcases Nat.lt_or_ge g w.heap.size with hlt | hge
      · exact hlt
      · rw [Array.getElem?_eq_none hge] at hh; cases hh
    · rw [Nat.zero_add, cell_of_row w g i cur 3 (0, 0) hh]
      have h2 : (l.map (Value.int .i64))[i]? = some (.int .i64 (li l i)) := by unfold li; simp [hi]
      rw [← htk, List.getElem?_take] at h2
      split at h2
      · simpa using h2
      · cases h2
theorem Own.push {w : World} {base : Nat} {v : Value} {l : List Int} {b : Int} (h : w.ownsRow base 3 1 v (l.length + 1) (l.map (Value.int .i64) ++ [.int .i64 b])) : Own w base v (l ++ [b]) := by
  unfold Own; simpa using h
theorem Own.grow {w wr w1 : World} {v : Value} {l : List Int} {o : Obj} (hO : Own wr w.heap.size v l) (hb : Below w.heap.size w wr) (hg : (wr.alloc o).grownBy w1 v.ownBlock) : Below w.heap.size w w1 :=
  (hb.alloc hb.size _).grown hg (by have := hb.size; simp; omega) (fun k e => hO.block k e)
theorem max_ok {n : Nat} (h : n ≤ 1000000000000) : n + 1 ≤ maxLen := by unfold maxLen; omega
/-- A store into a row of the call's own. -/
theorem Own.set {w : World} {base : Nat} {v : Value} {l : List Int} {i : Nat} (h : Own w base v l) (hi : i < l.length) (x : Int) :
    ∃ g c, v = .slice (some ⟨g, 0, none⟩) l.length c ∧ base ≤ g ∧ g < w.heap.size ∧ w.frozen? ⟨g, i, none⟩ = false ∧ Own (w.setCell ⟨g, i, none⟩ (.int .i64 x)) base v (l.set i x) := by
  rcases h.2 with ⟨rfl, h0⟩ | ⟨g, cap, cur, rfl, hg, hh, hn, hc, hsz, htk⟩
  · omega
  · have hlt : g < w.heap.size := by
      rcases Nat.lt_or_ge g w.heap.size with hlt | hge
      · exact hlt
      · rw [Array.getElem?_eq_none hge] at hh; cases hh
    have hB : Blk w g 3 cur := hh
    refine ⟨g, cap, rfl, hg, hlt, hB.frozen i, ?_⟩
    have hB2 := hB.set_ i (.int .i64 x)
    refine ⟨by simp, .inr ⟨g, cap, _, by simp, hg, hB2, by simpa using hn, hc, by simpa using hsz, ?_⟩⟩
    simp only [Array.toList_setIfInBounds, List.length_set]
    rw [List.take_set, htk, List.map_set]

set_option maxHeartbeats 1000000 in
theorem ref_Ident (m : Int) (w : World) :
    Calls Try.prog 12 #[.int .i64 m] w fun r w' => ∃ v, r = .returned v ∧ Own w' w.heap.size v (idL (clampN m)) ∧ Below w.heap.size w w' := by
  obtain ⟨i0, hi0, hz0, hz1, hz2⟩ := info_parts info3
  have hK := clampN_le m
  have hKm : ∀ k : Nat, k < clampN m ↔ (k : Int) < m ∧ k < 64 := fun k => by unfold clampN; split; omega; split <;> omega
  obtain ⟨K, hKK⟩ : ∃ K, clampN m = K := ⟨_, rfl⟩
  rw [hKK] at hK hKm ⊢
  have HKM := Lib.hid hKm
  clear hKK hKm
  go_enter Try.func12, Try.ntmps12
  go_wp2
  go_loopw [3, 4] (fun v i wr => ∃ k : Nat, k ≤ K ∧ i = .int .i64 k ∧ Own wr w.heap.size v (idL k) ∧ Below w.heap.size w wr) (fun _ i _ => K - (intOf i).toNat)
  case atStart => exact ⟨0, Nat.zero_le _, rfl, Own.empty w, (Below.refl _ _).alloc (Nat.le_refl _) _⟩
  case round =>
    obtain ⟨k, hk, rfl, hO, hbw⟩ := hrel
    have HO := Lib.hid hO
    clear hO
    have hlen := idL_len k
    by_cases hlt : k < K
    · obtain ⟨h1, h2⟩ := (HKM.out k).1 hlt
      have h2' : (k : Int) < 64 := by omega
      have HOP : ∀ v' w', World.ownsRow w' w.heap.size 3 1 v' ((idL k).length + 1) ((idL k).map (Value.int .i64) ++ [.int .i64 (k : Int)]) → Hid (Own w' w.heap.size v' (idL (k + 1))) := fun v' w' h => by
        show Own _ _ _ _; rw [idL_succ]; exact Own.push h
      go_wp2_with (at_builtin; refine wpList_append_own _ rfl _ _ 22 rfl w.heap.size 3 i0 _ 1 8 Try.underlying22 hi0 hz0 hz1 hz2 rfl (by decide) _ _ _ rfl (World.ownsRow.alloc HO.out _) ⟨wr.heap.size, 0, none⟩ 1 1 [.int .i64 (k : Int)] rfl rfl (cell_one_new _ _ _) (by simp [Value.oneCell']) (max_ok (by omega)) (by omega) (by have := hbw.size; simp; omega) ?_; intro v2 w1 hown hg1 _)
      go_roundw
      case rel => exact ⟨k + 1, by omega, by go_num, (HOP _ _ hown).out, HO.out.grow hbw hg1⟩
      case measure => simp [intOf]; omega
    · obtain rfl : k = K := by omega
      have h3 : ¬ ((k : Int) < m ∧ k < 64) := fun h => hlt ((HKM.out k).2 h)
      have h4 : ¬ (k : Int) < m ∨ ((k : Int) < m ∧ ¬ (k : Int) < 64) := by omega
      clear h3 hlt
      rcases h4 with h4 | ⟨h4, h5⟩
      · go_wp2
        go_ret
        exact ⟨_, rfl, HO.out, hbw⟩
      · go_wp2
        go_ret
        exact ⟨_, rfl, HO.out, hbw⟩
end Go.Proofs.Ythbcjjodinnnfaa
