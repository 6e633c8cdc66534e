/- The contract of Swap of the specification of layer 5 (perm), over the translation. -/
import Derived.Test.YthbcjjodinnnfaaFn3
namespace Go.Proofs.Ythbcjjodinnnfaa
open Go.RowKit

theorem add_block (a : Addr) (n : Nat) : (a.add n).block = a.block := by unfold Addr.add; split <;> rfl
theorem RI.src {w : World} {B : Nat} {ad : Addr} {l : List Int} (h : RI w B (some ad) l) (j : Nat) (u : Value) (hj : (l.map (Value.int .i64))[j]? = some u) : w.cell? (ad.add j) = some u ∧ (ad.add j).block < B := by
  have hp : 0 < l.length := by
    rcases l with _ | ⟨x, l⟩
    · simp at hj
    · simp
  obtain ⟨b, off, e, hb, hc⟩ := h hp
  injection e with e
  subst e
  exact ⟨copy_at hc j u hj, by rw [add_block]; exact hb⟩
theorem RI.none_nil {w : World} {B : Nat} {l : List Int} (h : RI w B none l) : l = [] := by
  rcases l with _ | ⟨x, l⟩
  · rfl
  · obtain ⟨b, off, e, _⟩ := h (by simp); cases e
theorem growE {w w1 : World} {o : Obj} (hg : (w.alloc o).grownBy w1 (Value.slice (some ⟨w.heap.size, 0, none⟩) 0 0).ownBlock) : Below w.heap.size w w1 :=
  ((Below.refl _ _).alloc (Nat.le_refl _) _).grown hg (by simp) (fun k e => by simp [Value.ownBlock] at e; omega)
theorem swapF_nil (i : Int) : swapF [] i = [] := by unfold swapF; split; rfl; rfl
theorem swapF_out {l : List Int} {i : Int} (h : ¬ (0 ≤ i ∧ i < (l.length : Int) - 1)) : swapF l i = l := by unfold swapF; rw [if_neg h]
theorem swapF_in {l : List Int} {k : Nat} (h : k + 1 < l.length) : swapF l (k : Int) = swapL l k := by unfold swapF; rw [if_pos (by omega)]; rfl

set_option maxHeartbeats 1000000 in
theorem ref_Swap_nil (i : Int) (w : World) :
    Calls Try.prog 16 #[.slice none 0 0, .int .i64 i] w fun r w' => ∃ v, r = .returned v ∧ Own w' w.heap.size v (swapF [] i) ∧ Below w.heap.size w w' := by
  obtain ⟨i0, hi0, hz0, hz1, hz2⟩ := info_parts info3
  rw [swapF_nil]
  have hE := Lib.hid (Own.empty w)
  have hi := fun w => ref_is none 0 [] i w (by simp)
  have hF : decide (0 ≤ i ∧ i < (([] : List Int).length : Int)) = false := by simp
  rw [hF] at hi
  have HI := Lib.hid hi
  clear hi hF
  go_enter Try.func16, Try.ntmps16
  go_wp2_with (first
    | (at_builtin; refine wpList_append_own_none rfl _ _ 22 rfl w.heap.size 3 i0 1 Try.underlying22 hi0 _ _ _ rfl hE.out rfl ?_)
    | (go_at_call 26; refine (HI.out _).mono ?_; rintro e w' ⟨rfl, rfl⟩))
  go_ret
  exact ⟨_, rfl, hE.out, (Below.refl _ _).alloc (Nat.le_refl _) _⟩

set_option maxHeartbeats 1000000 in
theorem ref_Swap_out (ad : Addr) (ca : Nat) (l : List Int) (i : Int) (w : World) (h : RI w w.heap.size (some ad) l) (hl : l.length ≤ 1000000) (hi : ¬ (0 ≤ i ∧ i < (l.length : Int) - 1)) :
    Calls Try.prog 16 #[.slice (some ad) l.length ca, .int .i64 i] w fun r w' => ∃ v, r = .returned v ∧ Own w' w.heap.size v (swapF l i) ∧ Below w.heap.size w w' := by
  obtain ⟨i0, hi0, hz0, hz1, hz2⟩ := info_parts info3
  rw [swapF_out hi]
  have hE := Lib.hid (Own.empty w)
  have H := Lib.hid h
  have hsrc : Hid (∀ j u, (l.map (Value.int .i64))[j]? = some u → (w.alloc (.cells #[] 3)).cell? (ad.add j) = some u) := fun j u hj => by
    obtain ⟨h1, h2⟩ := h.src j u hj
    rw [World.cell?_alloc_lt _ _ _ h2]; exact h1
  clear h
  by_cases hd : 0 ≤ i ∧ i < (l.length : Int)
  · have hF : decide (0 ≤ i ∧ i < (l.length : Int)) = true := by simp [hd]
    have hge : (l.length : Int) - 1 ≤ i := by omega
    clear hi hd
    go_enter Try.func16, Try.ntmps16
    go_wp2_with (first
      | (at_builtin; refine wpList_append_own _ rfl _ _ 22 rfl w.heap.size 3 i0 _ 1 8 Try.underlying22 hi0 hz0 hz1 hz2 rfl (by decide) _ _ _ rfl hE.out ad l.length ca (l.map (Value.int .i64)) rfl (by simp) hsrc.out (by intro v hv; rw [List.mem_map] at hv; obtain ⟨_, _, rfl⟩ := hv; rfl) (by unfold maxLen; simp; omega) (by simp; omega) (by simp) ?_; intro v2 w1 hown hg1 _)
      | (go_at_call 26; refine (ref_is _ _ _ _ _ (by omega)).mono ?_; rintro e w' ⟨rfl, rfl⟩; rw [hF]))
    go_ret
    have hO : Own w1 w.heap.size v2 l := by unfold Own; simpa using hown
    exact ⟨_, rfl, hO, growE hg1⟩
  · have hF : decide (0 ≤ i ∧ i < (l.length : Int)) = false := by simp; omega
    clear hi hd
    go_enter Try.func16, Try.ntmps16
    go_wp2_with (first
      | (at_builtin; refine wpList_append_own _ rfl _ _ 22 rfl w.heap.size 3 i0 _ 1 8 Try.underlying22 hi0 hz0 hz1 hz2 rfl (by decide) _ _ _ rfl hE.out ad l.length ca (l.map (Value.int .i64)) rfl (by simp) hsrc.out (by intro v hv; rw [List.mem_map] at hv; obtain ⟨_, _, rfl⟩ := hv; rfl) (by unfold maxLen; simp; omega) (by simp; omega) (by simp) ?_; intro v2 w1 hown hg1 _)
      | (go_at_call 26; refine (ref_is _ _ _ _ _ (by omega)).mono ?_; rintro e w' ⟨rfl, rfl⟩; rw [hF]))
    go_ret
    have hO : Own w1 w.heap.size v2 l := by unfold Own; simpa using hown
    exact ⟨_, rfl, hO, growE hg1⟩

/-- What a walk needs of a row of the call's own in which two neighbours are exchanged. -/
theorem Own.swap {w : World} {base : Nat} {v : Value} {l : List Int} {k : Nat} (hO : Own w base v l) (hk : k + 1 < l.length) :
    ∃ g c, v = .slice (some ⟨g, 0, none⟩) l.length c ∧ base ≤ g ∧ g < w.heap.size ∧ w.frozen? ⟨g, k, none⟩ = false ∧ w.cell? ⟨g, k, none⟩ = some (.int .i64 (li l k)) ∧
      (w.setCell ⟨g, k, none⟩ (.int .i64 (li l (k + 1)))).frozen? ⟨g, k + 1, none⟩ = false ∧
      (w.setCell ⟨g, k, none⟩ (.int .i64 (li l (k + 1)))).cell? ⟨g, k + 1, none⟩ = some (.int .i64 (li l (k + 1))) ∧
      Own ((w.setCell ⟨g, k, none⟩ (.int .i64 (li l (k + 1)))).setCell ⟨g, k + 1, none⟩ (.int .i64 (li l k))) base v (swapL l k) := by
  obtain ⟨A0, c0, hv0, hR, _⟩ := hO.form
  obtain ⟨g, c, hv, hg0, hgl, hfz, hO1⟩ := hO.set (i := k) (by omega) (li l (k + 1))
  obtain ⟨g2, c2, hv2, _, hgl2, hfz2, hO2⟩ := hO1.set (i := k + 1) (by simp; omega) (li l k)
  rw [hv] at hv0 hv2
  injection hv0 with hA0 _ _
  injection hv2 with hA2 _ _
  injection hA2 with hA2
  injection hA2 with hA2 _ _
  subst hA0 hA2
  obtain ⟨g', o', e', hg', hR'⟩ := hR (by omega)
  injection e' with e'
  injection e' with e1 e2 _
  subst e1 e2
  refine ⟨g, c, hv, hg0, hgl, hfz, ?_, hfz2, ?_, hO2⟩
  · have := hR' k (by omega); rwa [Nat.zero_add] at this
  · rw [World.cell?_setCell_other _ _ _ _ (by intro e; injection e with _ e _; omega)]
    have := hR' (k + 1) hk; rwa [Nat.zero_add] at this

set_option maxHeartbeats 1000000 in
theorem ref_Swap_in (b off : Nat) (ca : Nat) (l : List Int) (k : Nat) (w : World) (h : RI w w.heap.size (some ⟨b, off, none⟩) l) (hl : l.length ≤ 1000000) (hk : k + 1 < l.length) :
    Calls Try.prog 16 #[.slice (some ⟨b, off, none⟩) l.length ca, .int .i64 (k : Int)] w fun r w' => ∃ v, r = .returned v ∧ Own w' w.heap.size v (swapF l k) ∧ Below w.heap.size w w' := by
  obtain ⟨i0, hi0, hz0, hz1, hz2⟩ := info_parts info3
  rw [swapF_in hk]
  have hE := Lib.hid (Own.empty w)
  have hsrc : Hid (∀ j u, (l.map (Value.int .i64))[j]? = some u → (w.alloc (.cells #[] 3)).cell? ((⟨b, off, none⟩ : Addr).add j) = some u) := fun j u hj => by
    obtain ⟨h1, h2⟩ := h.src j u hj
    rw [World.cell?_alloc_lt _ _ _ h2]; exact h1
  obtain ⟨b', off', e, hb, hc⟩ := h (by omega)
  injection e with e
  injection e with e1 e2 _
  subst e1 e2
  have q1 := hc k (by omega)
  have q2 := hc (k + 1) hk
  have hF : decide (0 ≤ (k : Int) ∧ (k : Int) < (l.length : Int)) = true := by simp; omega
  have b1 : (k : Int) < (l.length : Int) - 1 := by omega
  have b2 : (k : Int) < (l.length : Int) := by omega
  have b3 : (k : Int) + 1 < (l.length : Int) := by omega
  clear h hc
  go_enter Try.func16, Try.ntmps16
  go_wp2_with (at_builtin; refine wpList_append_own _ rfl _ _ 22 rfl w.heap.size 3 i0 _ 1 8 Try.underlying22 hi0 hz0 hz1 hz2 rfl (by decide) _ _ _ rfl hE.out ⟨b, off, none⟩ l.length ca (l.map (Value.int .i64)) rfl (by simp) hsrc.out (by intro v hv; rw [List.mem_map] at hv; obtain ⟨_, _, rfl⟩ := hv; rfl) (by unfold maxLen; simp; omega) (by simp; omega) (by simp) ?_; intro v2 w1 hown hg1 _)
  have hO : Own w1 w.heap.size v2 l := by unfold Own; simpa using hown
  have hbw : Below w.heap.size w w1 := growE hg1
  obtain ⟨g, c, rfl, hg0, hgl, z1, s1, z2, s2, hO2⟩ := hO.swap hk
  have r1 : w1.cell? ⟨b, off + (k + 1), none⟩ = some (.int .i64 (li l (k + 1))) := (hbw.cell (p := ⟨b, off + (k + 1), none⟩) hb).trans q2
  have r2 : (w1.setCell ⟨g, k, none⟩ (.int .i64 (li l (k + 1)))).cell? ⟨b, off + k, none⟩ = some (.int .i64 (li l k)) := by
    rw [World.cell?_setCell_other _ _ _ _ (by intro e; injection e with e _ _; omega)]
    exact (hbw.cell (p := ⟨b, off + k, none⟩) hb).trans q1
  have HO2 := Lib.hid hO2
  have HBW := Lib.hid ((hbw.setCell (p := ⟨g, k, none⟩) hg0 (.int .i64 (li l (k + 1)))).setCell (p := ⟨g, k + 1, none⟩) hg0 (.int .i64 (li l k)))
  clear hO hO2 hown hsrc hbw hg1
  refine (ref_is _ _ _ _ _ (by omega)).mono ?_; rintro e w' ⟨rfl, rfl⟩; rw [hF]
  go_wp2
  go_ret
  exact ⟨_, rfl, HO2.out, HBW.out⟩

theorem ref_Swap (A : Option Addr) (ca : Nat) (l : List Int) (i : Int) (w : World) (h : RI w w.heap.size A l) (hA : A = none → ca = 0) (hl : l.length ≤ 1000000) :
    Calls Try.prog 16 #[.slice A l.length ca, .int .i64 i] w fun r w' => ∃ v, r = .returned v ∧ Own w' w.heap.size v (swapF l i) ∧ Below w.heap.size w w' := by
  rcases A with _ | ad
  · have := h.none_nil
    subst this
    rw [hA rfl]
    exact ref_Swap_nil i w
  · by_cases c : 0 ≤ i ∧ i < (l.length : Int) - 1
    · obtain ⟨k, rfl⟩ := Int.eq_ofNat_of_zero_le c.1
      obtain ⟨b, off, e, _⟩ := h (by omega)
      injection e with e
      subst e
      exact ref_Swap_in b off ca l k w h hl (by omega)
    · exact ref_Swap_out ad ca l i w h hl c
end Go.Proofs.Ythbcjjodinnnfaa
