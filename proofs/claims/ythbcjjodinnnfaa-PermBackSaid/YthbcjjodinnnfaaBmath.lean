/- Lists: what undoes inversion, exchange and moving of an order. -/
import Derived.Test.YthbcjjodinnnfaaWk2
namespace Go.Proofs.Ythbcjjodinnnfaa

theorem okTo_comp {l m : List Int} (h : okTo l l.length) (hl : m.length = l.length) (s : Nat → Nat) (hs : ∀ j, j < l.length → s j < l.length ∧ li m j = li l (s j)) (hi : ∀ i j, i < l.length → j < l.length → s i = s j → i = j) : okTo m m.length := fun j hj => by
  rw [hl] at hj
  have h1 := hs j hj
  have h2 := h (s j) h1.1
  refine ⟨by rw [h1.2, hl]; exact h2.1, fun i hij => ?_⟩
  have h3 := hs i (by omega)
  rw [h1.2, h3.2]
  rcases Nat.lt_trichotomy (s i) (s j) with q | q | q
  · exact h2.2 _ q
  · exact absurd (hi i j (by omega) hj q) (by omega)
  · exact fun e => (h (s i) h3.1).2 _ q e.symm
theorem ok_swap {l : List Int} (h : okTo l l.length) (i : Int) : okTo (swapF l i) (swapF l i).length := by
  by_cases hi : 0 ≤ i ∧ i < (l.length : Int) - 1
  · obtain ⟨h1, h2⟩ := hi
    obtain ⟨n, rfl⟩ := Int.eq_ofNat_of_zero_le h1
    have hn : n + 1 < l.length := by omega
    rw [swapF_in hn]
    refine okTo_comp h (swapL_len _ _) (fun j => if j = n then n + 1 else if j = n + 1 then n else j) (fun j hj => ?_) (fun a b ha hb => ?_)
    · rw [li_swap hn]
      show (if j = n then n + 1 else if j = n + 1 then n else j) < l.length ∧ _ = li l (if j = n then n + 1 else if j = n + 1 then n else j)
      by_cases e1 : j = n
      · rw [if_pos e1, if_pos e1]; exact ⟨hn, rfl⟩
      · by_cases e2 : j = n + 1
        · rw [if_neg e1, if_pos e2, if_neg e1, if_pos e2]; exact ⟨by omega, rfl⟩
        · rw [if_neg e1, if_neg e2, if_neg e1, if_neg e2]; exact ⟨hj, rfl⟩
    · show (if a = n then n + 1 else if a = n + 1 then n else a) = (if b = n then n + 1 else if b = n + 1 then n else b) → _
      intro e
      repeat' split at e
      all_goals omega
  · rw [swapF_out hi]; exact h
theorem swap_swap (l : List Int) (i : Int) : swapF (swapF l i) i = l := by
  by_cases hi : 0 ≤ i ∧ i < (l.length : Int) - 1
  · obtain ⟨h1, h2⟩ := hi
    obtain ⟨n, rfl⟩ := Int.eq_ofNat_of_zero_le h1
    have hn : n + 1 < l.length := by omega
    rw [swapF_in hn, swapF_in (by rw [swapL_len]; exact hn)]
    apply li_ext
    · rw [swapL_len, swapL_len]
    · intro j _
      rw [li_swap (by rw [swapL_len]; exact hn), li_swap hn, li_swap hn, li_swap hn]
      by_cases e1 : j = n
      · rw [if_pos e1, if_neg (by omega), if_pos rfl, e1]
      · by_cases e2 : j = n + 1
        · rw [if_neg e1, if_pos e2, if_pos rfl, e2]
        · rw [if_neg e1, if_neg e2, if_neg e1, if_neg e2]
  · rw [swapF_out hi, swapF_out hi]
theorem li_move {l : List Int} {f t : Nat} (hf : f < l.length) (ht : t < l.length) (j : Nat) : li (moveF l (f : Int) (t : Int)) j =
    li l (if f ≤ j ∧ j < t then j + 1 else if t < j ∧ j ≤ f then j - 1 else if j = t then f else j) := by
  rw [moveF_in hf ht]
  by_cases q : f < t
  · have e : f - t = 0 := by omega
    rw [e]
    show li (upL l f (t - f)) j = _
    rw [li_up _ _ _ (by omega)]
    have e2 : f + (t - f) = t := by omega
    rw [e2]
    by_cases c1 : f ≤ j ∧ j < t
    · rw [if_pos c1, if_pos c1]
    · rw [if_neg c1, if_neg c1, if_neg (show ¬ (t < j ∧ j ≤ f) by omega)]
      split <;> rfl
  · have e : t - f = 0 := by omega
    rw [e]
    show li (downL l f (f - t)) j = _
    rw [li_down _ _ _ (by omega) hf]
    have e2 : f - (f - t) = t := by omega
    rw [e2, if_neg (show ¬ (f ≤ j ∧ j < t) by omega)]
    by_cases c1 : t < j ∧ j ≤ f
    · rw [if_pos c1, if_pos c1]
    · rw [if_neg c1, if_neg c1]
      split <;> rfl
theorem ok_move {l : List Int} (h : okTo l l.length) (f t : Int) : okTo (moveF l f t) (moveF l f t).length := by
  by_cases hi : (0 ≤ f ∧ f < l.length) ∧ (0 ≤ t ∧ t < l.length)
  · obtain ⟨⟨h1, h2⟩, h3, h4⟩ := hi
    obtain ⟨f', rfl⟩ := Int.eq_ofNat_of_zero_le h1
    obtain ⟨t', rfl⟩ := Int.eq_ofNat_of_zero_le h3
    refine okTo_comp h (moveF_len _ _ _) (fun j => if f' ≤ j ∧ j < t' then j + 1 else if t' < j ∧ j ≤ f' then j - 1 else if j = t' then f' else j) (fun j hj => ⟨?_, li_move (by omega) (by omega) j⟩) (fun a b ha hb => ?_)
    · show (if f' ≤ j ∧ j < t' then j + 1 else if t' < j ∧ j ≤ f' then j - 1 else if j = t' then f' else j) < l.length
      repeat' split
      all_goals omega
    · show (if f' ≤ a ∧ a < t' then a + 1 else if t' < a ∧ a ≤ f' then a - 1 else if a = t' then f' else a) = (if f' ≤ b ∧ b < t' then b + 1 else if t' < b ∧ b ≤ f' then b - 1 else if b = t' then f' else b) → _
      intro e
      repeat' split at e
      all_goals omega
  · rw [moveF_out hi]; exact h
theorem move_back (l : List Int) (f t : Int) : moveF (moveF l f t) t f = l := by
  by_cases hi : (0 ≤ f ∧ f < l.length) ∧ (0 ≤ t ∧ t < l.length)
  · obtain ⟨⟨h1, h2⟩, h3, h4⟩ := hi
    obtain ⟨f', rfl⟩ := Int.eq_ofNat_of_zero_le h1
    obtain ⟨t', rfl⟩ := Int.eq_ofNat_of_zero_le h3
    apply li_ext
    · rw [moveF_len, moveF_len]
    · intro j _
      rw [li_move (by rw [moveF_len]; omega) (by rw [moveF_len]; omega), li_move (by omega) (by omega)]
      congr 1
      repeat' split
      all_goals omega
  · rw [moveF_out hi, moveF_out (by omega)]
theorem move_at {l : List Int} {f t : Nat} (hf : f < l.length) (ht : t < l.length) : li (moveF l (f : Int) (t : Int)) t = li l f := by
  rw [li_move hf ht]
  congr 1
  repeat' split
  all_goals omega
theorem li_rev {l : List Int} {p : Nat} (h : p < l.length) : li l.reverse (l.length - 1 - p) = li l p := by
  rw [li_get (by rw [List.length_reverse]; omega), li_get h, List.getElem_reverse]
  congr 1; omega
theorem ok_rev {l : List Int} (h : okTo l l.length) : okTo l.reverse l.reverse.length := by
  refine okTo_comp h (by simp) (fun j => l.length - 1 - j) (fun j hj => ⟨by show l.length - 1 - j < _; omega, ?_⟩) (fun a b ha hb e => ?_)
  · have := li_rev (l := l) (p := l.length - 1 - j) (by omega)
    rw [show l.length - 1 - (l.length - 1 - j) = j by omega] at this
    exact this
  · have e' : l.length - 1 - a = l.length - 1 - b := e
    omega
theorem li_inv {l : List Int} {x : Nat} (hx : x < l.length) : li (invL l) x = placeL l (x : Int) := by
  unfold invL
  rw [li_get (by rw [invTo_len]; exact hx)]
  unfold invTo
  simp
theorem invL_len (l : List Int) : (invL l).length = l.length := invTo_len _ _
theorem inv_at {l : List Int} (h : okTo l l.length) {p x : Nat} (hp : p < l.length) (e : li l p = (x : Int)) : x < l.length ∧ li (invL l) x = (p : Int) := by
  have h1 := (h p hp).1
  have hx : x < l.length := by omega
  refine ⟨hx, ?_⟩
  rw [li_inv hx, ← e, place_of_right h hp]
theorem ok_inv {l : List Int} (h : okTo l l.length) : okTo (invL l) (invL l).length := fun j hj => by
  rw [invL_len] at hj
  obtain ⟨k, hk, e, ep⟩ := place_mem (place_in h hj)
  refine ⟨by rw [li_inv hj, ep, invL_len]; omega, fun i hij => ?_⟩
  obtain ⟨k2, hk2, e2, ep2⟩ := place_mem (place_in h (x := i) (by omega))
  rw [li_inv hj, li_inv (by omega), ep, ep2]
  intro q
  have : k2 = k := by omega
  rw [this] at e2
  rw [e] at e2
  omega
theorem inv_inv {l : List Int} (h : okTo l l.length) : invL (invL l) = l := by
  apply li_ext
  · rw [invL_len, invL_len]
  · intro j hj
    rw [invL_len, invL_len] at hj
    rw [li_inv (by rw [invL_len]; exact hj)]
    have h1 := (h j hj).1
    obtain ⟨x, hx⟩ := Int.eq_ofNat_of_zero_le h1.1
    have hp := inv_at h hj hx
    have := place_of_right (ok_inv h) (k := x) (by rw [invL_len]; exact hp.1)
    rw [hp.2] at this
    rw [this, hx]
theorem invF_ok {l : List Int} (h : okTo l l.length) : invF l = invL l := by unfold invF; rw [right_yes h]; rfl
end Go.Proofs.Ythbcjjodinnnfaa
