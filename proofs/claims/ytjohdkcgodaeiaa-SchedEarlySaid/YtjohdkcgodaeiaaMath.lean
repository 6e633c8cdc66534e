/- Sets as increasing lists. -/
import Derived.Lib.SlicesCompact
namespace Go.Proofs.Ytjohdkcgodaeiaa
open Go.Lib

def Inc (l : List Int) : Prop := l.Pairwise (· < ·)
theorem inc_unique : ∀ {a b : List Int}, Inc a → Inc b → (∀ x, x ∈ a ↔ x ∈ b) → a = b
  | [], [], _, _, _ => rfl
  | [], y :: b, _, _, h => absurd ((h y).2 (by simp)) (by simp)
  | x :: a, [], _, _, h => absurd ((h x).1 (by simp)) (by simp)
  | x :: a, y :: b, ha, hb, h => by
    unfold Inc at ha hb
    rw [List.pairwise_cons] at ha hb
    have hxy : x = y := by
      have h1 := (h x).1 (by simp)
      have h2 := (h y).2 (by simp)
      rw [List.mem_cons] at h1 h2
      rcases h1 with e | h1
      · exact e
      · rcases h2 with e | h2
        · exact e.symm
        · have := hb.1 x h1
          have := ha.1 y h2
          omega
    subst hxy
    rw [inc_unique (a := a) (b := b) ha.2 hb.2 (fun z => ?_)]
    constructor
    · intro hz
      have h1 := (h z).1 (by simp [hz])
      rw [List.mem_cons] at h1
      rcases h1 with e | h1
      · have := ha.1 z hz; omega
      · exact h1
    · intro hz
      have h1 := (h z).2 (by simp [hz])
      rw [List.mem_cons] at h1
      rcases h1 with e | h1
      · have := hb.1 z hz; omega
      · exact h1
theorem compact_step (d : Array Int) (hs : ∀ i j, i ≤ j → j < d.size → d[i]! ≤ d[j]!) : ∀ m, m ≤ d.size →
    Inc (compactUpTo d m) ∧ (∀ x, x ∈ compactUpTo d m ↔ ∃ j, j < m ∧ d[j]! = x)
  | 0, _ => by
    have e : compactUpTo d 0 = [] := rfl
    rw [e]
    exact ⟨List.Pairwise.nil, fun x => by simp⟩
  | m + 1, hm => by
    obtain ⟨ih1, ih2⟩ := compact_step d hs m (by omega)
    rw [compactUpTo_succ]
    cases hk : keeps d m
    · have hm0 : m ≠ 0 ∧ d[m]! = d[m - 1]! := by
        unfold keeps at hk
        simpa using hk
      simp only [Bool.false_eq_true, if_false, List.append_nil]
      refine ⟨ih1, fun x => ?_⟩
      rw [ih2]
      constructor
      · rintro ⟨j, h1, h2⟩; exact ⟨j, by omega, h2⟩
      · rintro ⟨j, h1, h2⟩
        by_cases e : j = m
        · subst e; exact ⟨j - 1, by omega, by rw [← hm0.2]; exact h2⟩
        · exact ⟨j, by omega, h2⟩
    · rw [if_pos rfl]
      have hlt : ∀ x ∈ compactUpTo d m, x < d[m]! := fun x hx => by
        obtain ⟨j, h1, h2⟩ := (ih2 x).1 hx
        have h3 := hs j (m - 1) (by omega) (by omega)
        have h4 := hs (m - 1) m (by omega) (by omega)
        have h5 : m = 0 ∨ d[m]! ≠ d[m - 1]! := by
          unfold keeps at hk
          simpa using hk
        omega
      refine ⟨?_, fun x => ?_⟩
      · unfold Inc
        rw [List.pairwise_append]
        exact ⟨ih1, by simp, fun a ha b hb => by rw [List.mem_singleton] at hb; rw [hb]; exact hlt a ha⟩
      · rw [List.mem_append, ih2, List.mem_singleton]
        constructor
        · rintro (⟨j, h1, h2⟩ | e)
          · exact ⟨j, by omega, h2⟩
          · exact ⟨m, by omega, e.symm⟩
        · rintro ⟨j, h1, h2⟩
          by_cases e : j = m
          · subst e; exact .inr h2.symm
          · exact .inl ⟨j, by omega, h2⟩
/-- The elements of l in increasing order without duplicates. -/
def srt (l : List Int) : List Int := l.mergeSort fun x y => decide (x ≤ y)
def setL (l : List Int) : List Int := compact (srt l)
theorem srt_len (l : List Int) : (srt l).length = l.length := by unfold srt; simp
theorem set_both (l : List Int) : Inc (setL l) ∧ ∀ x, x ∈ setL l ↔ x ∈ l := by
  have hp : (srt l).Pairwise (fun x y => decide (x ≤ y) = true) := by
    unfold srt
    exact List.pairwise_mergeSort (fun a b c h1 h2 => by simp at *; omega) (fun a b => by simp; omega) l
  have hs : ∀ i j, i ≤ j → j < (srt l).toArray.size → (srt l).toArray[i]! ≤ (srt l).toArray[j]! := fun i j hij hj => by
    have hj' : j < (srt l).length := by simpa using hj
    rcases Nat.lt_or_ge i j with q | q
    · have := (List.pairwise_iff_getElem.1 hp) i j (by omega) hj' q
      have e1 : (srt l).toArray[i]! = (srt l)[i] := by simp [show i < (srt l).length by omega]
      have e2 : (srt l).toArray[j]! = (srt l)[j] := by simp [hj']
      rw [e1, e2]
      simpa using this
    · have : i = j := by omega
      subst this; exact Int.le_refl _
  have h := compact_step (srt l).toArray hs (srt l).length (by simp)
  refine ⟨h.1, fun x => ?_⟩
  have h2 := h.2 x
  show x ∈ compactUpTo (srt l).toArray (srt l).length ↔ _
  rw [h2]
  have h3 : x ∈ srt l ↔ x ∈ l := by unfold srt; exact List.mem_mergeSort
  rw [← h3, List.mem_iff_getElem]
  constructor
  · rintro ⟨j, hj, e⟩
    refine ⟨j, hj, ?_⟩
    simpa [hj] using e
  · rintro ⟨j, hj, e⟩
    refine ⟨j, hj, ?_⟩
    simpa [hj] using e
theorem set_inc (l : List Int) : Inc (setL l) := (set_both l).1
theorem set_mem (l : List Int) (x : Int) : x ∈ setL l ↔ x ∈ l := (set_both l).2 x
theorem set_eq {a l : List Int} (ha : Inc a) (h : ∀ x, x ∈ a ↔ x ∈ l) : a = setL l := inc_unique ha (set_inc l) (fun x => by rw [h, set_mem])
theorem compact_le (l : List Int) : (compact l).length ≤ l.length := by
  unfold compact compactUpTo
  rw [List.length_map]
  exact Nat.le_trans (List.length_filter_le _ _) (by simp)
theorem set_le (l : List Int) : (setL l).length ≤ l.length := by
  have := compact_le (srt l)
  rw [srt_len] at this
  exact this
theorem set_nil : setL [] = [] := List.eq_nil_of_length_eq_zero (by have := set_le []; simpa using this)
theorem set_ext {a b : List Int} (h : ∀ x, x ∈ a ↔ x ∈ b) : setL a = setL b := set_eq (set_inc a) (fun x => by rw [set_mem, h])
theorem set_set (a : List Int) : setL (setL a) = setL a := (set_eq (set_inc a) (fun _ => Iff.rfl)).symm
theorem filter_inc {l : List Int} (h : Inc l) (p : Int → Bool) : Inc (l.filter p) := List.Pairwise.filter p h
/-- The elements of l that p holds of, as a set. -/
theorem set_filter (l : List Int) (p : Int → Bool) : (setL l).filter p = setL (l.filter p) :=
  set_eq (filter_inc (set_inc l) p) (fun x => by rw [List.mem_filter, List.mem_filter, set_mem])
theorem inc_nodup {l : List Int} (h : Inc l) : l.Nodup := List.Pairwise.imp (fun h => Int.ne_of_lt h) h
theorem inc_le {l : List Int} (h : Inc l) : l.Pairwise (· ≤ ·) := List.Pairwise.imp (fun h => Int.le_of_lt h) h
end Go.Proofs.Ytjohdkcgodaeiaa
