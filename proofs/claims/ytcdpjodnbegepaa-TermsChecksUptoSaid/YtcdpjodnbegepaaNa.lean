/- Texts in increasing order; the names of a term; layer 30 (terms). -/
import Derived.Test.YtcdpjodnbegepaaBase
import Derived.Lib.SlicesCompact
namespace Go.Proofs.Ytcdpjodnbegepaa
open Go.Lib

abbrev Bs := List UInt8
def IncK (l : List Bs) : Prop := l.Pairwise (· < ·)
theorem incK_unique : ∀ {a b : List Bs}, IncK a → IncK b → (∀ x, x ∈ a ↔ x ∈ b) → a = b
  | [], [], _, _, _ => rfl
  | [], y :: b, _, _, h => absurd ((h y).2 (by simp)) (by simp)
  | x :: a, [], _, _, h => absurd ((h x).1 (by simp)) (by simp)
  | x :: a, y :: b, ha, hb, h => by
    unfold IncK at ha hb
    rw [List.pairwise_cons] at ha hb
    have hxy : x = y := by
      have h1 := (h x).1 (by simp)
      have h2 := (h y).2 (by simp)
      rw [List.mem_cons] at h1 h2
      rcases h1 with e | h1
      · exact e
      · rcases h2 with e | h2
        · exact e.symm
        · exact absurd (List.lt_trans (hb.1 x h1) (ha.1 y h2)) (List.lt_irrefl _)
    subst hxy
    rw [incK_unique (a := a) (b := b) ha.2 hb.2 (fun z => ?_)]
    constructor
    · intro hz
      have h1 := (h z).1 (by simp [hz])
      rw [List.mem_cons] at h1
      rcases h1 with e | h1
      · have := ha.1 z hz; rw [e] at this; exact absurd this (List.lt_irrefl _)
      · exact h1
    · intro hz
      have h1 := (h z).2 (by simp [hz])
      rw [List.mem_cons] at h1
      rcases h1 with e | h1
      · have := hb.1 z hz; rw [e] at this; exact absurd this (List.lt_irrefl _)
      · exact h1
theorem compactK_step (d : Array Bs) (hs : ∀ i j, i ≤ j → j < d.size → d[i]! ≤ d[j]!) : ∀ m, m ≤ d.size →
    IncK (compactUpTo d m) ∧ (∀ x, x ∈ compactUpTo d m ↔ ∃ j, j < m ∧ d[j]! = x)
  | 0, _ => by
    have e : compactUpTo d 0 = [] := rfl
    rw [e]
    exact ⟨List.Pairwise.nil, fun x => by simp⟩
  | m + 1, hm => by
    obtain ⟨ih1, ih2⟩ := compactK_step d hs m (by omega)
    rw [compactUpTo_succ]
    cases hk : keeps d m
    · have hm0 : m ≠ 0 ∧ d[m]! = d[m - 1]! := by
        unfold keeps at hk
        simpa using hk
      simp only [Bool.false_eq_true, if_false, List.append_nil]
      refine ⟨ih1, fun x => ?_⟩
      rw [ih2]
      constructor
      · rintro ⟨j, h1, h2⟩; exact ⟨j, by omega, h2⟩
      · rintro ⟨j, h1, h2⟩
        by_cases e : j = m
        · subst e; exact ⟨j - 1, by omega, by rw [← hm0.2]; exact h2⟩
        · exact ⟨j, by omega, h2⟩
    · rw [if_pos rfl]
      have hlt : ∀ x ∈ compactUpTo d m, x < d[m]! := fun x hx => by
        obtain ⟨j, h1, h2⟩ := (ih2 x).1 hx
        have h3 := hs j (m - 1) (by omega) (by omega)
        have h4 := hs (m - 1) m (by omega) (by omega)
        have h5 : d[m - 1]! ≠ d[m]! := by
          unfold keeps at hk
          have h6 : m = 0 ∨ d[m]! ≠ d[m - 1]! := by simpa using hk
          rcases h6 with h6 | h6
          · omega
          · exact fun e => h6 e.symm
        have h7 : d[m - 1]! < d[m]! := by
          rcases Decidable.em (d[m - 1]! < d[m]!) with h | h
          · exact h
          · exact absurd (List.le_antisymm h4 (List.not_lt.1 h)) h5
        rw [← h2]
        exact List.lt_of_le_of_lt h3 h7
      refine ⟨?_, fun x => ?_⟩
      · unfold IncK
        rw [List.pairwise_append]
        exact ⟨ih1, by simp, fun a ha b hb => by rw [List.mem_singleton] at hb; rw [hb]; exact hlt a ha⟩
      · rw [List.mem_append, ih2, List.mem_singleton]
        constructor
        · rintro (⟨j, h1, h2⟩ | e)
          · exact ⟨j, by omega, h2⟩
          · exact ⟨m, by omega, e.symm⟩
        · rintro ⟨j, h1, h2⟩
          by_cases e : j = m
          · subst e; exact .inr h2.symm
          · exact .inl ⟨j, by omega, h2⟩
/-- The elements of l in increasing order without duplicates. -/
def srtK (l : List Bs) : List Bs := l.mergeSort fun x y => decide (x ≤ y)
def setK (l : List Bs) : List Bs := compact (srtK l)
theorem srtK_len (l : List Bs) : (srtK l).length = l.length := by unfold srtK; simp
theorem setK_both (l : List Bs) : IncK (setK l) ∧ ∀ x, x ∈ setK l ↔ x ∈ l := by
  have hp : (srtK l).Pairwise (fun x y => decide (x ≤ y) = true) := by
    unfold srtK
    exact List.pairwise_mergeSort (fun a b c h1 h2 => by simp only [decide_eq_true_eq] at *; exact List.le_trans h1 h2) (fun a b => by simp only [Bool.or_eq_true, decide_eq_true_eq]; exact List.le_total a b) l
  have hs : ∀ i j, i ≤ j → j < (srtK l).toArray.size → (srtK l).toArray[i]! ≤ (srtK l).toArray[j]! := fun i j hij hj => by
    have hj' : j < (srtK l).length := by simpa using hj
    rcases Nat.lt_or_ge i j with q | q
    · have := (List.pairwise_iff_getElem.1 hp) i j (by omega) hj' q
      have e1 : (srtK l).toArray[i]! = (srtK l)[i] := by simp [show i < (srtK l).length by omega]
      have e2 : (srtK l).toArray[j]! = (srtK l)[j] := by simp [hj']
      rw [e1, e2]
      exact of_decide_eq_true this
    · have : i = j := by omega
      subst this; exact List.le_refl _
  have h := compactK_step (srtK l).toArray hs (srtK l).length (by simp)
  refine ⟨h.1, fun x => ?_⟩
  have h2 := h.2 x
  show x ∈ compactUpTo (srtK l).toArray (srtK l).length ↔ _
  rw [h2]
  have h3 : x ∈ srtK l ↔ x ∈ l := by unfold srtK; exact List.mem_mergeSort
  rw [← h3, List.mem_iff_getElem]
  constructor
  · rintro ⟨j, hj, e⟩
    refine ⟨j, hj, ?_⟩
    simpa [hj] using e
  · rintro ⟨j, hj, e⟩
    refine ⟨j, hj, ?_⟩
    simpa [hj] using e
theorem setK_inc (l : List Bs) : IncK (setK l) := (setK_both l).1
theorem setK_mem (l : List Bs) (x : Bs) : x ∈ setK l ↔ x ∈ l := (setK_both l).2 x
theorem setK_eq {a l : List Bs} (ha : IncK a) (h : ∀ x, x ∈ a ↔ x ∈ l) : a = setK l := incK_unique ha (setK_inc l) (fun x => by rw [h, setK_mem])
theorem compactK_le (l : List Bs) : (compact l).length ≤ l.length := by
  unfold compact compactUpTo
  rw [List.length_map]
  exact Nat.le_trans (List.length_filter_le _ _) (by simp)
theorem setK_le (l : List Bs) : (setK l).length ≤ l.length := by
  have := compactK_le (srtK l)
  rw [srtK_len] at this
  exact this
theorem setK_nil : setK [] = [] := List.eq_nil_of_length_eq_zero (by have := setK_le []; simpa using this)
/-- The specification's insertion. -/
def insK (s : Bs) : List Bs → List Bs
  | [] => [s]
  | x :: r => if s < x then s :: x :: r else x :: insK s r
def withK (l : List Bs) (s : Bs) : List Bs := if s ∈ l then l else insK s l
theorem insK_mem (s y : Bs) : ∀ l, y ∈ insK s l ↔ y = s ∨ y ∈ l
  | [] => by simp [insK]
  | x :: r => by
    unfold insK
    split
    · simp
    · simp only [List.mem_cons, insK_mem s y r]
      constructor
      · rintro (h | h | h)
        · exact .inr (.inl h)
        · exact .inl h
        · exact .inr (.inr h)
      · rintro (h | h | h)
        · exact .inr (.inl h)
        · exact .inl h
        · exact .inr (.inr h)
theorem insK_inc (s : Bs) : ∀ {l}, IncK l → s ∉ l → IncK (insK s l)
  | [], _, _ => List.pairwise_singleton _ _
  | x :: r, h, hn => by
    have h2 := h
    unfold IncK at h2
    rw [List.pairwise_cons] at h2
    unfold insK
    split
    · rename_i g
      unfold IncK
      rw [List.pairwise_cons]
      refine ⟨fun a ha => ?_, h⟩
      rcases List.mem_cons.1 ha with rfl | ha
      · exact g
      · exact List.lt_trans g (h2.1 a ha)
    · rename_i g
      have hsx : x < s := by
        rcases Decidable.em (x < s) with e | e
        · exact e
        · exact absurd (List.le_antisymm (List.not_lt.1 e) (List.not_lt.1 g)) (fun e2 => hn (by rw [e2]; simp))
      unfold IncK
      rw [List.pairwise_cons]
      refine ⟨fun a ha => ?_, insK_inc s (l := r) h2.2 (fun e => hn (by simp [e]))⟩
      rcases (insK_mem s a r).1 ha with rfl | ha
      · exact hsx
      · exact h2.1 a ha
theorem withK_inc {l : List Bs} (h : IncK l) (s : Bs) : IncK (withK l s) := by
  unfold withK
  split
  · exact h
  · rename_i g; exact insK_inc s h g
theorem withK_mem (l : List Bs) (s y : Bs) : y ∈ withK l s ↔ y ∈ l ∨ y = s := by
  unfold withK
  split
  · rename_i g
    constructor
    · exact .inl
    · rintro (h | rfl)
      · exact h
      · exact g
  · rw [insK_mem]
    exact Or.comm
theorem foldK : ∀ (L l : List Bs), IncK l → IncK (L.foldl withK l) ∧ ∀ y, y ∈ L.foldl withK l ↔ y ∈ l ∨ y ∈ L
  | [], l, h => ⟨h, fun y => by simp⟩
  | s :: L, l, h => by
    obtain ⟨h1, h2⟩ := foldK L (withK l s) (withK_inc h s)
    refine ⟨h1, fun y => ?_⟩
    show y ∈ L.foldl withK (withK l s) ↔ _
    rw [h2, withK_mem, List.mem_cons]
    exact or_assoc
theorem foldK_set (L : List Bs) : L.foldl withK [] = setK L := setK_eq (foldK L [] List.Pairwise.nil).1 (fun y => by rw [(foldK L [] List.Pairwise.nil).2 y]; simp)

def key (m : ByteArray) : Bs := m.data.toList
def bs (l : Bs) : ByteArray := ⟨l.toArray⟩
theorem bs_key (m : ByteArray) : bs (key m) = m := rfl
theorem key_bs (l : Bs) : key (bs l) = l := rfl
-- The names of the nodes of one operator, node by node.
mutual
def occ (o : Int) : Ex → List Bs | .mk p _ m ks => (if p = o then [key m] else []) ++ occL o ks
def occL (o : Int) : List Ex → List Bs
  | [] => []
  | t :: r => occ o t ++ occL o r
end
theorem occ_eq (o : Int) (t : Ex) : occ o t = (if t.op = o then [key t.nm] else []) ++ occL o t.ks := by cases t; rfl
mutual
theorem occ_le (o : Int) : ∀ t : Ex, (occ o t).length ≤ t.sz
  | .mk p v m ks => by
    have := occL_le o ks
    show ((if p = o then [key m] else []) ++ occL o ks).length ≤ 1 + szL ks
    rw [List.length_append]
    split <;> simp <;> omega
theorem occL_le (o : Int) : ∀ l : List Ex, (occL o l).length ≤ szL l
  | [] => Nat.le_refl _
  | t :: r => by
    have := occ_le o t
    have := occL_le o r
    show (occ o t ++ occL o r).length ≤ t.sz + szL r
    rw [List.length_append]
    omega
end
end Go.Proofs.Ytcdpjodnbegepaa
