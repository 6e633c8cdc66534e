/- Text and Parse undo each other: plain mathematics over the functions that the contracts name. -/
import Derived.Test.YtipapemcedkinaaN5
import Derived.Test.YtipapemcedkinaaN3
namespace Go.Proofs.Ytipapemcedkinaa
open Go.RowKit Go.PlainAid

def intsOf (s : ByteArray) : List Int := s.data.toList.map fun b => (b.toNat : Int)
theorem intsOf_len (s : ByteArray) : (intsOf s).length = s.size := by unfold intsOf; rw [List.length_map]; rfl
theorem strOf_ints (s : ByteArray) : strOfNums (intsOf s) = s := by
  apply ByteArray.ext
  apply Array.toList_inj.1
  rw [strOfNums_data]
  unfold intsOf
  rw [List.map_map]
  conv => rhs; rw [← List.map_id s.data.toList]
  apply List.map_congr_left
  intro b _
  simp
theorem ints_str (L : List Int) (h : ∀ d ∈ L, 0 ≤ d ∧ d ≤ 255) : intsOf (strOfNums L) = L := by
  unfold intsOf
  rw [strOfNums_data, List.map_map]
  conv => rhs; rw [← List.map_id L]
  apply List.map_congr_left
  intro d hd
  have := h d hd
  simp
  omega
theorem bt_ints (s : ByteArray) (i : Nat) (h : i < s.size) : Go.PlainAid.bt s i = (intsOf s).getD i 0 := by
  unfold Go.PlainAid.bt intsOf
  rw [dif_pos h]
  have h' : i < s.data.toList.length := h
  simp [List.getD, List.getElem?_map, List.getElem?_eq_getElem h']
  rfl
theorem ints_inj {a b : ByteArray} (h : intsOf a = intsOf b) : a = b := by rw [← strOf_ints a, h, strOf_ints]
theorem ints_extract (s : ByteArray) : intsOf (s.extract 1 s.size) = (intsOf s).tail := by
  unfold intsOf
  rw [ByteArray.data_extract]
  simp
  apply List.take_of_length_le
  rw [List.length_tail, List.length_map]
  exact Nat.le_refl _

def valL (L : List Int) : Int := L.foldl (fun a d => a * 10 + (d - 48)) 0
theorem valL_snoc (L : List Int) (d : Int) : valL (L ++ [d]) = valL L * 10 + (d - 48) := by unfold valL; simp
theorem valB_take (s : ByteArray) (k : Nat) (h : k ≤ s.size) : valB s k = valL ((intsOf s).take k) := by
  induction k with
  | zero => rfl
  | succ k ih =>
    have hl : k < (intsOf s).length := by rw [intsOf_len]; omega
    rw [List.take_succ_eq_append_getElem hl, valL_snoc, ← ih (by omega)]
    show valB s k * 10 + (Go.PlainAid.bt s k - 48) = _
    rw [bt_ints s k (by omega)]
    simp [List.getD, List.getElem?_eq_getElem hl]
theorem valB_ints (s : ByteArray) : valB s s.size = valL (intsOf s) := by
  rw [valB_take s s.size (Nat.le_refl _), List.take_of_length_le (by rw [intsOf_len]; omega)]

/-- A list of digits with no zero ahead of others. -/
def DecL (L : List Int) : Prop := (∀ d ∈ L, 48 ≤ d ∧ d ≤ 57) ∧ L ≠ [] ∧ (L.head? = some 48 → L.length = 1)
theorem dec_ints (s : ByteArray) : Dec s ↔ DecL (intsOf s) := by
  unfold Dec DecL
  constructor
  · rintro ⟨h1, h2, h3⟩
    refine ⟨fun d hd => ?_, ?_, ?_⟩
    · obtain ⟨i, hi, rfl⟩ := List.getElem_of_mem hd
      have hs : i < s.size := by rw [← intsOf_len]; exact hi
      have := h1 i hs
      rw [bt_ints s i hs] at this
      simpa [List.getD, List.getElem?_eq_getElem hi] using this
    · intro h; rw [← intsOf_len, h] at h2; simp at h2
    · intro h; rw [intsOf_len]; apply h3
      rw [bt_ints s 0 h2]
      rw [List.head?_eq_getElem?] at h
      simp [List.getD, h]
  · rintro ⟨h1, h2, h3⟩
    have hp : 0 < s.size := by
      rw [← intsOf_len]; exact List.length_pos_iff.2 h2
    refine ⟨fun i hi => ?_, hp, fun h => ?_⟩
    · have hl : i < (intsOf s).length := by rw [intsOf_len]; exact hi
      rw [bt_ints s i hi]
      simp only [List.getD, List.getElem?_eq_getElem hl, Option.getD_some]
      exact h1 _ (List.getElem_mem hl)
    · rw [← intsOf_len]; apply h3
      have hl : 0 < (intsOf s).length := by rw [intsOf_len]; exact hp
      rw [bt_ints s 0 hp] at h
      simp only [List.getD, List.getElem?_eq_getElem hl, Option.getD_some] at h
      rw [List.head?_eq_getElem?, List.getElem?_eq_getElem hl, h]

theorem snoc_cases (L : List Int) : L = [] ∨ ∃ K d, L = K ++ [d] := by
  rcases h : L.reverse with _ | ⟨d, K⟩
  · exact .inl (by simpa using h)
  · refine .inr ⟨K.reverse, d, ?_⟩
    have := congrArg List.reverse h
    simpa using this
theorem valL_nonneg : ∀ (n : Nat) (L : List Int), L.length = n → (∀ d ∈ L, 48 ≤ d ∧ d ≤ 57) → 0 ≤ valL L
  | 0, L, hl, _ => by
    have : L = [] := List.eq_nil_of_length_eq_zero hl
    rw [this]; exact Int.le_refl _
  | n + 1, L, hl, h => by
    rcases snoc_cases L with rfl | ⟨K, d, rfl⟩
    · simp at hl
    · rw [valL_snoc]
      have := valL_nonneg n K (by simpa using hl) (fun x hx => h x (by simp [hx]))
      have := h d (by simp)
      omega
theorem head_snoc {K : List Int} {d : Int} (h : K ≠ []) : (K ++ [d]).head? = K.head? := by
  rcases K with _ | ⟨a, K⟩
  · exact absurd rfl h
  · rfl
theorem digs_valL : ∀ (n : Nat) (L : List Int), L.length = n → DecL L → digs (valL L).toNat = L ∧ (L.head? ≠ some 48 → 0 < valL L)
  | 0, L, hl, h => absurd (List.eq_nil_of_length_eq_zero hl) h.2.1
  | n + 1, L, hl, h => by
    rcases snoc_cases L with rfl | ⟨K, d, rfl⟩
    · simp at hl
    · obtain ⟨h1, h2, h3⟩ := h
      have hd := h1 d (by simp)
      by_cases hK : K = []
      · subst hK
        have hv : valL ([] ++ [d]) = d - 48 := by rw [valL_snoc]; show (0 : Int) * 10 + (d - 48) = _; omega
        rw [hv]
        refine ⟨?_, ?_⟩
        · rw [digs, dif_pos (by omega)]
          simp; omega
        · intro hne
          have : d ≠ 48 := by intro e; apply hne; rw [e]; rfl
          omega
      · have hne : K.head? ≠ some 48 := by
          intro e
          have := h3 (by rw [head_snoc hK, e])
          exact hK (by simpa using this)
        have hDK : DecL K := ⟨fun x hx => h1 x (by simp [hx]), hK, fun e => absurd e hne⟩
        obtain ⟨i1, i2⟩ := digs_valL n K (by simpa using hl) hDK
        have hp := i2 hne
        rw [valL_snoc]
        refine ⟨?_, fun _ => by omega⟩
        rw [digs_pre, show (valL K * 10 + (d - 48)).toNat / 10 = (valL K).toNat by omega]
        unfold pre
        rw [if_neg (by omega), i1, show (((valL K * 10 + (d - 48)).toNat % 10 : Nat) : Int) = d - 48 by omega]
        simp
        omega
theorem valL_digs (n : Nat) : valL (digs n) = n := by
  induction n using Nat.strongRecOn with
  | ind n ih =>
    rw [digs]
    split
    · show (0 : Int) * 10 + (48 + (n : Int) - 48) = n
      omega
    · rw [valL_snoc, ih (n / 10) (by omega)]
      omega
theorem digs_ne (n : Nat) : digs n ≠ [] := by rw [digs_pre]; simp
theorem digs_head (n : Nat) (h : 0 < n) : (digs n).head? ≠ some 48 := by
  induction n using Nat.strongRecOn with
  | ind n ih =>
    rw [digs]
    split
    · simp; omega
    · rw [head_snoc (digs_ne _)]
      exact ih (n / 10) (by omega) (by omega)
theorem decL_digs (n : Nat) : DecL (digs n) := by
  refine ⟨digs_range n, digs_ne n, fun h => ?_⟩
  by_cases h0 : 0 < n
  · exact absurd h (digs_head n h0)
  · have : n = 0 := by omega
    subst this
    rw [digs, dif_pos (by omega)]; rfl

/-- Parse reads what Text has written. -/
theorem text_range (n : Int) : ∀ d ∈ textF n, 0 ≤ d ∧ d ≤ 255 := by
  intro d hd
  unfold textF at hd
  split at hd
  · simp at hd
    rcases hd with rfl | hd
    · omega
    · have := digs_range _ d hd; omega
  · have := digs_range _ d hd; omega
theorem neg_ints (s : ByteArray) : Neg s ↔ (intsOf s).head? = some 45 := by
  unfold Neg
  rw [List.head?_eq_getElem?]
  constructor
  · rintro ⟨h1, h2⟩
    have hl : 0 < (intsOf s).length := by rw [intsOf_len]; exact h1
    rw [bt_ints s 0 h1] at h2
    simp only [List.getD, List.getElem?_eq_getElem hl, Option.getD_some] at h2
    rw [List.getElem?_eq_getElem hl, h2]
  · intro h
    have hl : 0 < (intsOf s).length := by
      rcases hh : intsOf s with _ | ⟨a, l⟩
      · rw [hh] at h; cases h
      · simp
    have h1 : 0 < s.size := by rw [← intsOf_len]; exact hl
    refine ⟨h1, ?_⟩
    rw [bt_ints s 0 h1]
    simp [List.getD, h]
theorem ints_48 (s : ByteArray) : s.toList = [48] ↔ intsOf s = [48] := by
  rw [ByteArray.toList_eq]
  unfold intsOf
  constructor
  · intro h; rw [h]; rfl
  · intro h
    rcases hh : s.data.toList with _ | ⟨a, _ | ⟨b, l⟩⟩
    · rw [hh] at h; cases h
    · rw [hh] at h
      simp at h
      have : a = 48 := by apply UInt8.toNat_inj.1; show a.toNat = 48; omega
      rw [this]
    · rw [hh] at h; simp at h
theorem form_text (n : Int) : formF (strOfNums (textF n)) ∧ valS (strOfNums (textF n)) = n := by
  have hi := ints_str (textF n) (text_range n)
  unfold formF valS
  by_cases hn : n < 0
  · have ht : textF n = 45 :: digs n.natAbs := by unfold textF; rw [if_pos hn]
    have hN : Neg (strOfNums (textF n)) := (neg_ints _).2 (by rw [hi, ht]; rfl)
    have he : intsOf ((strOfNums (textF n)).extract 1 (strOfNums (textF n)).size) = digs n.natAbs := by rw [ints_extract, hi, ht]; rfl
    refine ⟨.inl ⟨hN, (dec_ints _).2 (by rw [he]; exact decL_digs _), ?_⟩, ?_⟩
    · rw [ints_48, he]
      intro h
      have := digs_head n.natAbs (by omega)
      rw [h] at this; exact this rfl
    · rw [if_pos hN, valB_ints, he, valL_digs]; omega
  · have ht : textF n = digs n.natAbs := by unfold textF; rw [if_neg hn]
    have hN : ¬ Neg (strOfNums (textF n)) := by
      rw [neg_ints, hi, ht]
      intro h
      have hm : (45 : Int) ∈ digs n.natAbs := List.mem_of_mem_head? (by rw [h]; rfl)
      have := digs_range _ _ hm; omega
    refine ⟨.inr ⟨hN, (dec_ints _).2 (by rw [hi, ht]; exact decL_digs _)⟩, ?_⟩
    rw [if_neg hN, valB_ints, hi, ht, valL_digs]; omega
/-- Text writes what Parse has read. -/
theorem text_form {s : ByteArray} (h : formF s) : strOfNums (textF (valS s)) = s := by
  apply ints_inj
  rw [ints_str _ (text_range _)]
  unfold valS
  rcases h with ⟨hN, hd, hz⟩ | ⟨hN, hd⟩
  · rw [if_pos hN, valB_ints]
    have he := ints_extract s
    rw [dec_ints] at hd
    obtain ⟨i1, i2⟩ := digs_valL _ _ rfl hd
    rw [ints_48] at hz
    have hne : (intsOf (s.extract 1 s.size)).head? ≠ some 48 := by
      intro e
      have hl := hd.2.2 e
      rcases hh : intsOf (s.extract 1 s.size) with _ | ⟨a, _ | ⟨b, l⟩⟩
      · rw [hh] at hl; cases hl
      · rw [hh] at e; simp at e; subst e; exact hz hh
      · rw [hh] at hl; simp at hl
    have hp := i2 hne
    unfold textF
    rw [if_pos (by omega), show (-valL (intsOf (s.extract 1 s.size))).natAbs = (valL (intsOf (s.extract 1 s.size))).toNat by omega, i1, he]
    have := (neg_ints s).1 hN
    rcases hh : intsOf s with _ | ⟨a, l⟩
    · rw [hh] at this; cases this
    · rw [hh] at this; simp at this; subst this; rfl
  · rw [if_neg hN, valB_ints]
    rw [dec_ints] at hd
    obtain ⟨i1, i2⟩ := digs_valL _ _ rfl hd
    have h0 := valL_nonneg _ _ rfl hd.1
    unfold textF
    rw [if_neg (by omega), show (valL (intsOf s)).natAbs = (valL (intsOf s)).toNat by omega, i1]
end Go.Proofs.Ytipapemcedkinaa
