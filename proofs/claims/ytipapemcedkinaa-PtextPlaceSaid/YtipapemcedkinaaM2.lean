/- What is read is spelled; what Parse and Show answer of each other's answers; layer 7 (ptext). -/
import Derived.Test.YtipapemcedkinaaM1
namespace Go.Proofs.Ytipapemcedkinaa
open Go.RowKit Go.PlainAid

theorem Spell.cons {s : ByteArray} {k : Nat} {c : Int} {L : List Int} (h : Go.PlainAid.bt s k = c) (h2 : Spell s (k + 1) L) : Spell s k (c :: L) := fun i hi => by
  cases i with
  | zero => simpa using h
  | succ i => have := h2 i (by simpa using hi); rw [show k + (i + 1) = k + 1 + i by omega, this]; simp
theorem Spell.app {s : ByteArray} {k : Nat} {L M : List Int} (h : Spell s k L) (h2 : Spell s (k + L.length) M) : Spell s k (L ++ M) := fun i hi => by
  rcases Nat.lt_or_ge i L.length with hl | hl
  · rw [h i hl]; simp [List.getD, List.getElem?_append_left hl]
  · obtain ⟨j, rfl⟩ : ∃ j, i = L.length + j := ⟨i - L.length, by omega⟩
    have := h2 j (by rw [List.length_append] at hi; omega)
    rw [show k + (L.length + j) = k + L.length + j by omega, this]
    simp [List.getD, List.getElem?_append_right]
theorem Spell.nil (s : ByteArray) (k : Nat) : Spell s k [] := fun i hi => absurd hi (by simp)
theorem spell_word {s : ByteArray} : ∀ {L : List Int} {k a : Nat}, wordL s L k = (a, true) → Spell s k L ∧ a = k + L.length
  | [], k, a, h => by
    rw [wordL] at h
    injection h with h _
    exact ⟨Spell.nil s k, by simp; omega⟩
  | c :: r, k, a, h => by
    rw [wordL] at h
    split at h
    · rename_i hc
      obtain ⟨h1, h2⟩ := spell_word h
      exact ⟨Spell.cons hc h1, by rw [List.length_cons]; omega⟩
    · injection h with _ h
      cases h
theorem spell_num {s : ByteArray} {k a : Nat} {n : Int} (hk : k ≤ s.size) (h : numR s k = .ok n a) : Spell s k (textF n) ∧ a = k + (textF n).length := by
  unfold numR at h
  split at h
  · cases h
  · rename_i h0
    injection h with hn ha
    obtain ⟨h1, h2⟩ := nform hk h0
    have h3 := text_form h1
    rw [h2, hn] at h3
    have h4 : textF n = intsOf (s.extract k (k + nlen s k)) := by rw [← h3, ints_str _ (text_range n)]
    have hb := nlen_size hk
    have hsz : (s.extract k (k + nlen s k)).size = nlen s k := by rw [ByteArray.size_extract]; omega
    have h5 : (textF n).length = nlen s k := by rw [h4, intsOf_len, hsz]
    refine ⟨fun i hi => ?_, by omega⟩
    rw [h4, ← bt_ints _ i (by omega), bt_sub hb (by omega)]
theorem xr_text (s : ByteArray) : ∀ f, (∀ k t a, k ≤ s.size → exprF s f k = .ok t a → Spell s k (txt t) ∧ a = k + (txt t).length) ∧
    (∀ o k l t a, k ≤ s.size → kidsF s f o k l = .ok t a → ∃ r, t = .mk o 0 (l ++ r) ∧ Spell s k (txtL r ++ [41]) ∧ a = k + ((txtL r).length + 1)) := by
  intro f
  induction f with
  | zero =>
    refine ⟨fun k t a _ h => ?_, fun o k l t a _ h => ?_⟩
    · rw [exprF] at h
      cases h
    · rw [kidsF] at h
      cases h
  | succ f ih =>
    constructor
    · intro k t a hk h
      rw [exprF] at h
      by_cases h1 : Go.PlainAid.bt s k = 116
      · rw [if_pos h1] at h
        unfold ofWord at h
        split at h
        · rename_i hw
          injection h with ht ha
          subst ht
          refine spell_word (a := a) ?_
          rw [← ha, ← hw]
          rfl
        · cases h
      · rw [if_neg h1] at h
        by_cases h2 : Go.PlainAid.bt s k = 102
        · rw [if_pos h2] at h
          unfold ofWord at h
          split at h
          · rename_i hw
            injection h with ht ha
            subst ht
            refine spell_word (a := a) ?_
            rw [← ha, ← hw]
            rfl
          · cases h
        · rw [if_neg h2] at h
          by_cases h3 : Go.PlainAid.bt s k = 118
          · rw [if_pos h3] at h
            have hl := at_lt h3 (by omega)
            cases hR : numR s (k + 1) with
            | bad b => rw [hR] at h; cases h
            | ok n b =>
              rw [hR] at h
              injection h with ht ha
              subst ht
              obtain ⟨g1, g2⟩ := spell_num hl hR
              show Spell s k (118 :: textF n) ∧ a = k + (118 :: textF n).length
              exact ⟨Spell.cons h3 g1, by rw [List.length_cons]; omega⟩
          · rw [if_neg h3] at h
            by_cases h4 : Go.PlainAid.bt s k = 40
            · rw [if_pos h4] at h
              have hl := at_lt h4 (by omega)
              have hin := operR_in (k := k + 1) hl
              cases hR : operR s (k + 1) with
              | bad b => rw [hR] at h; cases h
              | ok o b =>
                rw [hR] at h hin
                unfold operR at hR
                split at hR
                · cases hR
                · rename_i h0
                  injection hR with ho hb
                  obtain ⟨r, ht, hS, ha⟩ := ih.2 o b [] t a hin.2 h
                  have hr := (opF_range (Go.PlainAid.bt s (k + 1))).resolve_left h0
                  have hsg : sgn o = Go.PlainAid.bt s (k + 1) := by rw [← ho]; exact sgn_opF h0
                  subst ht
                  have hx : txt (.mk o 0 ([] ++ r)) = 40 :: sgn o :: (txtL r ++ [41]) := by
                    rw [txt_eq]
                    show (if o = 1 then _ else if o = 2 then _ else if o = 3 then _ else _) = _
                    rw [if_neg (by omega), if_neg (by omega), if_neg (by omega)]
                    rfl
                  rw [hx]
                  exact ⟨Spell.cons h4 (Spell.cons hsg.symm (by rw [hb]; exact hS)), by simp only [List.length_cons, List.length_append, List.length_nil]; omega⟩
            · rw [if_neg h4] at h
              cases h
    · intro o k l t a hk h
      rw [kidsF] at h
      by_cases h1 : Go.PlainAid.bt s k = 32
      · rw [if_pos h1] at h
        have hl := at_lt h1 (by omega)
        have hin := (xr_in s f).1 (k + 1) hl
        cases hX : exprF s f (k + 1) with
        | bad b => rw [hX] at h; cases h
        | ok u b =>
          rw [hX] at h hin
          obtain ⟨g1, g2⟩ := ih.1 (k + 1) u b hl hX
          obtain ⟨r, ht, hS, ha⟩ := ih.2 o b (l ++ [u]) t a hin.2.1 h
          refine ⟨u :: r, by rw [ht, List.append_assoc]; rfl, ?_, ?_⟩
          · rw [txtL, List.cons_append, List.append_assoc]
            exact Spell.cons h1 (Spell.app g1 (by rw [← g2]; exact hS))
          · rw [txtL]
            simp only [List.length_cons, List.length_append]
            omega
      · rw [if_neg h1] at h
        by_cases h2 : Go.PlainAid.bt s k = 41
        · rw [if_pos h2] at h
          injection h with ht ha
          exact ⟨[], by rw [List.append_nil]; exact ht.symm, Spell.cons h2 (Spell.nil _ _), by simp [txtL]; omega⟩
        · rw [if_neg h2] at h
          cases h
theorem ints_of_spell {s : ByteArray} {L : List Int} (h : Spell s 0 L) (hl : L.length = s.size) : intsOf s = L := by
  apply List.ext_getElem (by rw [intsOf_len]; exact hl.symm)
  intro i h1 h2
  have h3 := h i h2
  rw [Nat.zero_add, bt_ints s i (by rw [intsOf_len] at h1; exact h1)] at h3
  simpa [List.getD, List.getElem?_eq_getElem h1, List.getElem?_eq_getElem h2] using h3
theorem spell_str {L : List Int} (hr : ∀ d ∈ L, 0 ≤ d ∧ d ≤ 255) : Spell (strOfNums L) 0 L := fun i hi => by
  rw [Nat.zero_add, bt_ints _ i (by rw [strOfNums_size]; exact hi), ints_str L hr]
mutual
theorem txt_in : ∀ (t : Ex), ∀ d ∈ txt t, 0 ≤ d ∧ d ≤ 255
  | .mk o v ks => by
    rw [txt]
    have hk := txtL_in ks
    have hg := sgn_in o
    split
    · simp
    · split
      · simp
      · split
        · intro d hd
          rcases List.mem_cons.1 hd with rfl | hd
          · omega
          · exact text_range v d hd
        · intro d hd
          rcases List.mem_cons.1 hd with rfl | hd
          · omega
          · rcases List.mem_cons.1 hd with rfl | hd
            · exact hg
            · rcases List.mem_append.1 hd with hd | hd
              · exact hk d hd
              · simp at hd; omega
theorem txtL_in : ∀ (l : List Ex), ∀ d ∈ txtL l, 0 ≤ d ∧ d ≤ 255
  | [] => by simp [txtL]
  | t :: r => by
    rw [txtL]
    intro d hd
    rcases List.mem_cons.1 hd with rfl | hd
    · omega
    · rcases List.mem_append.1 hd with hd | hd
      · exact txt_in t d hd
      · exact txtL_in r d hd
end
/-- Parse undoes Show. -/
theorem pars_txt {t : Ex} (h : chkE t = 0) : parsR (strOfNums (txt t)) = (t, ((txt t).length : Int), 0) := by
  have hs := chkE_shp h
  have hz := chkE_sz h
  have hl := txt_len t hs
  have hg := txt_ge t hs
  have hsz : (strOfNums (txt t)).size = (txt t).length := strOfNums_size _
  have hx := read_txt (strOfNums (txt t)) t (2 * (strOfNums (txt t)).size + 2) 0 hs (spell_str (txt_in t)) (by
    show ¬ (48 ≤ _ ∧ _)
    rw [bt_end _ (by omega)]
    omega) (by omega)
  unfold parsR
  rw [if_neg (by omega), hx]
  show (if 0 + (txt t).length < (strOfNums (txt t)).size then _ else if chkE t = 0 then (t, ((strOfNums (txt t)).size : Int), (0 : Int)) else _) = _
  rw [if_neg (by omega), if_pos h, hsz]
/-- Show undoes Parse. -/
theorem shw_pars {s : ByteArray} (h : (parsR s).2.2 = 0) : shwR (parsR s).1 = (intsOf s, 0) := by
  unfold parsR at h ⊢
  by_cases hl : 65536 < s.size
  · rw [if_pos hl] at h; exact absurd h (by decide)
  · rw [if_neg hl] at h ⊢
    have hin := (xr_in s (2 * s.size + 2)).1 0 (Nat.zero_le _)
    cases hX : exprF s (2 * s.size + 2) 0 with
    | bad a => rw [hX] at h; exact absurd (show (3 : Int) = 0 from h) (by decide)
    | ok t a =>
      rw [hX] at h hin
      obtain ⟨g1, g2⟩ := (xr_text s (2 * s.size + 2)).1 0 t a (Nat.zero_le _) hX
      have h' : (if a < s.size then (ex0, (a : Int), (3 : Int)) else if chkE t = 0 then (t, (s.size : Int), 0) else (ex0, 0, chkE t)).2.2 = 0 := h
      show shwR (if a < s.size then (ex0, (a : Int), (3 : Int)) else if chkE t = 0 then (t, (s.size : Int), 0) else (ex0, 0, chkE t)).1 = _
      by_cases ha : a < s.size
      · rw [if_pos ha] at h'; exact absurd (show (3 : Int) = 0 from h') (by decide)
      · rw [if_neg ha] at h' ⊢
        by_cases hc : chkE t = 0
        · rw [if_pos hc]
          show shwR t = _
          unfold shwR
          rw [if_pos hc, ints_of_spell g1 (by have := hin.2.1; omega)]
        · rw [if_neg hc] at h'; exact absurd h' hc
end Go.Proofs.Ytipapemcedkinaa
