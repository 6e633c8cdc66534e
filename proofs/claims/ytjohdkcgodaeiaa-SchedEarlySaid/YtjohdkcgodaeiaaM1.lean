/- The greedy plan and the specification's plan are the same list; layer 42 (sched). -/
import Derived.Test.YtjohdkcgodaeiaaD0
namespace Go.Proofs.Ytjohdkcgodaeiaa
open Go.RowKit

theorem mem_iff {l : List Int} {v : Int} : mem l v = true ↔ v ∈ l := by unfold mem; simp
theorem mem_not {l : List Int} {v : Int} : mem l v = false ↔ v ∉ l := by unfold mem; simp
theorem split_at {R : List Nat} {b : Nat} (h : b < R.length) : R = R.take b ++ R.getD b 0 :: R.drop (b + 1) := by
  have h1 : R.getD b 0 = R[b] := by simp [List.getD, List.getElem?_eq_getElem h]
  rw [h1, List.getElem_cons_drop, List.take_append_drop]
theorem erase_perm {R : List Nat} {b : Nat} (h : b < R.length) : (R.getD b 0 :: R.eraseIdx b).Perm R := by
  have e2 : R.eraseIdx b = R.take b ++ R.drop (b + 1) := List.eraseIdx_eq_take_drop_succ R b
  rw [e2]
  have h3 := split_at h
  generalize R.getD b 0 = x at *
  refine List.Perm.trans List.perm_middle.symm ?_
  rw [← h3]
/-- How many parts of R have v. -/
def cntR (rows : List Rw) (R : List Nat) (v : Int) : Int := (((R.filter fun i => mem (pr rows i) v).length : Nat) : Int)
theorem cntR_erase {rows : List Rw} {R : List Nat} {b : Nat} (h : b < R.length) (v : Int) : cntR rows R v = cntR rows (R.eraseIdx b) v + if mem (pr rows (R.getD b 0)) v then 1 else 0 := by
  have e := split_at h
  have e2 : R.eraseIdx b = R.take b ++ R.drop (b + 1) := List.eraseIdx_eq_take_drop_succ R b
  have h1 : cntR rows R v = cntR rows (R.take b ++ R.getD b 0 :: R.drop (b + 1)) v := congrArg (fun l => cntR rows l v) e
  rw [h1, e2]
  unfold cntR
  generalize R.getD b 0 = x
  rw [List.filter_append, List.filter_append, List.length_append, List.length_append]
  cases hq : mem (pr rows x) v
  · rw [List.filter_cons_of_neg (by simp [hq])]; simp
  · rw [List.filter_cons_of_pos (by simp [hq])]; simp; omega
theorem cntR_zero {rows : List Rw} {R : List Nat} {v : Int} : cntR rows R v = 0 ↔ ∀ x ∈ R, v ∉ pr rows x := by
  unfold cntR
  constructor
  · intro h x hx hv
    have h0 : (R.filter fun i => mem (pr rows i) v) = [] := List.eq_nil_of_length_eq_zero (by omega)
    have := List.filter_eq_nil_iff.1 h0 x hx
    exact this (mem_iff.2 hv)
  · intro h
    have h0 : (R.filter fun i => mem (pr rows i) v) = [] := List.filter_eq_nil_iff.2 (fun x hx hv => h x hx (mem_iff.1 hv))
    rw [h0]; rfl
theorem getD_ne {R : List Nat} (hn : R.Nodup) {b : Nat} (hb : b < R.length) : R.getD b 0 ∉ R.eraseIdx b := by
  have h1 : R.getD b 0 = R[b] := by simp [List.getD, List.getElem?_eq_getElem hb]
  rw [h1]
  intro h
  rw [List.mem_eraseIdx_iff_getElem] at h
  obtain ⟨i, hi, hne, e⟩ := h
  exact hne ((List.getElem_inj hn).1 e)
/-- Alone: both ways of counting. -/
theorem alone_eq {rows : List Rw} {o : List Int} {R : List Nat} {F : Int → Int} (hF : ∀ v, F v = cntR rows R v) (hn : R.Nodup) {b : Nat} (hb : b < R.length) :
    ((setT rows (R.getD b 0)).filter (alQ o F)).length = alR rows R (R.getD b 0) (setL o) := by
  unfold alR
  congr 1
  apply inc_unique (filter_inc (set_inc _) _) (filter_inc (set_inc _) _)
  intro v
  rw [List.mem_filter, List.mem_filter]
  unfold alQ alP
  rw [set_mem, set_mem]
  simp only [Bool.and_eq_true, beq_iff_eq, mem_iff, Bool.not_eq_true']
  have h1 := cntR_erase (rows := rows) hb v
  have hne := getD_ne hn hb
  have hoth : oth rows (R.getD b 0) v R = false ↔ cntR rows (R.eraseIdx b) v = 0 := by
    rw [cntR_zero]
    unfold oth
    rw [List.any_eq_false]
    constructor
    · intro h x hx hv
      have h5 := h x (List.mem_of_mem_eraseIdx hx)
      have hxe : x ≠ R.getD b 0 := fun e => hne (e ▸ hx)
      apply h5
      rw [Bool.and_eq_true, bne_iff_ne]
      exact ⟨hxe, mem_iff.2 hv⟩
    · intro h x hx
      simp only [Bool.and_eq_true, bne_iff_ne, ne_eq, mem_iff, not_and]
      intro hxe hv
      refine h x ?_ hv
      rw [List.mem_eraseIdx_iff_getElem]
      obtain ⟨i, hi, e⟩ := List.getElem_of_mem hx
      refine ⟨i, hi, fun hib => hxe ?_, e⟩
      subst hib
      rw [← e]; simp [List.getD, List.getElem?_eq_getElem hb]
  rw [hoth, hF v]
  constructor
  · rintro ⟨h2, h3, h4⟩
    rw [if_pos (mem_iff.2 h2)] at h1
    exact ⟨h3, h2, by omega⟩
  · rintro ⟨h3, h2, h4⟩
    rw [if_pos (mem_iff.2 h2)] at h1
    exact ⟨h2, h3, by omega⟩
theorem fresh_eq {rows : List Rw} {A : List Nat} {G : Int → Bool} (hG : ∀ v, G v = anyP rows A v) (k : Nat) : ((setT rows k).filter fun v => !G v).length = frR rows A k := by
  unfold frR setT
  congr 1
  apply List.filter_congr
  intro v _
  rw [hG]
/-- The best candidate is the one at the best index. -/
theorem best_at {rows : List Rw} {o : List Int} {R A : List Nat} {F : Int → Int} {G : Int → Bool} (hF : ∀ v, F v = cntR rows R v) (hG : ∀ v, G v = anyP rows A v) (hn : R.Nodup) :
    ∀ i, i < R.length → ∀ c cs, R.map (cdT (setT rows) o F G) = c :: cs → bst c (cs.take i) = cdT (setT rows) o F G (R.getD (bI rows (setL o) R A i) 0) := by
  intro i
  induction i with
  | zero =>
    intro h c cs e
    rw [List.take_zero, bst, bI]
    cases R with
    | nil => simp at h
    | cons x r => rw [List.map_cons] at e; injection e with e1 e2; rw [← e1]; rfl
  | succ i ih =>
    intro h c cs e
    have hl : cs.length + 1 = R.length := by have := congrArg List.length e; simpa using this.symm
    have h1 := ih (by omega) c cs e
    have hb := bI_le rows (setL o) R A i
    rw [bst_take (by omega), h1, bI]
    have hcs : cdAt cs i = cdT (setT rows) o F G (R.getD (i + 1) 0) := by
      have h2 : (R.map (cdT (setT rows) o F G))[i + 1]? = cs[i]? := by rw [e]; rfl
      unfold cdAt
      rw [List.getD, ← h2, List.getElem?_map, List.getElem?_eq_getElem h]
      simp [List.getD, List.getElem?_eq_getElem h]
    rw [hcs]
    have hbt : btr (cdT (setT rows) o F G (R.getD (i + 1) 0)) (cdT (setT rows) o F G (R.getD (bI rows (setL o) R A i) 0)) = btR rows (setL o) R A (R.getD (i + 1) 0) (R.getD (bI rows (setL o) R A i) 0) := by
      unfold btr btR cdT
      dsimp only
      rw [alone_eq hF hn h, alone_eq hF hn (show bI rows (setL o) R A i < R.length by omega), fresh_eq hG, fresh_eq hG]
      generalize alR rows R (R.getD (i + 1) 0) (setL o) = x
      generalize alR rows R (R.getD (bI rows (setL o) R A i) 0) (setL o) = y
      generalize frR rows A (R.getD (i + 1) 0) = f
      generalize frR rows A (R.getD (bI rows (setL o) R A i) 0) = g
      by_cases q : x = y
      · subst q; simp
      · rw [if_neg (by omega)]
        simp [q]
    rw [hbt]
    split <;> rfl
theorem at_eq {rows : List Rw} {o : List Int} {R A : List Nat} {F : Int → Int} {G : Int → Bool} (hF : ∀ v, F v = cntR rows R v) (hG : ∀ v, G v = anyP rows A v) (hn : R.Nodup) (h : 0 < R.length) :
    atOf (setT rows) o F G R = bI rows (setL o) R A (R.length - 1) := by
  obtain ⟨c, cs, e⟩ : ∃ c cs, R.map (cdT (setT rows) o F G) = c :: cs := by
    cases R with
    | nil => simp at h
    | cons x r => exact ⟨_, _, rfl⟩
  have hl : cs.length + 1 = R.length := by have := congrArg List.length e; simpa using this.symm
  have h1 := best_at (o := o) hF hG hn (R.length - 1) (by omega) c cs e
  rw [List.take_of_length_le (by omega)] at h1
  have hb : bestOf (setT rows) o F G R = ((R.getD (bI rows (setL o) R A (R.length - 1)) 0 : Nat) : Int) := by
    unfold bestOf; rw [e]; dsimp only; rw [h1]; rfl
  obtain ⟨h2, h3⟩ := at_ok (T := setT rows) (o := o) (F := F) (G := G) h
  have hbl := bI_le rows (setL o) R A (R.length - 1)
  rw [hb] at h3
  have h4 : R.getD (atOf (setT rows) o F G R) 0 = R.getD (bI rows (setL o) R A (R.length - 1)) 0 := by omega
  rw [List.getD, List.getD, List.getElem?_eq_getElem h2, List.getElem?_eq_getElem (show bI rows (setL o) R A (R.length - 1) < R.length by omega)] at h4
  exact (List.getElem_inj hn).1 h4
/-- The order goes on from what is taken. -/
theorem ord_pre (rows : List Rw) (gone : List Int) : ∀ (n : Nat) (R A : List Nat), R.length = n → ∃ L, ordR rows gone n R A = A ++ L ∧ L.Perm R
  | 0, R, A, h => ⟨[], by simp [ordR], by rw [List.eq_nil_of_length_eq_zero h]⟩
  | n + 1, R, A, h => by
    have hbl := bI_le rows gone R A (R.length - 1)
    have hlt : bI rows gone R A (R.length - 1) < R.length := by omega
    obtain ⟨L, h1, h2⟩ := ord_pre rows gone n (R.eraseIdx (bI rows gone R A (R.length - 1))) (A ++ [R.getD (bI rows gone R A (R.length - 1)) 0]) (by rw [List.length_eraseIdx, if_pos hlt]; omega)
    refine ⟨R.getD (bI rows gone R A (R.length - 1)) 0 :: L, by rw [ordR, h1]; simp, ?_⟩
    refine (List.Perm.cons _ h2).trans ?_
    exact erase_perm hlt
theorem last_iff {rows : List Rw} {AH : List Nat} {v : Int} : ∀ n i, lastK rows AH v n = i ↔ (i < n ∧ v ∈ pr rows (AH.getD i 0) ∧ ∀ j, i < j → j < n → v ∉ pr rows (AH.getD j 0)) ∨ (i = 0 ∧ ∀ j, j < n → v ∉ pr rows (AH.getD j 0))
  | 0, i => by
    rw [lastK]
    constructor
    · intro h; exact .inr ⟨h.symm, fun j hj => by omega⟩
    · rintro (⟨h, _⟩ | ⟨h, _⟩) <;> omega
  | n + 1, i => by
    rw [lastK]
    have ih := last_iff (rows := rows) (AH := AH) (v := v) n i
    cases hq : mem (pr rows (AH.getD n 0)) v
    · rw [if_neg (by simp), ih]
      rw [mem_not] at hq
      constructor
      · rintro (⟨h1, h2, h3⟩ | ⟨h1, h2⟩)
        · refine .inl ⟨by omega, h2, fun j hj hjn => ?_⟩
          by_cases e : j = n
          · subst e; exact hq
          · exact h3 j hj (by omega)
        · refine .inr ⟨h1, fun j hj => ?_⟩
          by_cases e : j = n
          · subst e; exact hq
          · exact h2 j (by omega)
      · rintro (⟨h1, h2, h3⟩ | ⟨h1, h2⟩)
        · have : i ≠ n := fun e => hq (e ▸ h2)
          exact .inl ⟨by omega, h2, fun j hj hjn => h3 j hj (by omega)⟩
        · exact .inr ⟨h1, fun j hj => h2 j (by omega)⟩
    · rw [if_pos rfl]
      rw [mem_iff] at hq
      constructor
      · intro h; subst h; exact .inl ⟨by omega, hq, fun j hj hjn => by omega⟩
      · rintro (⟨h1, h2, h3⟩ | ⟨h1, h2⟩)
        · by_cases e : i = n
          · exact e.symm
          · exact absurd hq (h3 n (by omega) (by omega))
        · exact absurd hq (h2 n (by omega))
theorem tk_F {rows : List Rw} {R : List Nat} {F : Int → Int} (hF : ∀ v, F v = cntR rows R v) {b : Nat} (hb : b < R.length) (v : Int) : tkF (setT rows (R.getD b 0)) F v = cntR rows (R.eraseIdx b) v := by
  have h1 := cntR_erase (rows := rows) hb v
  have hm : v ∈ setT rows (R.getD b 0) ↔ v ∈ pr rows (R.getD b 0) := set_mem _ _
  unfold tkF
  rw [hF v]
  simp only [hm]
  by_cases h : v ∈ pr rows (R.getD b 0)
  · rw [if_pos h]; rw [if_pos (mem_iff.2 h)] at h1; omega
  · rw [if_neg h]; rw [if_neg (by rw [mem_iff]; exact h)] at h1; omega
theorem tk_G {rows : List Rw} {A : List Nat} {G : Int → Bool} (hG : ∀ v, G v = anyP rows A v) (k : Nat) (v : Int) : tkG (setT rows k) G v = anyP rows (A ++ [k]) v := by
  unfold tkG setT anyP
  rw [hG v, List.any_append]
  simp only [set_mem, List.any_cons, List.any_nil, Bool.or_false]
  unfold anyP mem
  rw [Bool.or_comm]
theorem plan_from (rows : List Rw) (o : List Int) (fr0 : List Int) (hfr0 : ∀ v, v ∈ fr0 ↔ v ∈ o ∧ ∀ x, x < rows.length → v ∉ pr rows x) :
    ∀ (n : Nat) (R A : List Nat) (F : Int → Int) (G : Int → Bool) (fr : List Int), R.length = n → R.Nodup → (∀ x, x ∈ R ∨ x ∈ A ↔ x < rows.length) → (∀ v, F v = cntR rows R v) → (∀ v, G v = anyP rows A v) → fr = (if A = [] then fr0 else []) →
      planT (setT rows) o n R F G fr = (List.range' A.length n).map (refStep rows (setL o) (ordR rows (setL o) n R A))
  | 0, R, A, F, G, fr, _, _, _, _, _, _ => by rw [planT]; rfl
  | n + 1, R, A, F, G, fr, hl, hn, hx, hF, hG, hfr => by
    have ha := at_eq (o := o) hF hG hn (by omega)
    have hbl := bI_le rows (setL o) R A (R.length - 1)
    rw [planT, if_neg (by omega), ha, ordR]
    obtain ⟨b, hb⟩ : ∃ b, bI rows (setL o) R A (R.length - 1) = b := ⟨_, rfl⟩
    rw [hb] at hbl ⊢
    have hbR : b < R.length := by omega
    have hel : (R.eraseIdx b).length = n := by rw [List.length_eraseIdx, if_pos hbR]; omega
    have hmem : ∀ x, x ∈ R ↔ x = R.getD b 0 ∨ x ∈ R.eraseIdx b := fun x => by
      rw [← List.mem_cons]
      exact (erase_perm hbR).mem_iff.symm
    have ih := plan_from rows o fr0 hfr0 n (R.eraseIdx b) (A ++ [R.getD b 0]) (tkF (setT rows (R.getD b 0)) F) (tkG (setT rows (R.getD b 0)) G) [] hel (hn.sublist (List.eraseIdx_sublist R b))
      (fun x => by
        rw [← hx x, hmem x, List.mem_append, List.mem_singleton]
        constructor
        · rintro (h | h | h)
          · exact .inl (.inr h)
          · exact .inr h
          · exact .inl (.inl h)
        · rintro ((h | h) | h)
          · exact .inr (.inr h)
          · exact .inl h
          · exact .inr (.inl h))
      (tk_F hF hbR) (tk_G hG _) (by rw [if_neg (by simp)])
    rw [ih, List.length_append, List.length_singleton, List.range'_succ, List.map_cons]
    congr 1
    obtain ⟨L, h1, h2⟩ := ord_pre rows (setL o) n (R.eraseIdx b) (A ++ [R.getD b 0]) hel
    unfold refStep
    rw [h1]
    have hll : L.length = n := by rw [h2.length_eq, hel]
    have g1 : (A ++ [R.getD b 0] ++ L).getD A.length 0 = R.getD b 0 := by simp [List.getD]
    have g2 : ∀ j, A.length < j → j < A.length + 1 + n → (A ++ [R.getD b 0] ++ L).getD j 0 ∈ L := fun j hj hj2 => by
      rw [List.getD, List.getElem?_append_right (by simp; omega)]
      have : j - (A ++ [R.getD b 0]).length < L.length := by simp; omega
      rw [List.getElem?_eq_getElem this]
      exact List.getElem_mem this
    have g3 : ∀ x ∈ L, ∃ j, A.length < j ∧ j < A.length + 1 + n ∧ (A ++ [R.getD b 0] ++ L).getD j 0 = x := fun x hx => by
      obtain ⟨i, hi, e⟩ := List.getElem_of_mem hx
      refine ⟨A.length + 1 + i, by omega, by omega, ?_⟩
      rw [List.getD, List.getElem?_append_right (by simp)]
      have : A.length + 1 + i - (A ++ [R.getD b 0]).length = i := by simp
      rw [this, List.getElem?_eq_getElem hi, e]; rfl
    have hlen : (A ++ [R.getD b 0] ++ L).length = A.length + 1 + n := by simp; omega
    rw [g1, hlen]
    congr 1
    rw [← setL_sL]
    apply inc_unique (set_inc _) (filter_inc (set_inc _) _)
    intro v
    rw [set_mem, List.mem_append, List.mem_filter, List.mem_filter, set_mem]
    simp only [beq_iff_eq]
    rw [last_iff]
    have hc := cntR_erase (rows := rows) hbR v
    have hz : cntR rows (R.eraseIdx b) v = 0 ↔ ∀ j, A.length < j → j < A.length + 1 + n → v ∉ pr rows ((A ++ [R.getD b 0] ++ L).getD j 0) := by
      rw [cntR_zero]
      constructor
      · intro h j hj hj2
        exact h _ (h2.mem_iff.1 (g2 j hj hj2))
      · intro h x hx
        obtain ⟨j, hj, hj2, e⟩ := g3 x (h2.mem_iff.2 hx)
        rw [← e]; exact h j hj hj2
    have htk : v ∈ setT rows (R.getD b 0) ∧ tkP o F v = true ↔ v ∈ o ∧ v ∈ pr rows (R.getD b 0) ∧ cntR rows (R.eraseIdx b) v = 0 := by
      unfold setT tkP
      rw [set_mem, hF v]
      simp only [Bool.and_eq_true, beq_iff_eq, mem_iff]
      constructor
      · rintro ⟨h3, h4, h5⟩
        rw [if_pos (mem_iff.2 h3)] at hc
        exact ⟨h4, h3, by omega⟩
      · rintro ⟨h4, h3, h5⟩
        rw [if_pos (mem_iff.2 h3)] at hc
        exact ⟨h3, h4, by omega⟩
    rw [htk, hz, g1, hfr]
    constructor
    · rintro (h | ⟨h3, h4, h5⟩)
      · by_cases hA : A = []
        · rw [if_pos hA] at h
          obtain ⟨h3, h4⟩ := (hfr0 v).1 h
          refine ⟨h3, .inr ⟨by rw [hA]; rfl, fun j hj => ?_⟩⟩
          apply h4
          rw [← hx]
          by_cases hj0 : j = A.length
          · rw [hj0, g1]; exact .inl ((hmem _).2 (.inl rfl))
          · have hjA : A.length = 0 := by rw [hA]; rfl
            exact .inl ((hmem _).2 (.inr (h2.mem_iff.1 (g2 j (by omega) hj))))
        · rw [if_neg hA] at h; simp at h
      · exact ⟨h3, .inl ⟨by omega, h4, h5⟩⟩
    · rintro ⟨h3, ⟨_, h4, h5⟩ | ⟨h4, h5⟩⟩
      · exact .inr ⟨h3, h4, h5⟩
      · have hA : A = [] := List.eq_nil_of_length_eq_zero h4
        refine .inl ?_
        rw [if_pos hA, hfr0]
        refine ⟨h3, fun x hxl => ?_⟩
        rcases (hx x).2 hxl with h6 | h6
        · rcases (hmem x).1 h6 with h7 | h7
          · have := h5 A.length (by omega)
            rw [g1] at this; rw [h7]; exact this
          · obtain ⟨j, hj, hj2, e⟩ := g3 x (h2.mem_iff.2 h7)
            rw [← e]; exact h5 j hj2
        · rw [hA] at h6; simp at h6
theorem pr_all {rows : List Rw} {v : Int} : v ∈ allL rows rows.length ↔ ∃ x, x < rows.length ∧ v ∈ pr rows x := by
  unfold allL pr rw_
  rw [List.take_length, List.mem_flatMap]
  constructor
  · rintro ⟨r, hr, hv⟩
    obtain ⟨i, hi, e⟩ := List.getElem_of_mem hr
    exact ⟨i, hi, by simp [List.getD, List.getElem?_eq_getElem hi, e, hv]⟩
  · rintro ⟨x, hx, hv⟩
    refine ⟨rows[x], List.getElem_mem hx, ?_⟩
    simpa [List.getD, List.getElem?_eq_getElem hx] using hv
theorem plan_eq (rows : List Rw) (o : List Int) : planR rows o = refPlan rows o := by
  have h := plan_from rows o (chs o (setL (allL rows rows.length)) false) (fun v => by
    unfold chs
    rw [set_mem, List.mem_filter, beq_iff_eq, decide_eq_false_iff_not, set_mem, pr_all]
    constructor
    · rintro ⟨h1, h2⟩; exact ⟨h1, fun x hx hv => h2 ⟨x, hx, hv⟩⟩
    · rintro ⟨h1, h2⟩; exact ⟨h1, fun ⟨x, hx, hv⟩ => h2 x hx hv⟩) rows.length (List.range rows.length) [] (cntP rows rows.length) (fun _ => false) (chs o (setL (allL rows rows.length)) false)
    (by rw [List.length_range]) List.nodup_range (fun x => by simp) (fun _ => rfl) (fun _ => rfl) (by rw [if_pos rfl])
  unfold planR refPlan
  rw [h]
  obtain ⟨L, h1, h2⟩ := ord_pre rows (setL o) rows.length (List.range rows.length) [] (by rw [List.length_range])
  have : (ordR rows (setL o) rows.length (List.range rows.length) []).length = rows.length := by rw [h1, List.nil_append, h2.length_eq, List.length_range]
  rw [this, List.range_eq_range']
  rfl
end Go.Proofs.Ytjohdkcgodaeiaa
