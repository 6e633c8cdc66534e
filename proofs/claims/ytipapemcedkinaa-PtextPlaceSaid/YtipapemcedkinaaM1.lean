/- Text and parsing are inverse to each other; layer 7 (ptext). -/
import Derived.Test.YtipapemcedkinaaW4
import Derived.Test.YtipapemcedkinaaPb
namespace Go.Proofs.Ytipapemcedkinaa
open Go.RowKit Go.PlainAid

/-- The bytes L stand at k. -/
def Spell (s : ByteArray) (k : Nat) (L : List Int) : Prop := ∀ i, i < L.length → Go.PlainAid.bt s (k + i) = L.getD i 0
theorem Spell.head {s : ByteArray} {k : Nat} {c : Int} {L : List Int} (h : Spell s k (c :: L)) : Go.PlainAid.bt s k = c ∧ Spell s (k + 1) L :=
  ⟨by have := h 0 (by simp); simpa using this, fun i hi => by have := h (i + 1) (by simp; omega); rw [show k + 1 + i = k + (i + 1) by omega]; simpa using this⟩
theorem Spell.left {s : ByteArray} {k : Nat} {L M : List Int} (h : Spell s k (L ++ M)) : Spell s k L := fun i hi => by
  have := h i (by rw [List.length_append]; omega)
  rw [this]
  simp [List.getD, List.getElem?_append_left hi]
theorem Spell.right {s : ByteArray} {k : Nat} {L M : List Int} (h : Spell s k (L ++ M)) : Spell s (k + L.length) M := fun i hi => by
  have := h (L.length + i) (by rw [List.length_append]; omega)
  rw [show k + L.length + i = k + (L.length + i) by omega, this]
  simp [List.getD, List.getElem?_append_right]
theorem word_spell {s : ByteArray} : ∀ {L : List Int} {k : Nat}, Spell s k L → wordL s L k = (k + L.length, true)
  | [], k, _ => rfl
  | c :: r, k, h => by
    obtain ⟨h1, h2⟩ := h.head
    rw [wordL, if_pos h1, word_spell h2, List.length_cons]
    congr 1
    omega
theorem nrun_is {s : ByteArray} : ∀ (r n k : Nat), (∀ i, i < n → dig s (k + i)) → (n < r → ¬ dig s (k + n)) → n ≤ r → nrun s k r = n
  | 0, n, k, _, _, h => by rw [nrun]; omega
  | r + 1, 0, k, _, hn, _ => by rw [nrun, if_neg (show ¬ dig s k from hn (by omega))]
  | r + 1, n + 1, k, hd, hn, h => by
    rw [nrun, if_pos (by have := hd 0 (by omega); simpa using this), nrun_is r n (k + 1) (fun i hi => by have := hd (i + 1) (by omega); rwa [show k + (i + 1) = k + 1 + i by omega] at this) (fun hh => by have := hn (by omega); rwa [show k + (n + 1) = k + 1 + n by omega] at this) (by omega)]
theorem nval_is {s : ByteArray} {k : Nat} {L : List Int} (h : Spell s k L) : ∀ j, j ≤ L.length → nval s k j = valL (L.take j)
  | 0, _ => rfl
  | j + 1, hj => by
    have hl : j < L.length := hj
    show nval s k j * 10 + (Go.PlainAid.bt s (k + j) - 48) = _
    rw [nval_is h j (by omega), h j hl, List.take_add_one, List.getElem?_eq_getElem hl]
    simp only [Option.toList_some]
    rw [valL_snoc]
    simp [List.getD, List.getElem?_eq_getElem hl]
theorem num_spell {s : ByteArray} {k : Nat} {L : List Int} (h : Spell s k L) (hD : DecL L) (hl : L.length ≤ 4) (hn : ¬ dig s (k + L.length)) : numR s k = .ok (valL L) (k + L.length) := by
  obtain ⟨h1, h2, h3⟩ := hD
  have hd : ∀ i, i < L.length → dig s (k + i) := fun i hi => by
    show 48 ≤ Go.PlainAid.bt s (k + i) ∧ Go.PlainAid.bt s (k + i) ≤ 57
    rw [h i hi]
    have hm : L.getD i 0 ∈ L := by simp [List.getD, List.getElem?_eq_getElem hi]
    exact h1 _ hm
  have hpos : 0 < L.length := List.length_pos_iff.2 h2
  have hb0 : Go.PlainAid.bt s k = L.getD 0 0 := by have := h 0 hpos; simpa using this
  have hlen : nlen s k = L.length := by
    unfold nlen
    split
    · rename_i e
      rw [hb0] at e
      have : L.head? = some 48 := by
        cases L with
        | nil => exact absurd rfl h2
        | cons a r => simp [List.getD] at e; simp [e]
      rw [h3 this]
    · exact nrun_is 4 L.length k hd (fun _ => hn) hl
  unfold numR
  rw [hlen, if_neg (by omega), nval_is h _ (Nat.le_refl _), List.take_length]
theorem opF_sgn {o : Int} (h0 : 4 ≤ o) (h1 : o ≤ 10) : opF (sgn o) = o := by
  have : o = 4 ∨ o = 5 ∨ o = 6 ∨ o = 7 ∨ o = 8 ∨ o = 9 ∨ o = 10 := by omega
  rcases this with rfl | rfl | rfl | rfl | rfl | rfl | rfl <;> rfl
theorem sgn_opF {c : Int} (h : opF c ≠ 0) : sgn (opF c) = c := by
  unfold opF at h ⊢
  (repeat' split at h) <;> simp_all [sgn]
mutual
theorem txt_ge : ∀ (t : Ex), shp t → t.sz ≤ (txt t).length
  | .mk o v ks, h => by
    have e : (Ex.mk o v ks).sz = 1 + szL ks := rfl
    have hk := txtL_ge ks h.2
    have hn := h.1.2.2.2
    have hz : ∀ {m : Int}, kidM o = m → m = 0 → szL ks = 0 := fun hm hm0 => by
      have : ks.length = 0 := by omega
      rw [List.length_eq_zero_iff.1 this]
      rfl
    rw [txt, e]
    split
    · rename_i ho; subst ho; rw [hz rfl rfl]; simp
    · split
      · rename_i ho; subst ho; rw [hz rfl rfl]; simp
      · split
        · rename_i ho; subst ho; rw [hz rfl rfl]; simp
        · simp only [List.length_cons, List.length_append, List.length_nil]; omega
theorem txtL_ge : ∀ (l : List Ex), shpL l → szL l ≤ (txtL l).length
  | [], _ => Nat.zero_le _
  | t :: r, h => by
    have h1 := txt_ge t h.1
    have h2 := txtL_ge r h.2
    have e : szL (t :: r) = t.sz + szL r := rfl
    rw [txtL, e]
    simp only [List.length_cons, List.length_append]; omega
end
theorem vr_zero {o v : Int} {n : Int} (h : nod o v n) (ho : o ≠ 3) : v = 0 := by
  have h1 := h.2.1
  unfold varM at h1
  rw [if_neg ho] at h1
  omega
theorem text_dec {v : Int} (h0 : 0 ≤ v) : DecL (textF v) ∧ valL (textF v) = v := by
  unfold textF
  rw [if_neg (by omega)]
  exact ⟨decL_digs _, by rw [valL_digs]; omega⟩
mutual
/-- What is spelled is read. -/
theorem read_txt (s : ByteArray) : ∀ (t : Ex) (f k : Nat), shp t → Spell s k (txt t) → ¬ dig s (k + (txt t).length) → 2 * t.sz ≤ f → exprF s f k = .ok t (k + (txt t).length)
  | .mk o v ks, 0, k, _, _, _, hf => by
    have e : (Ex.mk o v ks).sz = 1 + szL ks := rfl
    omega
  | .mk o v ks, f + 1, k, h, hS, hn, hf => by
    have e : (Ex.mk o v ks).sz = 1 + szL ks := rfl
    have hz : ∀ {m : Int}, kidM o = m → m = 0 → ks = [] := fun hm hm0 => by
      have := h.1.2.2.2
      exact List.length_eq_zero_iff.1 (by omega)
    rw [txt] at hS hn ⊢
    rw [exprF]
    by_cases h1 : o = 1
    · subst h1
      rw [if_pos rfl] at hS hn ⊢
      rw [if_pos hS.head.1, word_spell hS, hz rfl rfl, vr_zero h.1 (by omega)]
      rfl
    · rw [if_neg h1] at hS hn ⊢
      by_cases h2 : o = 2
      · subst h2
        rw [if_pos rfl] at hS hn ⊢
        have hb := hS.head.1
        rw [if_neg (by omega), if_pos hb, word_spell hS, hz rfl rfl, vr_zero h.1 (by omega)]
        rfl
      · rw [if_neg h2] at hS hn ⊢
        by_cases h3 : o = 3
        · subst h3
          rw [if_pos rfl] at hS hn ⊢
          obtain ⟨hb, hS2⟩ := hS.head
          have hv := h.1.2.1
          have hvm : v ≤ 63 := hv.2
          have hl := text_short hv.1 hvm
          obtain ⟨hD, hV⟩ := text_dec hv.1
          rw [if_neg (by omega), if_neg (by omega), if_pos hb, num_spell hS2 hD (by omega) (by rw [List.length_cons] at hn; rwa [show k + 1 + (textF v).length = k + ((textF v).length + 1) by omega]), hV, hz rfl rfl, List.length_cons]
          show XR.ok _ _ = _
          rw [show k + 1 + (textF v).length = k + ((textF v).length + 1) by omega]
        · rw [if_neg h3] at hS hn ⊢
          obtain ⟨hb, hS2⟩ := hS.head
          obtain ⟨hb2, hS3⟩ := hS2.head
          have ho := h.1.1
          have hop : opF (Go.PlainAid.bt s (k + 1)) = o := by rw [hb2]; exact opF_sgn (by omega) (by omega)
          have hor : operR s (k + 1) = .ok o (k + 1 + 1) := by unfold operR; rw [hop, if_neg (by omega)]
          rw [if_neg (by omega), if_neg (by omega), if_neg (by omega), if_pos hb, hor]
          show kidsF s f o (k + 1 + 1) [] = _
          rw [read_txtL s ks f o (k + 1 + 1) [] h.2 hS3 (by omega), vr_zero h.1 h3]
          simp only [List.nil_append, List.length_cons, List.length_append, List.length_nil]
          rw [show k + 1 + 1 + ((txtL ks).length + 1) = k + ((txtL ks).length + (0 + 1) + 1 + 1) by omega]
theorem read_txtL (s : ByteArray) : ∀ (l : List Ex) (f : Nat) (o : Int) (k : Nat) (acc : List Ex), shpL l → Spell s k (txtL l ++ [41]) → 2 * szL l + 1 ≤ f → kidsF s f o k acc = .ok (.mk o 0 (acc ++ l)) (k + ((txtL l).length + 1))
  | [], 0, o, k, acc, _, _, hf => by omega
  | [], f + 1, o, k, acc, _, hS, _ => by
    have hb := hS.head.1
    rw [kidsF, if_neg (by omega), if_pos hb, List.append_nil]
    rfl
  | t :: r, 0, o, k, acc, _, _, hf => by omega
  | t :: r, f + 1, o, k, acc, h, hS, hf => by
    have e : szL (t :: r) = t.sz + szL r := rfl
    have hz := sz_eq t
    rw [txtL, List.cons_append, List.append_assoc] at hS
    obtain ⟨hb, hS2⟩ := hS.head
    have hS3 := hS2.right
    have hn : ¬ dig s (k + 1 + (txt t).length) := by
      have hc : ∃ c M, txtL r ++ [41] = c :: M ∧ (c = 32 ∨ c = 41) := by
        cases r with
        | nil => exact ⟨41, [], rfl, .inr rfl⟩
        | cons u q => exact ⟨32, _, rfl, .inl rfl⟩
      obtain ⟨c, M, hM, hcc⟩ := hc
      rw [hM] at hS3
      have := hS3.head.1
      show ¬ (48 ≤ Go.PlainAid.bt s (k + 1 + (txt t).length) ∧ Go.PlainAid.bt s (k + 1 + (txt t).length) ≤ 57)
      omega
    rw [kidsF, if_pos hb, read_txt s t f (k + 1) h.1 hS2.left hn (by omega)]
    show kidsF s f o (k + 1 + (txt t).length) (acc ++ [t]) = _
    rw [read_txtL s r f o _ (acc ++ [t]) h.2 hS3 (by omega), txtL, List.append_assoc]
    simp only [List.cons_append, List.nil_append, List.length_cons, List.length_append]
    rw [show k + 1 + (txt t).length + ((txtL r).length + 1) = k + ((txt t).length + (txtL r).length + 1 + 1) by omega]
end
end Go.Proofs.Ytipapemcedkinaa
