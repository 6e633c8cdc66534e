/- Both Parses agree: what the specification's lines are; layer 28 (events). -/
import Derived.Test.YtfppplalgdopjaaDoorFe
namespace Go.Proofs.YtfppplalgdopjaaDoor
open Go.RowKit

theorem parse_yes {r : ByteArray} {lo : Int} (h : (parseF r lo 9223372036854775807).2 = 0) : ns (parseF r lo 9223372036854775807).1 = r ∧ lo ≤ (parseF r lo 9223372036854775807).1 ∧ (parseF r lo 9223372036854775807).1 ≤ 9223372036854775807 := by
  by_cases hf : formF r
  · by_cases hr : lo ≤ valS r ∧ valS r ≤ 9223372036854775807
    · rw [parse_in hf hr]
      exact ⟨text_form hf, hr.1, hr.2⟩
    · rw [parse_out hf hr] at h; cases h
  · rw [parse_no hf] at h; cases h
theorem pw_list (k : Nat) : (pw k).data.toList = (wd k).data.toList ++ [32] := by
  unfold pw wd
  split
  · rfl
  · split <;> rfl
theorem hit_yes {s : ByteArray} {k : Nat} (h : hit s k = true) : s.data.toList = (pw k).data.toList ++ (s.extract (pw k).size s.size).data.toList := by
  unfold hit at h
  simp only [Bool.and_eq_true, Bool.not_eq_true', decide_eq_false_iff_not, Nat.not_le] at h
  obtain ⟨h1, h2⟩ := h
  have h3 := eq_of_beq h2
  rw [toList_data, toList_data, ext_data] at h3
  simp only [List.drop_zero, Nat.sub_zero] at h3
  have hd : (s.data.toList.drop (pw k).size).take (s.size - (pw k).size) = s.data.toList.drop (pw k).size := List.take_of_length_le (by rw [List.length_drop]; exact Nat.le_refl _)
  rw [ext_data, hd, ← h3]
  exact (List.take_append_drop _ _).symm
theorem hit_of {s : ByteArray} {k : Nat} {r : List UInt8} (hs : s.data.toList = (pw k).data.toList ++ r) (hr : r ≠ []) : hit s k = true ∧ s.extract (pw k).size s.size = ⟨r.toArray⟩ := by
  have e : s.size = s.data.toList.length := rfl
  have e2 : (pw k).size = (pw k).data.toList.length := rfl
  have hl : 0 < r.length := List.length_pos_iff.2 hr
  have hsz : s.size = (pw k).size + r.length := by rw [e, hs, List.length_append, ← e2]
  constructor
  · unfold hit
    simp only [Bool.and_eq_true, Bool.not_eq_true', decide_eq_false_iff_not, Nat.not_le]
    refine ⟨by omega, ?_⟩
    rw [toList_data, toList_data, ext_data, hs]
    simp only [List.drop_zero, Nat.sub_zero, e2, List.take_left']
    simp
  · apply ByteArray.ext
    apply Array.toList_inj.1
    rw [ext_data, hs, e2]
    simp only [List.drop_left']
    rw [List.take_of_length_le (by omega)]
theorem hit_head {s : ByteArray} {k : Nat} (h : hit s k = true) : s.data.toList.head? = (pw k).data.toList.head? := by
  rw [hit_yes h, pw_list]
  cases hw : (wd k).data.toList with
  | nil => exact absurd hw (wd_ne k)
  | cons a t => rfl
theorem pw_heads : (pw 0).data.toList.head? = some 99 ∧ (pw 1).data.toList.head? = some 115 ∧ (pw 2).data.toList.head? = some 116 := ⟨rfl, rfl, rfl⟩
theorem hit_only {s : ByteArray} {j k : Nat} (h : hit s k = true) (hjk : (pw j).data.toList.head? ≠ (pw k).data.toList.head?) : hit s j = false := by
  cases hj : hit s j with
  | false => rfl
  | true => exact absurd ((hit_head hj).symm.trans (hit_head h)) hjk
theorem ln_three (s : ByteArray) : lnG s 3 = if hit s 0 = true then lnR s 0 else if hit s 1 = true then lnR s 1 else if hit s 2 = true then lnR s 2 else (⟨0, 0, 0⟩, false) := rfl
theorem frL_first : ∀ (l t : List UInt8), (∀ b, b ∈ l → b ≠ 32) → frL (l ++ 32 :: t) = l.length
  | [], t, _ => by simp [frL]
  | b :: l, t, h => by
    show frL (b :: (l ++ 32 :: t)) = _
    unfold frL
    rw [if_neg (h b List.mem_cons_self), frL_first l t (fun x hx => h x (List.mem_cons_of_mem _ hx))]
    rfl
theorem frL_split (l : List UInt8) (h : frL l < l.length) : l = l.take (frL l) ++ 32 :: l.drop (frL l + 1) := by
  have h2 := frL_at l h
  rw [List.getElem?_eq_getElem h] at h2
  have h3 := List.drop_eq_getElem_cons h
  rw [Option.some.inj h2] at h3
  rw [← h3]
  exact (List.take_append_drop _ _).symm
theorem flT_parts {x : Ev} (hf : flT x = 0) : 1 ≤ x.k ∧ x.k ≤ 3 ∧ 1 ≤ x.a ∧ 0 ≤ x.l ∧ (x.k ≠ 2 → x.l = 0) := by
  unfold flT at hf
  split at hf
  · cases hf
  · split at hf
    · cases hf
    · omega
theorem ln_bd (x : Ev) (hf : flT x = 0) (hi : InE x) : lnB (bd x) = (x, true) := by
  obtain ⟨h1, h2, h3, h4, h5⟩ := flT_parts hf
  obtain ⟨i1, i2, i3, i4⟩ := hi
  obtain ⟨a, k, l⟩ := x
  dsimp only at *
  obtain ⟨p0, p1, p2⟩ := pw_heads
  have pa := parse_ns a 1 h3 i2
  unfold lnB
  rw [ln_three]
  have hk : k = 1 ∨ k = 2 ∨ k = 3 := by omega
  rcases hk with rfl | rfl | rfl
  · obtain rfl := h5 (by decide)
    have hs : (⟨(bd ⟨a, 1, 0⟩).toArray⟩ : ByteArray).data.toList = (pw 0).data.toList ++ (ns a).data.toList := by
      show bd ⟨a, 1, 0⟩ = _
      unfold bd
      rw [txA_list, pw_list]
      simp
    obtain ⟨t1, t2⟩ := hit_of hs (ns_ne a)
    rw [if_pos t1]
    unfold lnR
    dsimp only
    rw [t2, if_neg (by decide)]
    show (Ev.mk (parseF (ns a) 1 9223372036854775807).1 _ _, _) = _
    rw [pa]
    rfl
  · have hs : (⟨(bd ⟨a, 2, l⟩).toArray⟩ : ByteArray).data.toList = (pw 1).data.toList ++ ((ns a).data.toList ++ 32 :: (ns l).data.toList) := by
      show bd ⟨a, 2, l⟩ = _
      unfold bd
      rw [txA_list, txB_list, pw_list, if_pos rfl]
      simp
    obtain ⟨t1, t2⟩ := hit_of hs (by simp)
    have t0 := hit_only (j := 0) t1 (by rw [p0, p1]; decide)
    rw [if_neg (by rw [t0]; decide), if_pos t1]
    unfold lnR
    dsimp only
    rw [t2, if_pos rfl]
    generalize hr : (⟨((ns a).data.toList ++ 32 :: (ns l).data.toList).toArray⟩ : ByteArray) = r
    have hrd : r.data.toList = (ns a).data.toList ++ 32 :: (ns l).data.toList := by rw [← hr]
    have hfr : frs r = (ns a).size := by
      unfold frs
      rw [hrd, frL_first _ _ (fun b hb e => by have := (nsp_ns a b hb).1; rw [e] at this; exact absurd this (by decide))]
      rfl
    have hrs : r.size = (ns a).size + 1 + (ns l).size := by
      rw [size_data r, hrd, List.length_append, List.length_cons]
      show (ns a).size + ((ns l).size + 1) = _
      omega
    have e1 : r.extract (frs r + 1) r.size = ns l := by
      apply ByteArray.ext
      apply Array.toList_inj.1
      rw [ext_data, hrd, hfr, hrs, size_data, size_data, show (ns a).data.toList ++ 32 :: (ns l).data.toList = ((ns a).data.toList ++ [32]) ++ (ns l).data.toList by simp]
      rw [List.drop_left' (by simp), List.take_of_length_le (by omega)]
    have e2 : r.extract 0 (frs r) = ns a := by
      apply ByteArray.ext
      apply Array.toList_inj.1
      rw [ext_data, hrd, hfr, size_data]
      simp
    rw [if_neg (by omega), e1, e2, parse_ns l 0 h4 i4, pa]
    rfl
  · obtain rfl := h5 (by decide)
    have hs : (⟨(bd ⟨a, 3, 0⟩).toArray⟩ : ByteArray).data.toList = (pw 2).data.toList ++ (ns a).data.toList := by
      show bd ⟨a, 3, 0⟩ = _
      unfold bd
      rw [txA_list, pw_list]
      simp
    obtain ⟨t1, t2⟩ := hit_of hs (ns_ne a)
    have t0 := hit_only (j := 0) t1 (by rw [p0, p2]; decide)
    have tt := hit_only (j := 1) t1 (by rw [p1, p2]; decide)
    rw [if_neg (by rw [t0]; decide), if_neg (by rw [tt]; decide), if_pos t1]
    unfold lnR
    dsimp only
    rw [t2, if_neg (by decide)]
    show (Ev.mk (parseF (ns a) 1 9223372036854775807).1 _ _, _) = _
    rw [pa]
    rfl
theorem flT_one (a k : Int) (ha : 1 ≤ a) (h1 : 1 ≤ k) (h2 : k ≤ 3) : flT ⟨a, k, 0⟩ = 0 := by
  unfold flT
  dsimp only
  rw [if_neg (by omega), if_neg (by omega)]
theorem bd_one (a k : Int) (hk : k ≠ 2) : bd ⟨a, k, 0⟩ = (wd (k - 1).toNat).data.toList ++ 32 :: (ns a).data.toList := by
  unfold bd
  rw [txA_list, if_neg hk, List.append_nil]
theorem lnR_one {s : ByteArray} {k : Nat} {x : Ev} (hk : k < 3) (h1 : k ≠ 1) (hh : hit s k = true) (h : lnR s k = (x, true)) : s.data.toList = bd x ∧ flT x = 0 ∧ InE x := by
  unfold lnR at h
  dsimp only at h
  rw [if_neg h1] at h
  have hs := hit_yes hh
  generalize s.extract (pw k).size s.size = r at h hs
  have he : (parseF r 1 9223372036854775807).2 = 0 := by simpa using congrArg Prod.snd h
  obtain ⟨q1, q2, q3⟩ := parse_yes he
  have hx := congrArg Prod.fst h
  dsimp only at hx
  subst hx
  refine ⟨?_, flT_one _ _ q2 (by omega) (by omega), by dsimp only; omega, q3, by dsimp only; omega, by dsimp only; omega⟩
  rw [bd_one _ _ (by omega), q1, hs, pw_list, show ((k : Int) + 1 - 1).toNat = k by omega]
  simp
theorem lnR_two {s : ByteArray} {x : Ev} (hh : hit s 1 = true) (h : lnR s 1 = (x, true)) : s.data.toList = bd x ∧ flT x = 0 ∧ InE x := by
  unfold lnR at h
  dsimp only at h
  rw [if_pos rfl] at h
  have hs := hit_yes hh
  generalize s.extract (pw 1).size s.size = r at h hs
  split at h
  · cases h
  · rename_i hq
    split at h
    · cases h
    · rename_i hp
      have hp0 : (parseF (r.extract (frs r + 1) r.size) 0 9223372036854775807).2 = 0 := by simpa using hp
      have he : (parseF (r.extract 0 (frs r)) 1 9223372036854775807).2 = 0 := by simpa using congrArg Prod.snd h
      obtain ⟨q1, q2, q3⟩ := parse_yes he
      obtain ⟨r1, r2, r3⟩ := parse_yes hp0
      have hx := congrArg Prod.fst h
      dsimp only at hx
      subst hx
      refine ⟨?_, ?_, by dsimp only; omega, q3, by dsimp only; omega, r3⟩
      · unfold bd
        rw [txA_list, txB_list, if_pos rfl]
        dsimp only
        rw [q1, r1, hs, pw_list, ext_data, ext_data]
        have hl : frL r.data.toList < r.data.toList.length := by
          have := frs_le r
          unfold frs at this hq
          rw [size_data] at this hq
          omega
        have h3 := frL_split _ hl
        have hd : (r.data.toList.drop (frL r.data.toList + 1)).take (r.data.toList.length - (frL r.data.toList + 1)) = r.data.toList.drop (frL r.data.toList + 1) := List.take_of_length_le (by rw [List.length_drop]; exact Nat.le_refl _)
        rw [List.drop_zero, Nat.sub_zero, show frs r = frL r.data.toList from rfl, size_data, hd]
        conv => lhs; rw [h3]
        simp
      · unfold flT
        dsimp only
        rw [if_neg (by omega), if_neg (by omega)]
theorem ln_inv (cur : List UInt8) (x : Ev) (h : lnB cur = (x, true)) : cur = bd x ∧ flT x = 0 ∧ InE x := by
  unfold lnB at h
  rw [ln_three] at h
  have e : (⟨cur.toArray⟩ : ByteArray).data.toList = cur := rfl
  rw [← e]
  split at h
  · rename_i hh
    exact lnR_one (by decide) (by decide) hh h
  · split at h
    · rename_i hh
      exact lnR_two hh h
    · split at h
      · rename_i hh
        exact lnR_one (by decide) (by decide) hh h
      · cases h
theorem pg_inv : ∀ (t cur : List UInt8) (n : Nat) (L : List Ev), n ≤ 256 → pg cur t n = some L → cur ++ t = L.flatMap tx ∧ (∀ x, x ∈ L → flT x = 0 ∧ InE x) ∧ n + L.length ≤ 256
  | [], cur, n, L, hn, h => by
    unfold pg at h
    split at h
    · rename_i hc
      obtain rfl := Option.some.inj h
      exact ⟨by simp [hc], fun x hx => absurd hx (by simp), by simpa using hn⟩
    · cases h
  | b :: t, cur, n, L, hn, h => by
    unfold pg at h
    split at h
    · rename_i hb
      split at h
      · rename_i hc
        rw [Option.map_eq_some_iff] at h
        obtain ⟨L', hL', rfl⟩ := h
        obtain ⟨h1, h2, h3⟩ := pg_inv t [] (n + 1) L' (by omega) hL'
        obtain ⟨x, hx⟩ : ∃ x, (lnB cur).1 = x := ⟨_, rfl⟩
        have hln : lnB cur = (x, true) := Prod.ext hx hc.1
        obtain ⟨g1, g2, g3⟩ := ln_inv cur x hln
        rw [hx]
        refine ⟨?_, fun y hy => ?_, by rw [List.length_cons]; omega⟩
        · rw [List.flatMap_cons, ← h1, tx_bd, g1, hb]; simp
        · rcases List.mem_cons.1 hy with rfl | hy
          · exact ⟨g2, g3⟩
          · exact h2 y hy
      · cases h
    · obtain ⟨h1, h2, h3⟩ := pg_inv t (cur ++ [b]) n L hn h
      exact ⟨by rw [← h1]; simp, h2, h3⟩
theorem pg_line : ∀ (l cur t : List UInt8) (n : Nat), (∀ b, b ∈ l → b ≠ 10) → pg cur (l ++ t) n = pg (cur ++ l) t n
  | [], cur, t, n, _ => by simp
  | b :: l, cur, t, n, h => by
    show pg cur (b :: (l ++ t)) n = _
    rw [pg, if_neg (h b List.mem_cons_self), pg_line l (cur ++ [b]) t n (fun x hx => h x (List.mem_cons_of_mem _ hx))]
    simp
theorem pg_text : ∀ (L : List Ev) (n : Nat), (∀ x, x ∈ L → flT x = 0 ∧ InE x) → n + L.length ≤ 256 → pg [] (L.flatMap tx) n = some L
  | [], n, _, _ => by simp [pg]
  | x :: t, n, h, hn => by
    have hx := h x List.mem_cons_self
    rw [List.length_cons] at hn
    rw [List.flatMap_cons, tx_bd, List.append_assoc, pg_line _ _ _ _ (fun b hb => (bd_no x b hb).1)]
    show pg ([] ++ bd x) (10 :: t.flatMap tx) n = _
    rw [List.nil_append, pg, if_pos rfl, ln_bd x hx.1 hx.2, if_pos ⟨rfl, by omega⟩, pg_text t (n + 1) (fun y hy => h y (List.mem_cons_of_mem _ hy)) (by omega)]
    rfl
/-- Both Parses agree. -/
theorem parse_agree (s : ByteArray) : (∃ L, pg [] s.data.toList 0 = some L ∧ evs s = L ∧ textR (evs s) = (s.data.toList, 0)) ∨ (pg [] s.data.toList 0 = none ∧ textR (evs s) ≠ (s.data.toList, 0)) := by
  cases hp : pg [] s.data.toList 0 with
  | some L =>
    obtain ⟨h1, h2, h3⟩ := pg_inv _ _ _ _ (by decide) hp
    rw [List.nil_append] at h1
    have he := evs_text s L h1 h2
    refine .inl ⟨L, rfl, he, ?_⟩
    rw [he, h1]
    exact textR_ok L (by omega) (fun x hx => (h2 x hx).1)
  | none =>
    refine .inr ⟨rfl, fun h => ?_⟩
    obtain ⟨h1, h2, h3⟩ := textR_inv _ _ h
    have := pg_text (evs s) 0 (fun x hx => ⟨h2 x hx, evs_in s x hx⟩) (by omega)
    rw [← h3, hp] at this
    cases this
end Go.Proofs.YtfppplalgdopjaaDoor
