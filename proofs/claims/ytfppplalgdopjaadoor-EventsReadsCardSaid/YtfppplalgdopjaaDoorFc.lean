/- The lines of a text and what they read as; layer 28 (events). -/
import Derived.Test.YtfppplalgdopjaaDoorFb
import Derived.Test.YtfppplalgdopjaaDoorEc
namespace Go.Proofs.YtfppplalgdopjaaDoor
open Go.RowKit

/-! ### the lines of a string -/
theorem ixL_lt : ∀ (l : List UInt8) (c : UInt8), Lib.indexByte l c < (l.length : Int)
  | [], c => by unfold Lib.indexByte; decide
  | b :: t, c => by
    have h := ixL_lt t c
    unfold Lib.indexByte
    rw [List.length_cons]
    split
    · omega
    · split <;> omega
theorem ixB_lt (t : ByteArray) : ixB t < t.size := ixL_lt t.data.toList 10
theorem cut_lt {t : ByteArray} (h : 0 < t.size) : (cutR t).size < t.size := by
  have hx := ixB_lt t
  unfold cutR
  split
  · rw [ByteArray.size_extract]; omega
  · exact h
theorem line_le (t : ByteArray) : (lineR t).size ≤ t.size := by
  unfold lineR
  split
  · rw [ByteArray.size_extract]; omega
  · exact Nat.le_refl _
def suf (s : ByteArray) : Nat → ByteArray
  | 0 => s
  | k + 1 => cutR (suf s k)
theorem suf_succ (s : ByteArray) : ∀ k, suf s (k + 1) = suf (cutR s) k
  | 0 => rfl
  | k + 1 => by
    show cutR (suf s (k + 1)) = cutR (suf (cutR s) k)
    rw [suf_succ s k]
theorem suf_end : ∀ (m : Nat) (s : ByteArray), s.size ≤ m → ∃ N, N ≤ s.size ∧ (∀ k, k < N → 0 < (suf s k).size ∧ (suf s k).size ≤ s.size) ∧ (suf s N).size = 0
  | 0, s, h => ⟨0, Nat.zero_le _, fun k hk => by omega, by show s.size = 0; omega⟩
  | m + 1, s, h => by
    by_cases hz : s.size = 0
    · exact ⟨0, Nat.zero_le _, fun k hk => by omega, hz⟩
    · have hl := cut_lt (t := s) (by omega)
      obtain ⟨N, h1, h2, h3⟩ := suf_end m (cutR s) (by omega)
      refine ⟨N + 1, by omega, fun k hk => ?_, by rw [suf_succ]; exact h3⟩
      rcases k with _ | k
      · exact ⟨by show 0 < s.size; omega, Nat.le_refl _⟩
      · rw [suf_succ]
        have := h2 k (by omega)
        omega
noncomputable def nl (s : ByteArray) : Nat := (suf_end s.size s (Nat.le_refl _)).choose
theorem nl_spec (s : ByteArray) : nl s ≤ s.size ∧ (∀ k, k < nl s → 0 < (suf s k).size ∧ (suf s k).size ≤ s.size) ∧ (suf s (nl s)).size = 0 := (suf_end s.size s (Nat.le_refl _)).choose_spec
noncomputable def evE (s : ByteArray) (k : Nat) : Ev := readD (lineR (suf s k))
noncomputable def evs (s : ByteArray) : List Ev := evl (evE s) (nl s)
theorem parse_rng (s : ByteArray) (l m : Int) (h1 : -9223372036854775808 ≤ l) (h2 : m ≤ 9223372036854775807) : -9223372036854775808 ≤ (parseF s l m).1 ∧ (parseF s l m).1 ≤ 9223372036854775807 := by
  by_cases hf : formF s
  · by_cases hr : l ≤ valS s ∧ valS s ≤ m
    · rw [parse_in hf hr]; dsimp only; omega
    · rw [parse_out hf hr]; decide
  · rw [parse_no hf]; decide
theorem readD_in (s : ByteArray) : InE (readD s) := by
  obtain ⟨a1, a2⟩ := parse_rng (ptD s 1) 1 9223372036854775807 (by decide) (by decide)
  obtain ⟨b1, b2⟩ := parse_rng (ptD s 2) 0 9223372036854775807 (by decide) (by decide)
  exact ⟨a1, a2, b1, b2⟩
theorem evs_in (s : ByteArray) : ∀ x, x ∈ evs s → InE x := by
  intro x hx
  unfold evs evl at hx
  rw [List.mem_map] at hx
  obtain ⟨k, _, rfl⟩ := hx
  exact readD_in _
theorem e_ParseAll (s : ByteArray) (w : World) (hG : Gl w) (hW : Wt w) (hs : s.size ≤ 65536) :
    Calls Tryd.prog 14 #[.string s] w (ParP w s (evs s)) := by
  obtain ⟨n1, n2, n3⟩ := nl_spec s
  refine e_ParseG (N := nl s) s w hG (suf s) (evE s) rfl (fun k hk => ⟨(n2 k hk).1, by have := (n2 k hk).2; omega, rfl, ixB_lt _⟩) n3 (fun k hk wx hb => ?_) hs (by omega) (fun k _ => readD_in _)
  exact e_readD _ wx (hG.step hb) (hW.below hb) (by have := line_le (suf s k); have := (n2 k hk).2; omega)
set_option maxRecDepth 100000 in
theorem e_ParseLong (s : ByteArray) (w : World) (hs : 65536 < s.size) :
    Calls Tryd.prog 14 #[.string s] w fun e w' => e = .returned (.tuple #[.slice none 0 0, .int .i64 4]) ∧ Below w.heap.size w w' := by
  have l1 : (65536 : Int) < (s.size : Int) := by omega
  have hK := Blk.new w 22 #[.slice none 0 0]
  have hB : Below w.heap.size w (w.alloc (.cells #[.slice none 0 0] 22)) := below_al _
  obtain ⟨W1, hW1⟩ : ∃ W1, w.alloc (.cells #[.slice none 0 0] 22) = W1 := ⟨_, rfl⟩
  rw [hW1] at hK hB
  have HW1 := Lib.hid hW1
  have HK := Lib.hid hK
  have HB := Lib.hid hB
  clear hK hB hW1
  go_enter Tryd.func14, Tryd.ntmps14
  go_upto_region 2 with (fail)
  rw [HW1.out]
  have z0 := HK.out.lt
  have z1 := HK.out.frozen 0
  have z4 : W1.cell? ⟨w.heap.size, 0, none⟩ = some (.slice none 0 0) := HK.out.cell 0
  go_wp2
  refine bodyPost_ret (res_22 rfl _ _ w.heap.size _ rfl rfl ((HK.out.set_ 0 _).cell 0)) rfl ⟨rfl, HB.out.setCell (p := ⟨w.heap.size, 0, none⟩) (Nat.le_refl _) _⟩

/-! ### the fields of a line that Text has written -/
def nsp (l : List UInt8) : Prop := ∀ b, b ∈ l → Lib.isSp b = false ∧ b.toNat < 128
theorem fgo_word : ∀ (l cur t : List UInt8) (b : UInt8), nsp l → Lib.isSp b = true → cur ++ l ≠ [] → Lib.fieldsGo cur (l ++ b :: t) = (cur ++ l) :: Lib.fieldsGo [] t
  | [], cur, t, b, _, hb, hc => by
    rw [List.append_nil] at hc ⊢
    exact Lib.fieldsGo_end cur b t hb hc
  | c :: l, cur, t, b, hl, hb, hc => by
    show Lib.fieldsGo cur (c :: (l ++ b :: t)) = _
    rw [Lib.fieldsGo_more cur c _ (hl c (List.mem_cons_self)).1, fgo_word l (cur ++ [c]) t b (fun x hx => hl x (List.mem_cons_of_mem _ hx)) hb (by simp)]
    simp
theorem nsp_wd (k : Nat) : nsp (wd k).data.toList := by
  unfold wd
  split
  · intro b; revert b; decide
  · split
    · intro b; revert b; decide
    · intro b; revert b; decide
theorem wd_ne (k : Nat) : (wd k).data.toList ≠ [] := by
  unfold wd
  split
  · decide
  · split <;> decide
theorem textF_rng (n : Int) : ∀ d ∈ textF n, 45 ≤ d ∧ d ≤ 57 := by
  intro d hd
  unfold textF at hd
  split at hd
  · simp at hd
    rcases hd with rfl | hd
    · omega
    · have := digs_range _ d hd; omega
  · have := digs_range _ d hd; omega
theorem ns_rng (n : Int) : ∀ b, b ∈ (ns n).data.toList → 45 ≤ b.toNat ∧ b.toNat ≤ 57 := by
  intro b hb
  have hi := ints_str (textF n) (text_range n)
  have hm : (b.toNat : Int) ∈ intsOf (strOfNums (textF n)) := List.mem_map.2 ⟨b, hb, rfl⟩
  rw [hi] at hm
  have := textF_rng n _ hm
  omega
theorem isSp_no {b : UInt8} (h : 45 ≤ b.toNat) : Lib.isSp b = false := by
  unfold Lib.isSp
  simp only [Bool.or_eq_false_iff, beq_eq_false_iff_ne, ne_eq]
  refine ⟨⟨⟨⟨⟨?_, ?_⟩, ?_⟩, ?_⟩, ?_⟩, ?_⟩ <;> (rintro rfl; revert h; decide)
theorem nsp_ns (n : Int) : nsp (ns n).data.toList := fun b hb => ⟨isSp_no (ns_rng n b hb).1, by have := ns_rng n b hb; omega⟩
theorem textF_ne (n : Int) : textF n ≠ [] := by
  unfold textF
  split
  · simp
  · exact digs_ne _
theorem ns_ne (n : Int) : (ns n).data.toList ≠ [] := by
  have hi := ints_str (textF n) (text_range n)
  intro h
  have : intsOf (strOfNums (textF n)) = [] := by unfold intsOf; rw [show (strOfNums (textF n)).data.toList = [] from h]; rfl
  rw [hi] at this
  exact textF_ne n this
def bd (x : Ev) : List UInt8 := (txA x).data.toList ++ (if x.k = 2 then (txB x).data.toList else [])
theorem tx_bd (x : Ev) : tx x = bd x ++ [10] := rfl
theorem txA_list (x : Ev) : (txA x).data.toList = (wd (x.k - 1).toNat).data.toList ++ 32 :: (ns x.a).data.toList := by unfold txA; simp
theorem txB_list (x : Ev) : (txB x).data.toList = 32 :: (ns x.l).data.toList := by unfold txB; simp
theorem bd_no (x : Ev) : ∀ b, b ∈ bd x → b ≠ 10 ∧ b.toNat < 128 := by
  have hn : ∀ l : List UInt8, nsp l → ∀ b, b ∈ l → b ≠ 10 ∧ b.toNat < 128 := fun l h b hb => ⟨fun e => by have := (h b hb).1; rw [e] at this; exact absurd this (by decide), (h b hb).2⟩
  intro b hb
  unfold bd at hb
  rw [List.mem_append, txA_list, List.mem_append, List.mem_cons] at hb
  rcases hb with (hb | rfl | hb) | hb
  · exact hn _ (nsp_wd _) b hb
  · decide
  · exact hn _ (nsp_ns _) b hb
  · split at hb
    · rw [txB_list, List.mem_cons] at hb
      rcases hb with rfl | hb
      · decide
      · exact hn _ (nsp_ns _) b hb
    · cases hb
theorem fields_tx (x : Ev) : Lib.fieldsD (tx x) = if x.k = 2 then [(wd (x.k - 1).toNat).data.toList, (ns x.a).data.toList, (ns x.l).data.toList] else [(wd (x.k - 1).toNat).data.toList, (ns x.a).data.toList] := by
  rw [Lib.fieldsD_ascii (tx x) (fun b hb => by
    rw [tx_bd, List.mem_append] at hb
    rcases hb with hb | hb
    · exact (bd_no x b hb).2
    · simp at hb; rw [hb]; decide)]
  have s32 : Lib.isSp 32 = true := by decide
  have s10 : Lib.isSp 10 = true := by decide
  unfold Lib.fields
  rw [tx_bd]
  unfold bd
  rw [txA_list]
  by_cases hk : x.k = 2
  · rw [if_pos hk, if_pos hk, txB_list]
    have e : (wd (x.k - 1).toNat).data.toList ++ 32 :: (ns x.a).data.toList ++ 32 :: (ns x.l).data.toList ++ [10] = (wd (x.k - 1).toNat).data.toList ++ 32 :: ((ns x.a).data.toList ++ 32 :: ((ns x.l).data.toList ++ 10 :: [])) := by simp
    rw [e, fgo_word _ [] _ 32 (nsp_wd _) s32 (wd_ne _), fgo_word _ [] _ 32 (nsp_ns _) s32 (ns_ne _), fgo_word _ [] _ 10 (nsp_ns _) s10 (ns_ne _)]
    simp [Lib.fieldsGo]
  · rw [if_neg hk, if_neg hk]
    have e : (wd (x.k - 1).toNat).data.toList ++ 32 :: (ns x.a).data.toList ++ [] ++ [10] = (wd (x.k - 1).toNat).data.toList ++ 32 :: ((ns x.a).data.toList ++ 10 :: []) := by simp
    rw [e, fgo_word _ [] _ 32 (nsp_wd _) s32 (wd_ne _), fgo_word _ [] _ 10 (nsp_ns _) s10 (ns_ne _)]
    simp [Lib.fieldsGo]
theorem kdF_wd : kdF (wd 0) 3 = 1 ∧ kdF (wd 1) 3 = 2 ∧ kdF (wd 2) 3 = 3 := ⟨by kernel_rfl, by kernel_rfl, by kernel_rfl⟩
theorem parse_ns (n lo : Int) (h1 : lo ≤ n) (h2 : n ≤ 9223372036854775807) : parseF (ns n) lo 9223372036854775807 = (n, 0) := by
  have h := form_text n
  have e : valS (ns n) = n := h.2
  have f : formF (ns n) := h.1
  rw [parse_in f (by rw [e]; exact ⟨h1, h2⟩), e]
theorem read_tx (x : Ev) (hf : flT x = 0) (hi : InE x) : readD ⟨(tx x).toArray⟩ = x := by
  obtain ⟨a, k, l⟩ := x
  have hv : 1 ≤ k ∧ k ≤ 3 ∧ 1 ≤ a ∧ 0 ≤ l ∧ (k ≠ 2 → l = 0) := by
    unfold flT at hf
    dsimp only at hf
    split at hf
    · cases hf
    · split at hf
      · cases hf
      · omega
  obtain ⟨h1, h2, h3, h4, h5⟩ := hv
  obtain ⟨i1, i2, i3, i4⟩ := hi
  dsimp only at i1 i2 i3 i4
  have hF := fields_tx ⟨a, k, l⟩
  dsimp only at hF
  have he : (⟨(tx ⟨a, k, l⟩).toArray⟩ : ByteArray).data.toList = tx ⟨a, k, l⟩ := rfl
  have hp : ∀ (j : Nat) (b : ByteArray), (Lib.fieldsD (tx ⟨a, k, l⟩)).getD j [] = b.data.toList → ptD ⟨(tx ⟨a, k, l⟩).toArray⟩ j = b := fun j b h => by
    unfold ptD
    rw [he, h]
  have p0 : ptD ⟨(tx ⟨a, k, l⟩).toArray⟩ 0 = wd (k - 1).toNat := hp 0 _ (by rw [hF]; split <;> rfl)
  have p1 : ptD ⟨(tx ⟨a, k, l⟩).toArray⟩ 1 = ns a := hp 1 _ (by rw [hF]; split <;> rfl)
  have pa := parse_ns a 1 h3 i2
  have kw : kdF (wd (k - 1).toNat) 3 = k := by
    obtain ⟨w1, w2, w3⟩ := kdF_wd
    have : k = 1 ∨ k = 2 ∨ k = 3 := by omega
    rcases this with rfl | rfl | rfl
    · exact w1
    · exact w2
    · exact w3
  unfold readD
  rw [p0, p1, pa, kw]
  by_cases hk : k = 2
  · have p2 : ptD ⟨(tx ⟨a, k, l⟩).toArray⟩ 2 = ns l := hp 2 _ (by rw [hF, if_pos hk]; rfl)
    rw [p2, parse_ns l 0 h4 i4]
  · have p2 : ptD ⟨(tx ⟨a, k, l⟩).toArray⟩ 2 = ⟨#[]⟩ := hp 2 _ (by rw [hF, if_neg hk]; rfl)
    rw [p2, parse0, h5 hk]

/-! ### the lines of a text -/
theorem ixL_first : ∀ (l r : List UInt8), (∀ b, b ∈ l → b ≠ 10) → Lib.indexByte (l ++ 10 :: r) 10 = (l.length : Int)
  | [], r, _ => by unfold Lib.indexByte; rfl
  | b :: t, r, h => by
    have ih := ixL_first t r (fun x hx => h x (List.mem_cons_of_mem _ hx))
    have hb : (b == 10) = false := by simpa using h b (List.mem_cons_self)
    show Lib.indexByte (b :: (t ++ 10 :: r)) 10 = _
    unfold Lib.indexByte
    rw [ih, hb]
    have : ((t.length : Int) == -1) = false := by simp
    rw [this]
    simp
theorem ext_data (s : ByteArray) (a b : Nat) : (s.extract a b).data.toList = (s.data.toList.drop a).take (b - a) := Lib.extract_data s a b
theorem head_tail (t : ByteArray) (x : Ev) (r : List UInt8) (h : t.data.toList = tx x ++ r) : lineR t = ⟨(tx x).toArray⟩ ∧ (cutR t).data.toList = r := by
  have hix : ixB t = ((bd x).length : Int) := by
    unfold ixB
    rw [h, tx_bd, List.append_assoc]
    exact ixL_first (bd x) r (fun b hb => (bd_no x b hb).1)
  have hn : 0 ≤ ixB t := by omega
  have hl : (ixB t + 1).toNat = (tx x).length := by rw [hix, tx_bd, List.length_append]; simp
  have hsz : t.size = (tx x).length + r.length := by
    have : t.size = t.data.toList.length := rfl
    rw [this, h, List.length_append]
  constructor
  · unfold lineR
    rw [if_pos hn, hl]
    apply ByteArray.ext
    apply Array.toList_inj.1
    rw [ext_data, h]
    simp
  · unfold cutR
    rw [if_pos hn, hl, ext_data, h, hsz]
    simp
theorem tx_pos (x : Ev) : 0 < (tx x).length := by rw [tx_bd, List.length_append]; simp
theorem suf_text (s : ByteArray) (L : List Ev) (h : s.data.toList = L.flatMap tx) : ∀ k, k ≤ L.length → (suf s k).data.toList = (L.drop k).flatMap tx
  | 0, _ => h
  | k + 1, hk => by
    have ih := suf_text s L h k (by omega)
    have hlt : k < L.length := by omega
    rw [List.drop_eq_getElem_cons hlt, List.flatMap_cons] at ih
    exact (head_tail _ _ _ ih).2
theorem size_data (s : ByteArray) : s.size = s.data.toList.length := rfl
theorem nl_text (s : ByteArray) (L : List Ev) (h : s.data.toList = L.flatMap tx) : nl s = L.length := by
  obtain ⟨_, n2, n3⟩ := nl_spec s
  have hs := suf_text s L h
  have hz : (suf s L.length).size = 0 := by rw [size_data, hs _ (Nat.le_refl _)]; simp
  rcases Nat.lt_trichotomy (nl s) L.length with c | c | c
  · have h1 := hs (nl s) (by omega)
    rw [List.drop_eq_getElem_cons c, List.flatMap_cons] at h1
    have h2 := congrArg List.length h1
    rw [← size_data, n3, List.length_append] at h2
    have := tx_pos (L[nl s])
    omega
  · exact c
  · have := (n2 _ c).1
    omega
theorem evs_text (s : ByteArray) (L : List Ev) (h : s.data.toList = L.flatMap tx) (hv : ∀ x, x ∈ L → flT x = 0 ∧ InE x) : evs s = L := by
  have hn := nl_text s L h
  unfold evs evl
  rw [hn]
  apply List.ext_getElem
  · simp
  · intro k h1 h2
    rw [List.getElem_map, List.getElem_range]
    unfold evE
    have hs := suf_text s L h k (by omega)
    rw [List.drop_eq_getElem_cons h2, List.flatMap_cons] at hs
    rw [(head_tail _ _ _ hs).1]
    have hx := hv L[k] (List.getElem_mem h2)
    exact read_tx _ hx.1 hx.2
theorem textG_ok : ∀ (L : List Ev) (T : List UInt8), (∀ x, x ∈ L → flT x = 0) → textG T L = (T ++ L.flatMap tx, 0)
  | [], T, _ => by simp [textG]
  | x :: t, T, h => by
    unfold textG
    rw [if_pos (h x List.mem_cons_self), textG_ok t (T ++ tx x) (fun y hy => h y (List.mem_cons_of_mem _ hy))]
    simp
theorem textG_inv : ∀ (L : List Ev) (T S : List UInt8), textG T L = (S, 0) → (∀ x, x ∈ L → flT x = 0) ∧ S = T ++ L.flatMap tx
  | [], T, S, h => by
    unfold textG at h
    simp at h
    exact ⟨fun x hx => absurd hx (by simp), by simp [h]⟩
  | x :: t, T, S, h => by
    unfold textG at h
    split at h
    · rename_i hf
      obtain ⟨h1, h2⟩ := textG_inv t (T ++ tx x) S h
      refine ⟨fun y hy => ?_, by rw [h2]; simp⟩
      rcases List.mem_cons.1 hy with rfl | hy
      · exact hf
      · exact h1 y hy
    · rename_i hf
      simp at h
      exact absurd h.2 hf
theorem textR_ok (L : List Ev) (hl : L.length ≤ 256) (h : ∀ x, x ∈ L → flT x = 0) : textR L = (L.flatMap tx, 0) := by
  unfold textR
  rw [if_neg (by omega), textG_ok L [] h]
  rfl
theorem textR_inv (L : List Ev) (S : List UInt8) (h : textR L = (S, 0)) : L.length ≤ 256 ∧ (∀ x, x ∈ L → flT x = 0) ∧ S = L.flatMap tx := by
  unfold textR at h
  split at h
  · cases h
  · rename_i hm
    obtain ⟨h1, h2⟩ := textG_inv L [] S h
    exact ⟨by omega, h1, by simpa using h2⟩
end Go.Proofs.YtfppplalgdopjaaDoor
