/- The text of an expression; when an expression is valid; layer 7 (ptext). -/
import Derived.Test.YtipapemcedkinaaFn5
import Derived.Test.YtipapemcedkinaaN6
import Derived.Laws.Concat
import Derived.Lib.AppendStr
namespace Go.Proofs.Ytipapemcedkinaa
open Go.RowKit

/-- Every node's operator, variable and number of Kids are right. -/
def nod (o v n : Int) : Prop := (1 ≤ o ∧ o ≤ 10) ∧ (0 ≤ v ∧ v ≤ varM o) ∧ kidL o ≤ n ∧ n ≤ kidM o
mutual
def shp : Ex → Prop | .mk o v ks => nod o v ks.length ∧ shpL ks
def shpL : List Ex → Prop
  | [] => True
  | t :: r => shp t ∧ shpL r
end
theorem flaw0 {o v n d k : Int} : flawS o v n d k = 0 ↔ nod o v n ∧ d ≤ 64 ∧ k ≤ 4096 := by
  unfold flawS nod
  constructor
  · intro h
    repeat' split at h
    all_goals first | omega | (exact absurd h (by decide))
  · rintro ⟨⟨h1, h2, h3⟩, h4, h5⟩
    rw [if_neg (by omega), if_neg (by omega), if_neg (by omega), if_neg (by omega), if_neg (by omega)]
theorem w64' {x : Int} (h0 : 0 ≤ x) (h1 : x ≤ 1000000000000) : wrap64 x = x := by unfold wrap64; omega
mutual
theorem shp_of : ∀ (t : Ex) (d k : Int), (chk t d k).1 = 0 → shp t
  | .mk o v ks, d, k, h => by
    rw [chk_eq] at h
    have h' : (if flawS o v ks.length d (wrap64 (k + 1)) = 0 then chkL ks (d + 1) (wrap64 (k + 1)) else (flawS o v ks.length d (wrap64 (k + 1)), wrap64 (k + 1))).1 = 0 := h
    by_cases hf : flawS o v ks.length d (wrap64 (k + 1)) = 0
    · rw [if_pos hf] at h'
      exact ⟨(flaw0.1 hf).1, shpL_of ks _ _ h'⟩
    · rw [if_neg hf] at h'
      exact absurd h' hf
theorem shpL_of : ∀ (l : List Ex) (d k : Int), (chkL l d k).1 = 0 → shpL l
  | [], _, _, _ => trivial
  | t :: r, d, k, h => by
    have h2 : (if (chk t d k).1 = 0 then chkL r d (chk t d k).2 else chk t d k).1 = 0 := h
    by_cases hc : (chk t d k).1 = 0
    · rw [if_pos hc] at h2
      exact ⟨shp_of t d k hc, shpL_of r _ _ h2⟩
    · rw [if_neg hc] at h2
      exact absurd h2 hc
end
mutual
/-- A valid tree has at most 4096 nodes. -/
theorem chk_cnt : ∀ (t : Ex) (d k : Int), 0 ≤ k → k ≤ 4096 → (chk t d k).1 = 0 → (chk t d k).2 = k + t.sz ∧ k + t.sz ≤ 4096
  | .mk o v ks, d, k, h0, h1, h => by
    rw [chk_eq] at h ⊢
    have h' : (if flawS o v ks.length d (wrap64 (k + 1)) = 0 then chkL ks (d + 1) (wrap64 (k + 1)) else (flawS o v ks.length d (wrap64 (k + 1)), wrap64 (k + 1))).1 = 0 := h
    show (if flawS o v ks.length d (wrap64 (k + 1)) = 0 then chkL ks (d + 1) (wrap64 (k + 1)) else (flawS o v ks.length d (wrap64 (k + 1)), wrap64 (k + 1))).2 = k + (Ex.mk o v ks).sz ∧ _
    have e1 : (Ex.mk o v ks).sz = 1 + szL ks := rfl
    rw [w64' (by omega) (by omega)] at h' ⊢
    by_cases hf : flawS o v ks.length d (k + 1) = 0
    · rw [if_pos hf] at h' ⊢
      have hk := (flaw0.1 hf).2.2
      obtain ⟨a1, a2⟩ := chkL_cnt ks (d + 1) (k + 1) (by omega) hk h'
      rw [a1, e1]
      omega
    · rw [if_neg hf] at h'
      exact absurd h' hf
theorem chkL_cnt : ∀ (l : List Ex) (d k : Int), 0 ≤ k → k ≤ 4096 → (chkL l d k).1 = 0 → (chkL l d k).2 = k + szL l ∧ k + szL l ≤ 4096
  | [], _, k, _, h1, _ => by
    show k = k + ((szL [] : Nat) : Int) ∧ k + ((szL [] : Nat) : Int) ≤ 4096
    simp only [szL]
    omega
  | t :: r, d, k, h0, h1, h => by
    have h2 : (if (chk t d k).1 = 0 then chkL r d (chk t d k).2 else chk t d k).1 = 0 := h
    show (if (chk t d k).1 = 0 then chkL r d (chk t d k).2 else chk t d k).2 = _ ∧ _
    have e1 : szL (t :: r) = t.sz + szL r := rfl
    by_cases hc : (chk t d k).1 = 0
    · rw [if_pos hc] at h2 ⊢
      obtain ⟨a1, a2⟩ := chk_cnt t d k h0 h1 hc
      rw [a1] at h2 ⊢
      obtain ⟨b1, b2⟩ := chkL_cnt r d _ (by omega) a2 h2
      rw [b1, e1]
      omega
    · rw [if_neg hc] at h2
      exact absurd h2 hc
end
theorem chkE_sz {t : Ex} (h : chkE t = 0) : t.sz ≤ 4096 := by
  have := (chk_cnt t 1 0 (by omega) (by omega) h).2
  omega
theorem chkE_shp {t : Ex} (h : chkE t = 0) : shp t := shp_of t 1 0 h
theorem shp_eq (t : Ex) : shp t ↔ nod t.op t.vr t.ks.length ∧ shpL t.ks := by cases t; exact Iff.rfl
theorem shpL_kd : ∀ {l : List Ex} {i : Nat}, shpL l → i < l.length → shp (kd l i)
  | t :: r, 0, h, _ => h.1
  | t :: r, i + 1, h, hi => shpL_kd (l := r) (i := i) h.2 (by simpa using hi)
/-- The symbol of an operator. -/
def sgn (o : Int) : Int := if o = 4 then 33 else if o = 5 then 38 else if o = 6 then 124 else if o = 7 then 94 else if o = 8 then 62 else if o = 9 then 61 else if o = 10 then 63 else 0
mutual
/-- The bytes of the text. -/
def txt : Ex → List Int
  | .mk o v ks => if o = 1 then [116, 114, 117, 101] else if o = 2 then [102, 97, 108, 115, 101] else if o = 3 then 118 :: textF v else 40 :: sgn o :: (txtL ks ++ [41])
def txtL : List Ex → List Int
  | [] => []
  | t :: r => 32 :: (txt t ++ txtL r)
end
theorem txt_eq (t : Ex) : txt t = if t.op = 1 then [116, 114, 117, 101] else if t.op = 2 then [102, 97, 108, 115, 101] else if t.op = 3 then 118 :: textF t.vr else 40 :: sgn t.op :: (txtL t.ks ++ [41]) := by cases t; rw [txt]; rfl
theorem txtL_step {l : List Ex} {i : Nat} (h : i < l.length) : txtL (l.take (i + 1)) = txtL (l.take i) ++ 32 :: txt (kd l i) := by
  induction l generalizing i with
  | nil => exact absurd h (by simp)
  | cons t r ih =>
    cases i with
    | zero => simp [txtL, kd, List.getD]
    | succ i =>
      have h2 : i < r.length := by simpa using h
      rw [List.take_succ_cons, txtL, ih h2, List.take_succ_cons, txtL]
      simp [kd_cons]
theorem text_short {v : Int} (h0 : 0 ≤ v) (h1 : v ≤ 63) : (textF v).length ≤ 2 := by
  unfold textF
  rw [if_neg (by omega)]
  exact digs_len _ 2 (by omega) (by omega)
mutual
theorem txt_len : ∀ (t : Ex), shp t → (txt t).length + 1 ≤ 6 * t.sz
  | .mk o v ks, h => by
    have hn := h.1
    have hk := txtL_len ks h.2
    have e : (Ex.mk o v ks).sz = 1 + szL ks := rfl
    rw [txt, e]
    split
    · simp only [List.length_cons, List.length_nil]; omega
    · split
      · simp only [List.length_cons, List.length_nil]; omega
      · split
        · rename_i ho
          subst ho
          have hv : v ≤ 63 := hn.2.1.2
          have := text_short hn.2.1.1 hv
          simp only [List.length_cons]; omega
        · simp only [List.length_cons, List.length_append, List.length_nil]; omega
theorem txtL_len : ∀ (l : List Ex), shpL l → (txtL l).length ≤ 6 * szL l
  | [], _ => by simp [txtL]
  | t :: r, h => by
    have h1 := txt_len t h.1
    have h2 := txtL_len r h.2
    have e : szL (t :: r) = t.sz + szL r := rfl
    rw [txtL, e]
    simp only [List.length_cons, List.length_append]; omega
end
/-- The cells of the bytes L. -/
def sC (L : List Int) : List Value := Lib.strCells (strOfNums L)
theorem sC_app (L M : List Int) : sC (L ++ M) = sC L ++ sC M := by
  unfold sC Lib.strCells
  rw [strOfNums_data, strOfNums_data, strOfNums_data]
  simp
theorem sC_len (L : List Int) : (sC L).length = L.length := by unfold sC; rw [Lib.strCells_length, strOfNums_size]
theorem sC_one {x : Int} (h0 : 0 ≤ x) (h1 : x ≤ 255) : sC [x] = [.int .u8 x] := by
  unfold sC Lib.strCells
  rw [strOfNums_data]
  have h2 : (UInt8.ofNat x.toNat).toNat = x.toNat := by
    rw [UInt8.toNat_ofNat']
    omega
  simp only [List.map_cons, List.map_nil, h2]
  rw [Int.toNat_of_nonneg h0]
theorem str_app (L M : List Int) : strOfNums L ++ strOfNums M = strOfNums (L ++ M) := by
  apply ByteArray.ext
  simp [strOfNums]
end Go.Proofs.Ytipapemcedkinaa
