/- Decimal digits and strings: plain mathematics, no program (as in layer 1). -/
import Derived.Below
import Derived.Laws.OwnMore
import Derived.Deep.Draws
import Derived.Laws.Rows
import Derived.Laws.BytesArg
import Derived.WalkKit
import Derived.PlainAid
namespace Go.Proofs.Ytjnabmchejdhpaa
open Go.RowKit Go.PlainAid

/-- The decimal digits of n as bytes, the most significant first. -/
def digs (n : Nat) : List Int := if h : n < 10 then [48 + (n : Int)] else digs (n / 10) ++ [48 + ((n % 10 : Nat) : Int)]
termination_by n
decreasing_by omega
def pre (r : Nat) : List Int := if r = 0 then [] else digs r
theorem digs_pre (n : Nat) : digs n = pre (n / 10) ++ [48 + ((n % 10 : Nat) : Int)] := by
  rw [digs]
  unfold pre
  by_cases h : n < 10
  · rw [dif_pos h, if_pos (by omega)]
    simp; omega
  · rw [dif_neg h, if_neg (by omega)]
theorem pre_pos {r : Nat} (h : 0 < r) : pre r = pre (r / 10) ++ [48 + ((r % 10 : Nat) : Int)] := by
  rw [← digs_pre]; unfold pre; rw [if_neg (by omega)]
theorem pre_zero : pre 0 = [] := rfl
/-- What the loop over the digits keeps: r is n without its last digits, which are ds. -/
def Inv (n r : Nat) (ds : List Int) : Prop := (ds = [] ∧ r = n) ∨ (ds ≠ [] ∧ pre r ++ ds = digs n)
theorem Inv.start (n : Nat) : Inv n n [] := .inl ⟨rfl, rfl⟩
theorem Inv.step {n r : Nat} {ds : List Int} (h : Inv n r ds) (hr : 0 < r ∨ ds = []) : Inv n (r / 10) ((48 + ((r % 10 : Nat) : Int)) :: ds) := by
  refine .inr ⟨by simp, ?_⟩
  rcases h with ⟨rfl, rfl⟩ | ⟨h1, h2⟩
  · rw [digs_pre]
  · rcases hr with hr | hr
    · rw [← h2, pre_pos hr]; simp
    · exact absurd hr h1
theorem Inv.done {n : Nat} {ds : List Int} (h : Inv n 0 ds) (hd : ds ≠ []) : ds = digs n := by
  rcases h with ⟨h1, _⟩ | ⟨_, h2⟩
  · exact absurd h1 hd
  · simpa [pre_zero] using h2
theorem digs_range (n : Nat) : ∀ d ∈ digs n, 48 ≤ d ∧ d ≤ 57 := by
  induction n using Nat.strongRecOn with
  | ind n ih =>
    rw [digs]
    split
    · simp; omega
    · intro d hd
      rw [List.mem_append] at hd
      rcases hd with hd | hd
      · exact ih (n / 10) (by omega) d hd
      · simp at hd; omega
theorem digs_len (n : Nat) (k : Nat) (hk : 1 ≤ k) (h : n < 10 ^ k) : (digs n).length ≤ k := by
  induction k generalizing n with
  | zero => omega
  | succ k ih =>
    rw [digs]
    split
    · simp
    · have h2 : n / 10 < 10 ^ k := by rw [Nat.pow_succ] at h; omega
      have h3 : 1 ≤ k := by
        rcases k with _ | k
        · omega
        · omega
      have := ih (n / 10) h3 h2
      simp; omega
theorem pre_len (n : Nat) (k : Nat) (h : n < 10 ^ k) : (pre n).length ≤ k := by
  unfold pre
  split
  · simp
  · rcases k with _ | k
    · simp at h; omega
    · exact digs_len n _ (by omega) h
theorem Inv.len {n r : Nat} {ds : List Int} (h : Inv n r ds) (hn : n < 10 ^ 19) (hr : 0 < r) : ds.length ≤ 18 := by
  rcases h with ⟨rfl, _⟩ | ⟨_, h2⟩
  · simp
  · have h3 := digs_len n 19 (by omega) hn
    rw [← h2, pre_pos hr] at h3
    simp at h3; omega

/-- The first k bytes are digits. -/
def DigTo (s : ByteArray) (k : Nat) : Prop := ∀ i, i < k → 48 ≤ bt s i ∧ bt s i ≤ 57
theorem DigTo.zero (s : ByteArray) : DigTo s 0 := fun _ h => absurd h (by omega)
theorem DigTo.succ {s : ByteArray} {k : Nat} (h : DigTo s k) (h1 : 48 ≤ bt s k) (h2 : bt s k ≤ 57) : DigTo s (k + 1) := fun i hi => by
  by_cases e : i = k
  · subst e; exact ⟨h1, h2⟩
  · exact h i (by omega)
def Dec (s : ByteArray) : Prop := DigTo s s.size ∧ 0 < s.size ∧ (bt s 0 = 48 → s.size = 1)
def valB (s : ByteArray) : Nat → Int
  | 0 => 0
  | k + 1 => valB s k * 10 + (bt s k - 48)
theorem valB_nonneg {s : ByteArray} {k : Nat} (h : DigTo s k) : 0 ≤ valB s k := by
  induction k with
  | zero => exact Int.le_refl _
  | succ k ih => have := ih (fun i hi => h i (by omega)); have := h k (by omega); show 0 ≤ valB s k * 10 + (bt s k - 48); omega
theorem valB_mono {s : ByteArray} {j k : Nat} (h : DigTo s k) (hj : j ≤ k) : valB s j ≤ valB s k := by
  induction k with
  | zero => have : j = 0 := by omega
            rw [this]; exact Int.le_refl _
  | succ k ih =>
    by_cases e : j = k + 1
    · rw [e]; exact Int.le_refl _
    · have h' : DigTo s k := fun i hi => h i (by omega)
      have := ih h' (by omega)
      have := h k (by omega)
      have := valB_nonneg h'
      show valB s j ≤ valB s k * 10 + (bt s k - 48)
      omega
def intsOf (s : ByteArray) : List Int := s.data.toList.map fun b => (b.toNat : Int)
theorem intsOf_len (s : ByteArray) : (intsOf s).length = s.size := by unfold intsOf; rw [List.length_map]; rfl
theorem strOf_ints (s : ByteArray) : strOfNums (intsOf s) = s := by
  apply ByteArray.ext
  apply Array.toList_inj.1
  rw [strOfNums_data]
  unfold intsOf
  rw [List.map_map]
  conv => rhs; rw [← List.map_id s.data.toList]
  apply List.map_congr_left
  intro b _
  simp
theorem ints_str (L : List Int) (h : ∀ d ∈ L, 0 ≤ d ∧ d ≤ 255) : intsOf (strOfNums L) = L := by
  unfold intsOf
  rw [strOfNums_data, List.map_map]
  conv => rhs; rw [← List.map_id L]
  apply List.map_congr_left
  intro d hd
  have := h d hd
  simp
  omega
theorem bt_ints (s : ByteArray) (i : Nat) (h : i < s.size) : bt s i = (intsOf s).getD i 0 := by
  unfold bt intsOf
  rw [dif_pos h]
  have h' : i < s.data.toList.length := h
  simp [List.getD, List.getElem?_map, List.getElem?_eq_getElem h']
  rfl
theorem ints_inj {a b : ByteArray} (h : intsOf a = intsOf b) : a = b := by rw [← strOf_ints a, h, strOf_ints]
theorem ints_extract (s : ByteArray) : intsOf (s.extract 1 s.size) = (intsOf s).tail := by
  unfold intsOf
  rw [ByteArray.data_extract]
  simp
  apply List.take_of_length_le
  rw [List.length_tail, List.length_map]
  exact Nat.le_refl _

def valL (L : List Int) : Int := L.foldl (fun a d => a * 10 + (d - 48)) 0
theorem valL_snoc (L : List Int) (d : Int) : valL (L ++ [d]) = valL L * 10 + (d - 48) := by unfold valL; simp
theorem valB_take (s : ByteArray) (k : Nat) (h : k ≤ s.size) : valB s k = valL ((intsOf s).take k) := by
  induction k with
  | zero => rfl
  | succ k ih =>
    have hl : k < (intsOf s).length := by rw [intsOf_len]; omega
    rw [List.take_succ_eq_append_getElem hl, valL_snoc, ← ih (by omega)]
    show valB s k * 10 + (bt s k - 48) = _
    rw [bt_ints s k (by omega)]
    simp [List.getD, List.getElem?_eq_getElem hl]
theorem valB_ints (s : ByteArray) : valB s s.size = valL (intsOf s) := by
  rw [valB_take s s.size (Nat.le_refl _), List.take_of_length_le (by rw [intsOf_len]; omega)]

/-- A list of digits with no zero ahead of others. -/
def DecL (L : List Int) : Prop := (∀ d ∈ L, 48 ≤ d ∧ d ≤ 57) ∧ L ≠ [] ∧ (L.head? = some 48 → L.length = 1)
theorem dec_ints (s : ByteArray) : Dec s ↔ DecL (intsOf s) := by
  unfold Dec DecL
  constructor
  · rintro ⟨h1, h2, h3⟩
    refine ⟨fun d hd => ?_, ?_, ?_⟩
    · obtain ⟨i, hi, rfl⟩ := List.getElem_of_mem hd
      have hs : i < s.size := by rw [← intsOf_len]; exact hi
      have := h1 i hs
      rw [bt_ints s i hs] at this
      simpa [List.getD, List.getElem?_eq_getElem hi] using this
    · intro h; rw [← intsOf_len, h] at h2; simp at h2
    · intro h; rw [intsOf_len]; apply h3
      rw [bt_ints s 0 h2]
      rw [List.head?_eq_getElem?] at h
      simp [List.getD, h]
  · rintro ⟨h1, h2, h3⟩
    have hp : 0 < s.size := by
      rw [← intsOf_len]; exact List.length_pos_iff.2 h2
    refine ⟨fun i hi => ?_, hp, fun h => ?_⟩
    · have hl : i < (intsOf s).length := by rw [intsOf_len]; exact hi
      rw [bt_ints s i hi]
      simp only [List.getD, List.getElem?_eq_getElem hl, Option.getD_some]
      exact h1 _ (List.getElem_mem hl)
    · rw [← intsOf_len]; apply h3
      have hl : 0 < (intsOf s).length := by rw [intsOf_len]; exact hp
      rw [bt_ints s 0 hp] at h
      simp only [List.getD, List.getElem?_eq_getElem hl, Option.getD_some] at h
      rw [List.head?_eq_getElem?, List.getElem?_eq_getElem hl, h]

theorem snoc_cases (L : List Int) : L = [] ∨ ∃ K d, L = K ++ [d] := by
  rcases h : L.reverse with _ | ⟨d, K⟩
  · exact .inl (by simpa using h)
  · refine .inr ⟨K.reverse, d, ?_⟩
    have := congrArg List.reverse h
    simpa using this
theorem valL_nonneg : ∀ (n : Nat) (L : List Int), L.length = n → (∀ d ∈ L, 48 ≤ d ∧ d ≤ 57) → 0 ≤ valL L
  | 0, L, hl, _ => by
    have : L = [] := List.eq_nil_of_length_eq_zero hl
    rw [this]; exact Int.le_refl _
  | n + 1, L, hl, h => by
    rcases snoc_cases L with rfl | ⟨K, d, rfl⟩
    · simp at hl
    · rw [valL_snoc]
      have := valL_nonneg n K (by simpa using hl) (fun x hx => h x (by simp [hx]))
      have := h d (by simp)
      omega
theorem head_snoc {K : List Int} {d : Int} (h : K ≠ []) : (K ++ [d]).head? = K.head? := by
  rcases K with _ | ⟨a, K⟩
  · exact absurd rfl h
  · rfl
theorem digs_valL : ∀ (n : Nat) (L : List Int), L.length = n → DecL L → digs (valL L).toNat = L ∧ (L.head? ≠ some 48 → 0 < valL L)
  | 0, L, hl, h => absurd (List.eq_nil_of_length_eq_zero hl) h.2.1
  | n + 1, L, hl, h => by
    rcases snoc_cases L with rfl | ⟨K, d, rfl⟩
    · simp at hl
    · obtain ⟨h1, h2, h3⟩ := h
      have hd := h1 d (by simp)
      by_cases hK : K = []
      · subst hK
        have hv : valL ([] ++ [d]) = d - 48 := by rw [valL_snoc]; show (0 : Int) * 10 + (d - 48) = _; omega
        rw [hv]
        refine ⟨?_, ?_⟩
        · rw [digs, dif_pos (by omega)]
          simp; omega
        · intro hne
          have : d ≠ 48 := by intro e; apply hne; rw [e]; rfl
          omega
      · have hne : K.head? ≠ some 48 := by
          intro e
          have := h3 (by rw [head_snoc hK, e])
          exact hK (by simpa using this)
        have hDK : DecL K := ⟨fun x hx => h1 x (by simp [hx]), hK, fun e => absurd e hne⟩
        obtain ⟨i1, i2⟩ := digs_valL n K (by simpa using hl) hDK
        have hp := i2 hne
        rw [valL_snoc]
        refine ⟨?_, fun _ => by omega⟩
        rw [digs_pre, show (valL K * 10 + (d - 48)).toNat / 10 = (valL K).toNat by omega]
        unfold pre
        rw [if_neg (by omega), i1, show (((valL K * 10 + (d - 48)).toNat % 10 : Nat) : Int) = d - 48 by omega]
        simp
        omega
theorem valL_digs (n : Nat) : valL (digs n) = n := by
  induction n using Nat.strongRecOn with
  | ind n ih =>
    rw [digs]
    split
    · show (0 : Int) * 10 + (48 + (n : Int) - 48) = n
      omega
    · rw [valL_snoc, ih (n / 10) (by omega)]
      omega
theorem digs_ne (n : Nat) : digs n ≠ [] := by rw [digs_pre]; simp
theorem digs_head (n : Nat) (h : 0 < n) : (digs n).head? ≠ some 48 := by
  induction n using Nat.strongRecOn with
  | ind n ih =>
    rw [digs]
    split
    · simp; omega
    · rw [head_snoc (digs_ne _)]
      exact ih (n / 10) (by omega) (by omega)
theorem decL_digs (n : Nat) : DecL (digs n) := by
  refine ⟨digs_range n, digs_ne n, fun h => ?_⟩
  by_cases h0 : 0 < n
  · exact absurd h (digs_head n h0)
  · have : n = 0 := by omega
    subst this
    rw [digs, dif_pos (by omega)]; rfl


def txt (n : Nat) : ByteArray := strOfNums (digs n)
theorem ints_txt (n : Nat) : intsOf (txt n) = digs n := ints_str _ fun d hd => by have := digs_range n d hd; omega
theorem dec_txt (n : Nat) : Dec (txt n) := (dec_ints _).2 (by rw [ints_txt]; exact decL_digs n)
theorem val_txt (n : Nat) : valB (txt n) (txt n).size = n := by rw [valB_ints, ints_txt, valL_digs]
theorem txt_size (n k : Nat) (hk : 1 ≤ k) (h : n < 10 ^ k) : (txt n).size ≤ k := by
  rw [← intsOf_len, ints_txt]; exact digs_len n k hk h
end Go.Proofs.Ytjnabmchejdhpaa
