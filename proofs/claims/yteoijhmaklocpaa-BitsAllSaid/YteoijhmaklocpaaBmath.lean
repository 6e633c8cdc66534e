/- Numbers and lists of booleans: plain mathematics over the functions that the contracts name. -/
import Derived.Test.YteoijhmaklocpaaFn2
import Derived.Test.YteoijhmaklocpaaFn3
import Derived.Test.YteoijhmaklocpaaFn4
import Derived.Test.YteoijhmaklocpaaFn5
import Derived.Test.YteoijhmaklocpaaFn6
namespace Go.Proofs.Yteoijhmaklocpaa
open Go.RowKit Go.PlainAid

theorem bitN_test (n i : Nat) : bitN n i = n.testBit i := by rw [Nat.testBit_eq_decide_div_mod_eq]; rfl
theorem num_bits (l : List Bool) (k i : Nat) : (numN l k).testBit i = (decide (i < k) && lb l i) := by
  induction k with
  | zero => show (0 : Nat).testBit i = _; simp
  | succ k ih =>
    have hlt := numN_lt l k
    cases hv : lb l k
    · rw [numN_no hv, ih]
      by_cases h : i = k
      · subst h; simp [hv]
      · by_cases h2 : i < k
        · simp [h2, show i < k + 1 by omega]
        · simp [h2, show ¬ i < k + 1 by omega]
    · rw [numN_yes hv, Nat.add_comm]
      by_cases h : i = k
      · subst h; rw [Nat.testBit_two_pow_add_eq, ih]; simp [hv]
      · by_cases h2 : i < k
        · rw [Nat.testBit_two_pow_add_gt h2, ih]; simp [h2, show i < k + 1 by omega]
        · have hb : 2 ^ k + numN l k < 2 ^ i := by
            have h3 := pow_le (j := k + 1) (k := i) (by omega)
            rw [Nat.pow_succ] at h3
            omega
          rw [Nat.testBit_lt_two_pow hb]; simp [show ¬ i < k + 1 by omega]
theorem lb_ofL (n k i : Nat) (h : i < k) : lb (ofL n k) i = bitN n i := by unfold lb ofL; simp [List.getD, h]
theorem lb_ext' {a b : List Bool} (h : a.length = b.length) (hk : ∀ i, i < a.length → lb a i = lb b i) : a = b := by
  apply List.ext_getElem h
  intro i h1 h2
  have := hk i h1
  unfold lb at this
  simpa [List.getD, List.getElem?_eq_getElem h1, List.getElem?_eq_getElem h2] using this
theorem of_num (l : List Bool) : ofL (numN l l.length) l.length = l := by
  apply lb_ext' (ofL_len _ _)
  intro i hi
  rw [ofL_len] at hi
  rw [lb_ofL _ _ _ hi, bitN_test, num_bits]
  simp [hi]
theorem num_of (n : Nat) (h : n < 2 ^ 64) : numN (ofL n 64) 64 = n := by
  apply Nat.eq_of_testBit_eq
  intro i
  rw [num_bits]
  by_cases hi : i < 64
  · rw [lb_ofL _ _ _ hi, bitN_test]; simp [hi]
  · have h2 := pow_le (j := 64) (k := i) (by omega)
    rw [Nat.testBit_lt_two_pow (by omega : n < 2 ^ i)]; simp [hi]
theorem bt_str (L : List Int) (h : ∀ d ∈ L, 0 ≤ d ∧ d ≤ 255) (i : Nat) (hi : i < L.length) : bt (strOfNums L) i = L.getD i 0 := by
  have hz := strOfNums_size L
  unfold bt
  rw [dif_pos (by omega)]
  have e : ((strOfNums L)[i]'(by omega)) = (strOfNums L).data.toList[i]'(by rw [strOfNums_data]; simpa using hi) := rfl
  rw [e]
  simp only [strOfNums_data, List.getElem_map]
  have := h L[i] (List.getElem_mem hi)
  simp [List.getD, List.getElem?_eq_getElem hi, UInt8.toNat_ofNat]
  omega
theorem textL_range (l : List Bool) : ∀ d ∈ textL l, 0 ≤ d ∧ d ≤ 255 := by
  intro d hd; unfold textL at hd; rw [List.mem_map] at hd; obtain ⟨b, _, rfl⟩ := hd; unfold ch; split <;> omega
theorem bt_text (l : List Bool) (i : Nat) (hi : i < l.length) : bt (strOfNums (textL l)) i = ch (lb l i) := by
  rw [bt_str _ (textL_range l) i (by rw [textL_len]; exact hi)]
  unfold textL lb; simp [List.getD, hi]
theorem text_size (l : List Bool) : (strOfNums (textL l)).size = l.length := by rw [strOfNums_size, textL_len]
theorem bin_text (l : List Bool) : BinTo (strOfNums (textL l)) (strOfNums (textL l)).size := fun i hi => by
  rw [text_size] at hi
  rw [bt_text l i hi]; unfold ch; split <;> omega
theorem parse_text (l : List Bool) : binL (strOfNums (textL l)) (strOfNums (textL l)).size = l := by
  rw [text_size]
  apply lb_ext' (binL_len _ _)
  intro i hi
  rw [binL_len] at hi
  have : lb (binL (strOfNums (textL l)) l.length) i = (bt (strOfNums (textL l)) i == 49) := by unfold lb binL; simp [List.getD, hi]
  rw [this, bt_text l i hi]; unfold ch; cases lb l i <;> rfl

def numR : List Bool → Nat
  | [] => 0
  | b :: l => (if b = true then 1 else 0) + 2 * numR l
theorem numN_cons (b : Bool) (l : List Bool) (k : Nat) : numN (b :: l) (k + 1) = (if b = true then 1 else 0) + 2 * numN l k := by
  induction k with
  | zero => show 0 + (if lb (b :: l) 0 = true then 2 ^ 0 else 0) = _; show 0 + (if b = true then 1 else 0) = (if b = true then 1 else 0) + 2 * 0; omega
  | succ k ih =>
    show numN (b :: l) (k + 1) + (if lb (b :: l) (k + 1) = true then 2 ^ (k + 1) else 0) = _
    rw [ih]
    show _ = (if b = true then 1 else 0) + 2 * (numN l k + (if lb l k = true then 2 ^ k else 0))
    have e : lb (b :: l) (k + 1) = lb l k := rfl
    rw [e, Nat.pow_succ]
    split <;> split <;> omega
theorem numN_R : ∀ (l : List Bool), numN l l.length = numR l
  | [] => rfl
  | b :: l => by
    show numN (b :: l) (l.length + 1) = _
    rw [numN_cons, numN_R l]; rfl
def allL : List Bool → Bool
  | [] => true
  | b :: l => b && allL l
theorem numR_next : ∀ (l : List Bool), numR (nextL l) = if allL l = true then 0 else numR l + 1
  | [] => rfl
  | false :: l => by show (1 : Nat) + 2 * numR l = _; simp [allL, numR]; omega
  | true :: l => by
    show (0 : Nat) + 2 * numR (nextL l) = _
    rw [numR_next l]
    by_cases h : allL l = true
    · simp [allL, h]
    · simp [allL, h, numR]; omega
def allTo (l : List Bool) : Nat → Bool
  | 0 => true
  | k + 1 => allTo l k && lb l k
theorem allTo_cons (b : Bool) (l : List Bool) (k : Nat) : allTo (b :: l) (k + 1) = (b && allTo l k) := by
  induction k with
  | zero => show (true && b) = (b && true); cases b <;> rfl
  | succ k ih =>
    show (allTo (b :: l) (k + 1) && lb l k) = _
    rw [ih]
    show _ = (b && (allTo l k && lb l k))
    cases b <;> simp
theorem allTo_all : ∀ (l : List Bool), allTo l l.length = allL l
  | [] => rfl
  | b :: l => by
    show allTo (b :: l) (l.length + 1) = _
    rw [allTo_cons, allTo_all l]; rfl
end Go.Proofs.Yteoijhmaklocpaa
