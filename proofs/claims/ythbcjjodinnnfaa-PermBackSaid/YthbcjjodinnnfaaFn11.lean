/- Contract of Move of the specification of layer 5 (perm), over the translation. -/
import Derived.Test.YthbcjjodinnnfaaFn10
namespace Go.Proofs.Ythbcjjodinnnfaa
open Go.RowKit

/-- n swaps upwards from i. -/
def upL (l : List Int) (i : Nat) : Nat → List Int
  | 0 => l
  | n + 1 => swapL (upL l i n) (i + n)
/-- n swaps downwards from i. -/
def downL (l : List Int) (i : Nat) : Nat → List Int
  | 0 => l
  | n + 1 => swapL (downL l i n) (i - n - 1)
theorem upL_len (l : List Int) (i n : Nat) : (upL l i n).length = l.length := by
  induction n with
  | zero => rfl
  | succ n ih => unfold upL; rw [swapL_len, ih]
theorem downL_len (l : List Int) (i n : Nat) : (downL l i n).length = l.length := by
  induction n with
  | zero => rfl
  | succ n ih => unfold downL; rw [swapL_len, ih]
def moveF (l : List Int) (f t : Int) : List Int :=
  if (0 ≤ f ∧ f < l.length) ∧ (0 ≤ t ∧ t < l.length) then downL (upL l f.toNat (t - f).toNat) f.toNat (f - t).toNat else l
theorem li_swap {l : List Int} {i : Nat} (h : i + 1 < l.length) (j : Nat) : li (swapL l i) j = if j = i then li l (i + 1) else if j = i + 1 then li l i else li l j := by
  unfold swapL
  rw [li_set (by simp; omega), li_set (by omega)]
  by_cases a : j = i
  · subst a; simp
  · by_cases b : j = i + 1
    · subst b; simp
    · rw [if_neg (by omega), if_neg (by omega), if_neg a, if_neg b]
theorem li_up (l : List Int) (i : Nat) : ∀ n, i + n < l.length → ∀ j, li (upL l i n) j = if i ≤ j ∧ j < i + n then li l (j + 1) else if j = i + n then li l i else li l j
  | 0, h, j => by
    show li l j = _
    rw [if_neg (by omega)]
    split
    · rename_i e; rw [e]; simp
    · rfl
  | n + 1, h, j => by
    have ih := li_up l i n (by omega)
    show li (swapL (upL l i n) (i + n)) j = _
    rw [li_swap (by rw [upL_len]; omega), ih, ih, ih]
    by_cases a : j = i + n
    · subst a
      rw [if_pos rfl, if_neg (by omega), if_neg (by omega), if_pos (by omega)]
    · by_cases b : j = i + n + 1
      · subst b
        rw [if_neg (by omega), if_pos rfl, if_neg (by omega), if_pos rfl, if_neg (by omega), if_pos (by omega)]
      · rw [if_neg a, if_neg b]
        by_cases c : i ≤ j ∧ j < i + n
        · rw [if_pos c, if_pos (by omega)]
        · rw [if_neg c, if_neg a, if_neg (by omega), if_neg (by omega)]
theorem li_down (l : List Int) (i : Nat) : ∀ n, n ≤ i → i < l.length → ∀ j, li (downL l i n) j = if i - n < j ∧ j ≤ i then li l (j - 1) else if j = i - n then li l i else li l j
  | 0, h, hi, j => by
    show li l j = _
    rw [if_neg (by omega)]
    split
    · rename_i e; rw [e]; simp
    · rfl
  | n + 1, h, hi, j => by
    have ih := li_down l i n (by omega) hi
    show li (swapL (downL l i n) (i - n - 1)) j = _
    rw [li_swap (by rw [downL_len]; omega), ih, ih, ih]
    by_cases a : j = i - n - 1
    · subst a
      rw [if_pos rfl, if_neg (by omega), if_pos (by omega), if_neg (by omega), if_pos (by omega)]
    · by_cases b : j = i - n - 1 + 1
      · rw [if_neg a, if_pos b, if_neg (by omega), if_neg (by omega), if_pos (by omega)]
        congr 1; omega
      · rw [if_neg a, if_neg b]
        by_cases c : i - n < j ∧ j ≤ i
        · rw [if_pos c, if_pos (by omega)]
        · rw [if_neg c, if_neg (by omega), if_neg (by omega), if_neg (by omega)]
end Go.Proofs.Ythbcjjodinnnfaa
