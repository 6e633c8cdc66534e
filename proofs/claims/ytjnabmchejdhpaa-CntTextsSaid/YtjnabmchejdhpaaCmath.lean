/- Natural numbers as digits in base 2^32, least significant first: plain mathematics for layer 4 (cnt). -/
import Derived.Handy
namespace Go.Proofs.Ytjnabmchejdhpaa

abbrev B32 : Int := 4294967296
/-- The value of digits. -/
def val : List Int → Int
  | [] => 0
  | d :: t => d + 4294967296 * val t
def pw : Nat → Int
  | 0 => 1
  | k + 1 => 4294967296 * pw k
def Dig (l : List Int) : Prop := ∀ d ∈ l, 0 ≤ d ∧ d < 4294967296
theorem pw_pos (k : Nat) : 1 ≤ pw k := by
  induction k with
  | zero => exact Int.le_refl _
  | succ k ih => show 1 ≤ 4294967296 * pw k; omega
theorem pw_add (a b : Nat) : pw (a + b) = pw a * pw b := by
  induction b with
  | zero => show pw a = pw a * 1; omega
  | succ b ih =>
    show 4294967296 * pw (a + b) = pw a * (4294967296 * pw b)
    rw [ih, Int.mul_left_comm]
theorem val_append (a b : List Int) : val (a ++ b) = val a + pw a.length * val b := by
  induction a with
  | nil => show val b = 0 + 1 * val b; omega
  | cons d t ih =>
    show d + 4294967296 * val (t ++ b) = d + 4294967296 * val t + 4294967296 * pw t.length * val b
    rw [ih, Int.mul_add, Int.mul_assoc]
    omega
theorem Dig.nil : Dig [] := fun _ h => by cases h
theorem Dig.cons {d : Int} {t : List Int} (h1 : 0 ≤ d) (h2 : d < 4294967296) (h : Dig t) : Dig (d :: t) := fun x hx => by
  rcases List.mem_cons.1 hx with rfl | hx
  · exact ⟨h1, h2⟩
  · exact h x hx
theorem Dig.tail {d : Int} {t : List Int} (h : Dig (d :: t)) : Dig t := fun x hx => h x (List.mem_cons_of_mem _ hx)
theorem Dig.head {d : Int} {t : List Int} (h : Dig (d :: t)) : 0 ≤ d ∧ d < 4294967296 := h d (List.mem_cons_self ..)
theorem Dig.take {l : List Int} (h : Dig l) (k : Nat) : Dig (l.take k) := fun x hx => h x (List.mem_of_mem_take hx)
theorem Dig.drop {l : List Int} (h : Dig l) (k : Nat) : Dig (l.drop k) := fun x hx => h x (List.mem_of_mem_drop hx)
theorem Dig.app {a b : List Int} (ha : Dig a) (hb : Dig b) : Dig (a ++ b) := fun x hx => by
  rcases List.mem_append.1 hx with h | h
  · exact ha x h
  · exact hb x h
theorem Dig.set {l : List Int} (h : Dig l) (i : Nat) {x : Int} (h1 : 0 ≤ x) (h2 : x < 4294967296) : Dig (l.set i x) := fun y hy => by
  rcases List.mem_or_eq_of_mem_set hy with h3 | rfl
  · exact h y h3
  · exact ⟨h1, h2⟩
theorem Dig.zeros (n : Nat) : Dig (List.replicate n 0) := fun x hx => by
  have := List.eq_of_mem_replicate hx
  subst this
  omega
theorem val_lo : ∀ {l : List Int}, Dig l → 0 ≤ val l
  | [], _ => Int.le_refl _
  | d :: t, h => by
    have h1 := val_lo h.tail
    have h2 := h.head
    show 0 ≤ d + 4294967296 * val t
    omega
theorem val_hi : ∀ {l : List Int}, Dig l → val l < pw l.length
  | [], _ => by decide
  | d :: t, h => by
    have h1 := val_hi h.tail
    have h2 := h.head
    show d + 4294967296 * val t < 4294967296 * pw t.length
    omega
theorem val_inj : ∀ {a b : List Int}, Dig a → Dig b → a.length = b.length → val a = val b → a = b
  | [], [], _, _, _, _ => rfl
  | [], _ :: _, _, _, h, _ => by cases h
  | _ :: _, [], _, _, h, _ => by cases h
  | x :: a, y :: b, ha, hb, hl, hv => by
    have h1 := ha.head
    have h2 := hb.head
    have hv2 : x + 4294967296 * val a = y + 4294967296 * val b := hv
    have e1 : x = y := by omega
    have e2 : val a = val b := by omega
    rw [e1, val_inj ha.tail hb.tail (by simpa using hl) e2]
theorem val_zeros (n : Nat) : val (List.replicate n 0) = 0 := by
  induction n with
  | zero => rfl
  | succ n ih =>
    show 0 + 4294967296 * val (List.replicate n 0) = 0
    rw [ih]; rfl
/-- Normalized: the last digit is not 0. -/
def nrm (l : List Int) : Bool := match l.getLast? with | none => true | some d => d != 0
theorem nrm_nil : nrm [] = true := rfl
theorem nrm_snoc (l : List Int) (d : Int) : nrm (l ++ [d]) = (d != 0) := by
  unfold nrm; simp
theorem val_snoc (l : List Int) (d : Int) : val (l ++ [d]) = val l + pw l.length * d := by
  rw [val_append]
  show val l + pw l.length * (d + 4294967296 * 0) = _
  simp
theorem snoc_of {l : List Int} (h : l ≠ []) : ∃ t d, l = t ++ [d] := ⟨l.dropLast, l.getLast h, (List.dropLast_concat_getLast h).symm⟩
/-- Two normalized numbers of one value are the same. -/
theorem nrm_low {l : List Int} (h : Dig l) (hn : nrm l = true) (hl : l ≠ []) : pw (l.length - 1) ≤ val l := by
  obtain ⟨t, d, rfl⟩ := snoc_of hl
  rw [nrm_snoc] at hn
  rw [val_snoc]
  have h1 := val_lo (l := t) (fun x hx => h x (List.mem_append_left _ hx))
  have h2 := h d (by simp)
  have h3 : d ≠ 0 := by simpa using hn
  have h4 := pw_pos t.length
  have e : (t ++ [d]).length - 1 = t.length := by simp
  rw [e]
  have h5 : pw t.length * 1 ≤ pw t.length * d := Int.mul_le_mul_of_nonneg_left (by omega) (by omega)
  omega
theorem pw_mono {a b : Nat} (h : a ≤ b) : pw a ≤ pw b := by
  obtain ⟨c, rfl⟩ : ∃ c, b = a + c := ⟨b - a, by omega⟩
  rw [pw_add]
  have h1 := pw_pos a
  have h2 := pw_pos c
  have h3 : pw a * 1 ≤ pw a * pw c := Int.mul_le_mul_of_nonneg_left h2 (by omega)
  omega
theorem nrm_inj {a b : List Int} (ha : Dig a) (hb : Dig b) (na : nrm a = true) (nb : nrm b = true) (hv : val a = val b) : a = b := by
  have key : ∀ {x y : List Int}, Dig x → Dig y → nrm y = true → val x = val y → ¬ x.length < y.length := by
    intro x y hx hy ny h hlt
    have h1 := val_hi hx
    have h2 := nrm_low hy ny (fun e => by rw [e] at hlt; simp at hlt)
    have h3 := pw_mono (show x.length ≤ y.length - 1 by omega)
    omega
  have h1 := key ha hb nb hv
  have h2 := key hb ha na hv.symm
  exact val_inj ha hb (by omega) hv
/-- How many digits are left when the zeros at the end are cut off. -/
def trimN (l : List Int) : Nat → Nat
  | 0 => 0
  | k + 1 => if l.getD k 0 = 0 then trimN l k else k + 1
theorem trimN_le (l : List Int) (k : Nat) : trimN l k ≤ k := by
  induction k with
  | zero => exact Nat.le_refl _
  | succ k ih => unfold trimN; split <;> omega
theorem take_snoc {l : List Int} {k : Nat} (h : k < l.length) : l.take (k + 1) = l.take k ++ [l.getD k 0] := by
  rw [List.take_succ_eq_append_getElem h]
  simp [List.getD, h]
theorem trimN_val (l : List Int) (k : Nat) (h : k ≤ l.length) : val (l.take (trimN l k)) = val (l.take k) ∧ nrm (l.take (trimN l k)) = true := by
  induction k with
  | zero => exact ⟨rfl, rfl⟩
  | succ k ih =>
    have h1 := ih (by omega)
    unfold trimN
    split
    · rename_i h0
      rw [take_snoc (by omega), h0, val_snoc]
      exact ⟨by rw [h1.1]; omega, h1.2⟩
    · rename_i h0
      refine ⟨rfl, ?_⟩
      rw [take_snoc (by omega), nrm_snoc]
      simpa using h0
def trimL (l : List Int) : List Int := l.take (trimN l l.length)
theorem trimL_val (l : List Int) : val (trimL l) = val l := by
  unfold trimL; rw [(trimN_val l _ (Nat.le_refl _)).1, List.take_length]
theorem trimL_nrm (l : List Int) : nrm (trimL l) = true := (trimN_val l _ (Nat.le_refl _)).2
theorem trimL_dig {l : List Int} (h : Dig l) : Dig (trimL l) := h.take _
theorem trimL_len (l : List Int) : (trimL l).length = trimN l l.length := by
  unfold trimL; rw [List.length_take]; have := trimN_le l l.length; omega
theorem trimL_id {l : List Int} (h : Dig l) (hn : nrm l = true) : trimL l = l := nrm_inj (trimL_dig h) h (trimL_nrm l) hn (trimL_val l)
/-- Which of two numbers is greater, by their values. -/
def cmpF (x y : Int) : Int := if x < y then -1 else if y < x then 1 else 0
theorem val_split {l : List Int} {k : Nat} (h : k ≤ l.length) : val l = val (l.take k) + pw k * val (l.drop k) := by
  conv => lhs; rw [← List.take_append_drop k l]
  rw [val_append, List.length_take, Nat.min_eq_left h]
theorem drop_cons' {l : List Int} {k : Nat} (h : k < l.length) : l.drop k = l.getD k 0 :: l.drop (k + 1) := by
  rw [List.drop_eq_getElem_cons h]; simp [List.getD, h]
theorem getD_mem {l : List Int} {k : Nat} (h : k < l.length) : l.getD k 0 ∈ l := by simp [List.getD, h]
/-- Two numbers of one length with the same digits above k compare as their k-th digits. -/
theorem cmp_at {a b : List Int} {k : Nat} (ha : Dig a) (hb : Dig b) (hka : k < a.length) (hkb : k < b.length) (he : a.drop (k + 1) = b.drop (k + 1)) (hne : a.getD k 0 ≠ b.getD k 0) :
    cmpF (val a) (val b) = cmpF (a.getD k 0) (b.getD k 0) := by
  have h1 := val_split (l := a) (k := k) (by omega)
  have h2 := val_split (l := b) (k := k) (by omega)
  rw [drop_cons' hka] at h1
  rw [drop_cons' hkb, ← he] at h2
  have v1 := val_lo (ha.take k)
  have v2 := val_hi (ha.take k)
  have v3 := val_lo (hb.take k)
  have v4 := val_hi (hb.take k)
  rw [List.length_take, Nat.min_eq_left (by omega)] at v2 v4
  have e1 : val (a.getD k 0 :: a.drop (k + 1)) = a.getD k 0 + 4294967296 * val (a.drop (k + 1)) := rfl
  have e2 : val (b.getD k 0 :: a.drop (k + 1)) = b.getD k 0 + 4294967296 * val (a.drop (k + 1)) := rfl
  rw [e1, Int.mul_add] at h1
  rw [e2, Int.mul_add] at h2
  generalize pw k * (4294967296 * val (a.drop (k + 1))) = T at h1 h2
  unfold cmpF
  rcases Int.lt_or_gt_of_ne hne with h | h
  · have h5 : pw k * (a.getD k 0 + 1) ≤ pw k * b.getD k 0 := Int.mul_le_mul_of_nonneg_left (by omega) (by have := pw_pos k; omega)
    rw [Int.mul_add] at h5
    rw [if_pos (by omega), if_pos h]
  · have h5 : pw k * (b.getD k 0 + 1) ≤ pw k * a.getD k 0 := Int.mul_le_mul_of_nonneg_left (by omega) (by have := pw_pos k; omega)
    rw [Int.mul_add] at h5
    rw [if_neg (by omega), if_pos (by omega), if_neg (by omega), if_pos h]
theorem cmp_len {a b : List Int} (ha : Dig a) (hb : Dig b) (na : nrm a = true) (nb : nrm b = true) (h : a.length ≠ b.length) : cmpF (val a) (val b) = cmpF a.length b.length := by
  have key : ∀ {x y : List Int}, Dig x → Dig y → nrm y = true → x.length < y.length → val x < val y := by
    intro x y hx hy ny hlt
    have h1 := val_hi hx
    have h2 := nrm_low hy ny (fun e => by rw [e] at hlt; simp at hlt)
    have h3 := pw_mono (show x.length ≤ y.length - 1 by omega)
    omega
  unfold cmpF
  rcases Nat.lt_or_gt_of_ne h with h | h
  · have h1 := key ha hb nb h
    rw [if_pos h1, if_pos (by omega)]
  · have h1 := key hb ha na h
    rw [if_neg (by omega), if_pos h1, if_neg (by omega), if_pos (by omega)]
end Go.Proofs.Ytjnabmchejdhpaa
