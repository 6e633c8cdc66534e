/- Natural numbers as decimal digits, least significant first: plain mathematics for the specification of layer 4 (cnt), as Cmath for base 2^32. -/
import Derived.Test.YtjnabmchejdhpaaCmath2
namespace Go.Proofs.Ytjnabmchejdhpaa

def valT : List Int → Int
  | [] => 0
  | d :: t => d + 10 * valT t
def pwT : Nat → Int
  | 0 => 1
  | k + 1 => 10 * pwT k
def DigT (l : List Int) : Prop := ∀ d ∈ l, 0 ≤ d ∧ d < 10
theorem pw_posT (k : Nat) : 1 ≤ pwT k := by
  induction k with
  | zero => exact Int.le_refl _
  | succ k ih => show 1 ≤ 10 * pwT k; omega
theorem pw_addT (a b : Nat) : pwT (a + b) = pwT a * pwT b := by
  induction b with
  | zero => show pwT a = pwT a * 1; omega
  | succ b ih =>
    show 10 * pwT (a + b) = pwT a * (10 * pwT b)
    rw [ih, Int.mul_left_comm]
theorem val_appendT (a b : List Int) : valT (a ++ b) = valT a + pwT a.length * valT b := by
  induction a with
  | nil => show valT b = 0 + 1 * valT b; omega
  | cons d t ih =>
    show d + 10 * valT (t ++ b) = d + 10 * valT t + 10 * pwT t.length * valT b
    rw [ih, Int.mul_add, Int.mul_assoc]
    omega
theorem DigT.nil : DigT [] := fun _ h => by cases h
theorem DigT.cons {d : Int} {t : List Int} (h1 : 0 ≤ d) (h2 : d < 10) (h : DigT t) : DigT (d :: t) := fun x hx => by
  rcases List.mem_cons.1 hx with rfl | hx
  · exact ⟨h1, h2⟩
  · exact h x hx
theorem DigT.tail {d : Int} {t : List Int} (h : DigT (d :: t)) : DigT t := fun x hx => h x (List.mem_cons_of_mem _ hx)
theorem DigT.head {d : Int} {t : List Int} (h : DigT (d :: t)) : 0 ≤ d ∧ d < 10 := h d (List.mem_cons_self ..)
theorem DigT.take {l : List Int} (h : DigT l) (k : Nat) : DigT (l.take k) := fun x hx => h x (List.mem_of_mem_take hx)
theorem DigT.drop {l : List Int} (h : DigT l) (k : Nat) : DigT (l.drop k) := fun x hx => h x (List.mem_of_mem_drop hx)
theorem DigT.app {a b : List Int} (ha : DigT a) (hb : DigT b) : DigT (a ++ b) := fun x hx => by
  rcases List.mem_append.1 hx with h | h
  · exact ha x h
  · exact hb x h
theorem DigT.set {l : List Int} (h : DigT l) (i : Nat) {x : Int} (h1 : 0 ≤ x) (h2 : x < 10) : DigT (l.set i x) := fun y hy => by
  rcases List.mem_or_eq_of_mem_set hy with h3 | rfl
  · exact h y h3
  · exact ⟨h1, h2⟩
theorem DigT.zeros (n : Nat) : DigT (List.replicate n 0) := fun x hx => by
  have := List.eq_of_mem_replicate hx
  subst this
  omega
theorem val_loT : ∀ {l : List Int}, DigT l → 0 ≤ valT l
  | [], _ => Int.le_refl _
  | d :: t, h => by
    have h1 := val_loT h.tail
    have h2 := h.head
    show 0 ≤ d + 10 * valT t
    omega
theorem val_hiT : ∀ {l : List Int}, DigT l → valT l < pwT l.length
  | [], _ => by decide
  | d :: t, h => by
    have h1 := val_hiT h.tail
    have h2 := h.head
    show d + 10 * valT t < 10 * pwT t.length
    omega
theorem val_injT : ∀ {a b : List Int}, DigT a → DigT b → a.length = b.length → valT a = valT b → a = b
  | [], [], _, _, _, _ => rfl
  | [], _ :: _, _, _, h, _ => by cases h
  | _ :: _, [], _, _, h, _ => by cases h
  | x :: a, y :: b, ha, hb, hl, hv => by
    have h1 := ha.head
    have h2 := hb.head
    have hv2 : x + 10 * valT a = y + 10 * valT b := hv
    have e1 : x = y := by omega
    have e2 : valT a = valT b := by omega
    rw [e1, val_injT ha.tail hb.tail (by simpa using hl) e2]
theorem val_zerosT (n : Nat) : valT (List.replicate n 0) = 0 := by
  induction n with
  | zero => rfl
  | succ n ih =>
    show 0 + 10 * valT (List.replicate n 0) = 0
    rw [ih]; rfl
def nrmT (l : List Int) : Bool := match l.getLast? with | none => true | some d => d != 0
theorem nrm_nilT : nrmT [] = true := rfl
theorem nrm_snocT (l : List Int) (d : Int) : nrmT (l ++ [d]) = (d != 0) := by
  unfold nrmT; simp
theorem val_snocT (l : List Int) (d : Int) : valT (l ++ [d]) = valT l + pwT l.length * d := by
  rw [val_appendT]
  show valT l + pwT l.length * (d + 10 * 0) = _
  simp
theorem nrm_lowT {l : List Int} (h : DigT l) (hn : nrmT l = true) (hl : l ≠ []) : pwT (l.length - 1) ≤ valT l := by
  obtain ⟨t, d, rfl⟩ := snoc_of hl
  rw [nrm_snocT] at hn
  rw [val_snocT]
  have h1 := val_loT (l := t) (fun x hx => h x (List.mem_append_left _ hx))
  have h2 := h d (by simp)
  have h3 : d ≠ 0 := by simpa using hn
  have h4 := pw_posT t.length
  have e : (t ++ [d]).length - 1 = t.length := by simp
  rw [e]
  have h5 : pwT t.length * 1 ≤ pwT t.length * d := Int.mul_le_mul_of_nonneg_left (by omega) (by omega)
  omega
theorem pw_monoT {a b : Nat} (h : a ≤ b) : pwT a ≤ pwT b := by
  obtain ⟨c, rfl⟩ : ∃ c, b = a + c := ⟨b - a, by omega⟩
  rw [pw_addT]
  have h1 := pw_posT a
  have h2 := pw_posT c
  have h3 : pwT a * 1 ≤ pwT a * pwT c := Int.mul_le_mul_of_nonneg_left h2 (by omega)
  omega
theorem nrm_injT {a b : List Int} (ha : DigT a) (hb : DigT b) (na : nrmT a = true) (nb : nrmT b = true) (hv : valT a = valT b) : a = b := by
  have key : ∀ {x y : List Int}, DigT x → DigT y → nrmT y = true → valT x = valT y → ¬ x.length < y.length := by
    intro x y hx hy ny h hlt
    have h1 := val_hiT hx
    have h2 := nrm_lowT hy ny (fun e => by rw [e] at hlt; simp at hlt)
    have h3 := pw_monoT (show x.length ≤ y.length - 1 by omega)
    omega
  have h1 := key ha hb nb hv
  have h2 := key hb ha na hv.symm
  exact val_injT ha hb (by omega) hv
def trimNT (l : List Int) : Nat → Nat
  | 0 => 0
  | k + 1 => if l.getD k 0 = 0 then trimNT l k else k + 1
theorem trimN_leT (l : List Int) (k : Nat) : trimNT l k ≤ k := by
  induction k with
  | zero => exact Nat.le_refl _
  | succ k ih => unfold trimNT; split <;> omega
theorem trimN_valT (l : List Int) (k : Nat) (h : k ≤ l.length) : valT (l.take (trimNT l k)) = valT (l.take k) ∧ nrmT (l.take (trimNT l k)) = true := by
  induction k with
  | zero => exact ⟨rfl, rfl⟩
  | succ k ih =>
    have h1 := ih (by omega)
    unfold trimNT
    split
    · rename_i h0
      rw [take_snoc (by omega), h0, val_snocT]
      exact ⟨by rw [h1.1]; omega, h1.2⟩
    · rename_i h0
      refine ⟨rfl, ?_⟩
      rw [take_snoc (by omega), nrm_snocT]
      simpa using h0
def trimLT (l : List Int) : List Int := l.take (trimNT l l.length)
theorem trimL_valT (l : List Int) : valT (trimLT l) = valT l := by
  unfold trimLT; rw [(trimN_valT l _ (Nat.le_refl _)).1, List.take_length]
theorem trimL_nrmT (l : List Int) : nrmT (trimLT l) = true := (trimN_valT l _ (Nat.le_refl _)).2
theorem trimL_digT {l : List Int} (h : DigT l) : DigT (trimLT l) := h.take _
theorem trimL_lenT (l : List Int) : (trimLT l).length = trimNT l l.length := by
  unfold trimLT; rw [List.length_take]; have := trimN_leT l l.length; omega
theorem trimL_idT {l : List Int} (h : DigT l) (hn : nrmT l = true) : trimLT l = l := nrm_injT (trimL_digT h) h (trimL_nrmT l) hn (trimL_valT l)
theorem val_splitT {l : List Int} {k : Nat} (h : k ≤ l.length) : valT l = valT (l.take k) + pwT k * valT (l.drop k) := by
  conv => lhs; rw [← List.take_append_drop k l]
  rw [val_appendT, List.length_take, Nat.min_eq_left h]
theorem cmp_atT {a b : List Int} {k : Nat} (ha : DigT a) (hb : DigT b) (hka : k < a.length) (hkb : k < b.length) (he : a.drop (k + 1) = b.drop (k + 1)) (hne : a.getD k 0 ≠ b.getD k 0) :
    cmpF (valT a) (valT b) = cmpF (a.getD k 0) (b.getD k 0) := by
  have h1 := val_splitT (l := a) (k := k) (by omega)
  have h2 := val_splitT (l := b) (k := k) (by omega)
  rw [drop_cons' hka] at h1
  rw [drop_cons' hkb, ← he] at h2
  have v1 := val_loT (ha.take k)
  have v2 := val_hiT (ha.take k)
  have v3 := val_loT (hb.take k)
  have v4 := val_hiT (hb.take k)
  rw [List.length_take, Nat.min_eq_left (by omega)] at v2 v4
  have e1 : valT (a.getD k 0 :: a.drop (k + 1)) = a.getD k 0 + 10 * valT (a.drop (k + 1)) := rfl
  have e2 : valT (b.getD k 0 :: a.drop (k + 1)) = b.getD k 0 + 10 * valT (a.drop (k + 1)) := rfl
  rw [e1, Int.mul_add] at h1
  rw [e2, Int.mul_add] at h2
  generalize pwT k * (10 * valT (a.drop (k + 1))) = T at h1 h2
  unfold cmpF
  rcases Int.lt_or_gt_of_ne hne with h | h
  · have h5 : pwT k * (a.getD k 0 + 1) ≤ pwT k * b.getD k 0 := Int.mul_le_mul_of_nonneg_left (by omega) (by have := pw_posT k; omega)
    rw [Int.mul_add] at h5
    rw [if_pos (by omega), if_pos h]
  · have h5 : pwT k * (b.getD k 0 + 1) ≤ pwT k * a.getD k 0 := Int.mul_le_mul_of_nonneg_left (by omega) (by have := pw_posT k; omega)
    rw [Int.mul_add] at h5
    rw [if_neg (by omega), if_pos (by omega), if_neg (by omega), if_pos h]
theorem cmp_lenT {a b : List Int} (ha : DigT a) (hb : DigT b) (na : nrmT a = true) (nb : nrmT b = true) (h : a.length ≠ b.length) : cmpF (valT a) (valT b) = cmpF a.length b.length := by
  have key : ∀ {x y : List Int}, DigT x → DigT y → nrmT y = true → x.length < y.length → valT x < valT y := by
    intro x y hx hy ny hlt
    have h1 := val_hiT hx
    have h2 := nrm_lowT hy ny (fun e => by rw [e] at hlt; simp at hlt)
    have h3 := pw_monoT (show x.length ≤ y.length - 1 by omega)
    omega
  unfold cmpF
  rcases Nat.lt_or_gt_of_ne h with h | h
  · have h1 := key ha hb nb h
    rw [if_pos h1, if_pos (by omega)]
  · have h1 := key hb ha na h
    rw [if_neg (by omega), if_pos h1, if_neg (by omega), if_pos (by omega)]
end Go.Proofs.Ytjnabmchejdhpaa
