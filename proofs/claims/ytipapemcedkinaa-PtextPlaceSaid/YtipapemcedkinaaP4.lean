/- What the parser of layer 7 (ptext) reads: an expression, or the place of a fault. -/
import Derived.Test.YtipapemcedkinaaP3
namespace Go.Proofs.Ytipapemcedkinaa
open Go.RowKit Go.PlainAid

inductive XR where
  | bad (a : Nat)
  | ok (t : Ex) (a : Nat)
def ofWord (t : Ex) (R : Nat × Bool) : XR := if R.2 = true then .ok t R.1 else .bad R.1
def ofNum : NR → XR
  | .bad a => .bad a
  | .ok n a => .ok (.mk 3 n []) a
mutual
def exprF (s : ByteArray) : Nat → Nat → XR
  | 0, k => .bad k
  | f + 1, k =>
    if Go.PlainAid.bt s k = 116 then ofWord (.mk 1 0 []) (wordL s [116, 114, 117, 101] k)
    else if Go.PlainAid.bt s k = 102 then ofWord (.mk 2 0 []) (wordL s [102, 97, 108, 115, 101] k)
    else if Go.PlainAid.bt s k = 118 then ofNum (numR s (k + 1))
    else if Go.PlainAid.bt s k = 40 then
      match operR s (k + 1) with
      | .bad a => .bad a
      | .ok o a => kidsF s f o a []
    else .bad k
def kidsF (s : ByteArray) : Nat → Int → Nat → List Ex → XR
  | 0, _, k, _ => .bad k
  | f + 1, o, k, l =>
    if Go.PlainAid.bt s k = 32 then
      match exprF s f (k + 1) with
      | .bad a => .bad a
      | .ok t a => kidsF s f o a (l ++ [t])
    else if Go.PlainAid.bt s k = 41 then .ok (.mk o 0 l) (k + 1) else .bad k
end
theorem at_lt {s : ByteArray} {k : Nat} {c : Int} (h : Go.PlainAid.bt s k = c) (hc : c ≠ 0) : k < s.size := by
  rcases Nat.lt_or_ge k s.size with h1 | h1
  · exact h1
  · exact absurd (h ▸ bt_end s h1) hc
theorem wordL_le (s : ByteArray) : ∀ (L : List Int) (k : Nat), (∀ c ∈ L, c ≠ 0) → k ≤ s.size → k ≤ (wordL s L k).1 ∧ (wordL s L k).1 ≤ s.size ∧ ((wordL s L k).2 = true → (wordL s L k).1 = k + L.length)
  | [], k, _, hk => ⟨Nat.le_refl _, hk, fun _ => rfl⟩
  | c :: r, k, h, hk => by
    rw [wordL]
    split
    · rename_i hc
      have h1 := at_lt hc (h c (List.mem_cons_self ..))
      obtain ⟨a1, a2, a3⟩ := wordL_le s r (k + 1) (fun x hx => h x (List.mem_cons_of_mem _ hx)) h1
      exact ⟨by omega, a2, fun e => by rw [a3 e, List.length_cons]; omega⟩
    · exact ⟨Nat.le_refl _, hk, fun e => by cases e⟩
def NRin (s : ByteArray) (k : Nat) : NR → Prop
  | .bad a => a ≤ s.size
  | .ok _ a => k < a ∧ a ≤ s.size
def XRin (s : ByteArray) (k : Nat) : XR → Prop
  | .bad a => a ≤ s.size
  | .ok t a => k < a ∧ a ≤ s.size ∧ t.sz ≤ a - k
theorem numR_in {s : ByteArray} {k : Nat} (hk : k ≤ s.size) : NRin s k (numR s k) := by
  unfold numR
  have h := nlen_size hk
  split
  · exact hk
  · exact ⟨by omega, h⟩
theorem operR_in {s : ByteArray} {k : Nat} (hk : k ≤ s.size) : NRin s k (operR s k) := by
  unfold operR
  split
  · exact hk
  · rename_i h
    refine ⟨by omega, ?_⟩
    rcases Nat.lt_or_ge k s.size with h1 | h1
    · exact h1
    · rw [bt_end s h1] at h
      exact absurd rfl h
theorem word_in {s : ByteArray} {L : List Int} {k : Nat} (o : Int) (hL : ∀ c ∈ L, c ≠ 0) (hl : 0 < L.length) (hk : k ≤ s.size) : XRin s k (ofWord (.mk o 0 []) (wordL s L k)) := by
  obtain ⟨a1, a2, a3⟩ := wordL_le s L k hL hk
  unfold ofWord
  split
  · rename_i h
    have h3 := a3 h
    exact ⟨by omega, a2, by show 1 + szL [] ≤ _; simp only [szL]; omega⟩
  · exact a2
theorem szL_sn (l : List Ex) (t : Ex) : szL (l ++ [t]) = szL l + t.sz := by
  induction l with
  | nil => simp [szL]
  | cons x r ih => rw [List.cons_append, szL, szL, ih]; omega
theorem xr_in (s : ByteArray) : ∀ f, (∀ k, k ≤ s.size → XRin s k (exprF s f k)) ∧ (∀ o k l, k ≤ s.size → match kidsF s f o k l with | .bad a => a ≤ s.size | .ok t a => k < a ∧ a ≤ s.size ∧ t.sz + k ≤ szL l + a) := by
  intro f
  induction f with
  | zero => exact ⟨fun k hk => hk, fun o k l hk => hk⟩
  | succ f ih =>
    constructor
    · intro k hk
      rw [exprF]
      by_cases h1 : Go.PlainAid.bt s k = 116
      · rw [if_pos h1]; exact word_in 1 (by simp) (by simp) hk
      · rw [if_neg h1]
        by_cases h2 : Go.PlainAid.bt s k = 102
        · rw [if_pos h2]; exact word_in 2 (by simp) (by simp) hk
        · rw [if_neg h2]
          by_cases h3 : Go.PlainAid.bt s k = 118
          · rw [if_pos h3]
            have hl := at_lt h3 (by omega)
            have h := numR_in (k := k + 1) hl
            cases hR : numR s (k + 1) with
            | bad a => rw [hR] at h; exact h
            | ok n a =>
              rw [hR] at h
              exact ⟨by have := h.1; omega, h.2, by show 1 + szL [] ≤ _; simp only [szL]; have := h.1; omega⟩
          · rw [if_neg h3]
            by_cases h4 : Go.PlainAid.bt s k = 40
            · rw [if_pos h4]
              have hl := at_lt h4 (by omega)
              have h := operR_in (k := k + 1) hl
              cases hR : operR s (k + 1) with
              | bad a => rw [hR] at h; exact h
              | ok o a =>
                rw [hR] at h
                have h5 := ih.2 o a [] h.2
                show XRin s k (kidsF s f o a [])
                cases hK : kidsF s f o a [] with
                | bad b => rw [hK] at h5; exact h5
                | ok t b =>
                  rw [hK] at h5
                  have := h.1
                  simp only [szL] at h5
                  exact ⟨by omega, h5.2.1, by omega⟩
            · rw [if_neg h4]; exact hk
    · intro o k l hk
      rw [kidsF]
      by_cases h1 : Go.PlainAid.bt s k = 32
      · rw [if_pos h1]
        have hl := at_lt h1 (by omega)
        have h := ih.1 (k + 1) hl
        cases hR : exprF s f (k + 1) with
        | bad a => rw [hR] at h; exact h
        | ok t a =>
          rw [hR] at h
          have h5 := ih.2 o a (l ++ [t]) h.2.1
          show match kidsF s f o a (l ++ [t]) with | .bad a => a ≤ s.size | .ok t a => k < a ∧ a ≤ s.size ∧ t.sz + k ≤ szL l + a
          cases hK : kidsF s f o a (l ++ [t]) with
          | bad b => rw [hK] at h5; exact h5
          | ok u b =>
            rw [hK] at h5
            simp only [szL_sn] at h5
            obtain ⟨q1, q2, q3⟩ := h
            exact ⟨by omega, h5.2.1, by omega⟩
      · rw [if_neg h1]
        by_cases h2 : Go.PlainAid.bt s k = 41
        · rw [if_pos h2]
          have hl := at_lt h2 (by omega)
          refine ⟨by omega, hl, ?_⟩
          show 1 + szL l + k ≤ szL l + (k + 1)
          omega
        · rw [if_neg h2]; exact hk
end Go.Proofs.Ytipapemcedkinaa
