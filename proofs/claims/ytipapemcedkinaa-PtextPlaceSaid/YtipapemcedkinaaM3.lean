/- A parse depends on the bytes up to its end, or its fault, alone; layer 7 (ptext). -/
import Derived.Test.YtipapemcedkinaaM2
namespace Go.Proofs.Ytipapemcedkinaa
open Go.RowKit Go.PlainAid

/-- s' has the bytes of s ahead of p, and at p that of s or none. -/
def Ag (s s' : ByteArray) (p : Nat) : Prop := (∀ i, i < p → Go.PlainAid.bt s' i = Go.PlainAid.bt s i) ∧ (Go.PlainAid.bt s' p = Go.PlainAid.bt s p ∨ Go.PlainAid.bt s' p = 0)
theorem Ag.le {s s' : ByteArray} {p q : Nat} (h : Ag s s' p) (hq : q ≤ p) : Ag s s' q := ⟨fun i hi => h.1 i (by omega), by
  rcases Nat.lt_or_ge q p with h1 | h1
  · exact .inl (h.1 q h1)
  · obtain rfl : q = p := by omega
    exact h.2⟩
theorem Ag.ne {s s' : ByteArray} {p : Nat} (h : Ag s s' p) {c : Int} (hc : c ≠ 0) (hb : Go.PlainAid.bt s p ≠ c) : Go.PlainAid.bt s' p ≠ c := by
  rcases h.2 with e | e
  · rw [e]; exact hb
  · rw [e]; exact fun x => hc x.symm
theorem Ag.ndig {s s' : ByteArray} {p : Nat} (h : Ag s s' p) (hb : ¬ dig s p) : ¬ dig s' p := by
  show ¬ (48 ≤ Go.PlainAid.bt s' p ∧ Go.PlainAid.bt s' p ≤ 57)
  have hb' : ¬ (48 ≤ Go.PlainAid.bt s p ∧ Go.PlainAid.bt s p ≤ 57) := hb
  rcases h.2 with e | e <;> rw [e]
  · exact hb'
  · omega
theorem wordL_ge (s : ByteArray) : ∀ (L : List Int) (k : Nat), k ≤ (wordL s L k).1
  | [], k => Nat.le_refl _
  | c :: r, k => by
    rw [wordL]
    split
    · have := wordL_ge s r (k + 1); omega
    · exact Nat.le_refl _
theorem wordL_ag {s s' : ByteArray} : ∀ (L : List Int) (k : Nat), (∀ c ∈ L, c ≠ 0) → Ag s s' (wordL s L k).1 → wordL s' L k = wordL s L k
  | [], k, _, _ => rfl
  | c :: r, k, hL, h => by
    have h0 := wordL_ge s r (k + 1)
    rw [wordL] at h ⊢
    by_cases hc : Go.PlainAid.bt s k = c
    · rw [if_pos hc] at h
      rw [if_pos (by rw [h.1 k (by omega)]; exact hc), wordL_ag r (k + 1) (fun x hx => hL x (List.mem_cons_of_mem _ hx)) h, wordL, if_pos hc]
    · rw [if_neg hc] at h
      rw [if_neg (h.ne (hL c (List.mem_cons_self ..)) hc), wordL, if_neg hc]
def NR.pl : NR → Nat | .bad a => a | .ok _ a => a
def XR.pl : XR → Nat | .bad a => a | .ok _ a => a
theorem nrun_stop {s : ByteArray} : ∀ (r k : Nat), nrun s k r < r → ¬ dig s (k + nrun s k r)
  | 0, k, h => by omega
  | r + 1, k, h => by
    rw [nrun] at h ⊢
    by_cases hd : dig s k
    · rw [if_pos hd] at h ⊢
      have := nrun_stop (s := s) r (k + 1) (by omega)
      rwa [show k + (nrun s (k + 1) r + 1) = k + 1 + nrun s (k + 1) r by omega]
    · rw [if_neg hd]
      exact hd
theorem nval_ag {s s' : ByteArray} {k : Nat} : ∀ j, (∀ i, i < j → Go.PlainAid.bt s' (k + i) = Go.PlainAid.bt s (k + i)) → nval s' k j = nval s k j
  | 0, _ => rfl
  | j + 1, h => by
    show nval s' k j * 10 + (Go.PlainAid.bt s' (k + j) - 48) = nval s k j * 10 + (Go.PlainAid.bt s (k + j) - 48)
    rw [nval_ag j (fun i hi => h i (by omega)), h j (by omega)]
theorem nlen_ag {s s' : ByteArray} {k : Nat} (h : Ag s s' (k + nlen s k)) : nlen s' k = nlen s k := by
  unfold nlen at h ⊢
  by_cases h0 : Go.PlainAid.bt s k = 48
  · rw [if_pos h0] at h ⊢
    rw [if_pos (by rw [h.1 k (by omega)]; exact h0)]
  · rw [if_neg h0] at h ⊢
    have h1 : Go.PlainAid.bt s' k ≠ 48 := (h.le (by omega)).ne (by omega) h0
    rw [if_neg h1]
    refine nrun_is 4 _ k (fun i hi => ?_) (fun hl => h.ndig (nrun_stop 4 k hl)) (nrun_le s 4 k)
    have := nrun_dig s 4 k i hi
    show 48 ≤ Go.PlainAid.bt s' (k + i) ∧ Go.PlainAid.bt s' (k + i) ≤ 57
    rw [h.1 (k + i) (by omega)]
    exact this
theorem numR_pl (s : ByteArray) (k : Nat) : (numR s k).pl = k + nlen s k := by
  unfold numR
  split
  · rename_i h; show k = _; omega
  · rfl
theorem numR_ag {s s' : ByteArray} {k : Nat} (h : Ag s s' (numR s k).pl) : numR s' k = numR s k := by
  rw [numR_pl] at h
  unfold numR
  rw [nlen_ag h, nval_ag _ (fun i hi => h.1 (k + i) (by omega))]
theorem operR_ge (s : ByteArray) (k : Nat) : k ≤ (operR s k).pl := by
  unfold operR
  split
  · exact Nat.le_refl _
  · show k ≤ k + 1; omega
theorem operR_ag {s s' : ByteArray} {k : Nat} (h : Ag s s' (operR s k).pl) : operR s' k = operR s k := by
  unfold operR at h ⊢
  by_cases h0 : opF (Go.PlainAid.bt s k) = 0
  · rw [if_pos h0] at h
    have h2 : opF (Go.PlainAid.bt s' k) = 0 := by
      rcases h.2 with e | e
      · have e' : Go.PlainAid.bt s' k = Go.PlainAid.bt s k := e
        rw [e']; exact h0
      · have e' : Go.PlainAid.bt s' k = 0 := e
        rw [e']; rfl
    rw [if_pos h2, if_pos h0]
  · rw [if_neg h0] at h
    have e : Go.PlainAid.bt s' k = Go.PlainAid.bt s k := h.1 k (by show k < k + 1; omega)
    rw [e]
theorem ofWord_pl (t : Ex) (R : Nat × Bool) : (ofWord t R).pl = R.1 := by unfold ofWord; split <;> rfl
theorem ofNum_pl (R : NR) : (ofNum R).pl = R.pl := by cases R <;> rfl
theorem xr_ge (s : ByteArray) : ∀ f, (∀ k, k ≤ (exprF s f k).pl) ∧ (∀ o k l, k ≤ (kidsF s f o k l).pl) := by
  intro f
  induction f with
  | zero =>
    refine ⟨fun k => ?_, fun o k l => ?_⟩
    · rw [exprF]; exact Nat.le_refl _
    · rw [kidsF]; exact Nat.le_refl _
  | succ f ih =>
    refine ⟨fun k => ?_, fun o k l => ?_⟩
    · rw [exprF]
      split
      · rw [ofWord_pl]; exact wordL_ge s _ k
      · split
        · rw [ofWord_pl]; exact wordL_ge s _ k
        · split
          · rw [ofNum_pl, numR_pl]; omega
          · split
            · have h1 := operR_ge s (k + 1)
              cases hR : operR s (k + 1) with
              | bad a => rw [hR] at h1; show k ≤ a; have : k + 1 ≤ a := h1; omega
              | ok o a => rw [hR] at h1; have h2 := ih.2 o a []; have : k + 1 ≤ a := h1; show k ≤ (kidsF s f o a []).pl; omega
            · exact Nat.le_refl _
    · rw [kidsF]
      split
      · have h1 := ih.1 (k + 1)
        cases hX : exprF s f (k + 1) with
        | bad a => rw [hX] at h1; show k ≤ a; have : k + 1 ≤ a := h1; omega
        | ok t a => rw [hX] at h1; have h2 := ih.2 o a (l ++ [t]); have : k + 1 ≤ a := h1; show k ≤ (kidsF s f o a (l ++ [t])).pl; omega
      · split
        · show k ≤ k + 1; omega
        · exact Nat.le_refl _
theorem xr_ag {s s' : ByteArray} : ∀ f, (∀ f' k, k ≤ s.size → 2 * (s.size - k) + 2 ≤ f → 2 * (s'.size - k) + 2 ≤ f' → Ag s s' (exprF s f k).pl → exprF s' f' k = exprF s f k) ∧
    (∀ f' o k l, k ≤ s.size → 2 * (s.size - k) + 1 ≤ f → 2 * (s'.size - k) + 1 ≤ f' → Ag s s' (kidsF s f o k l).pl → kidsF s' f' o k l = kidsF s f o k l) := by
  intro f
  induction f with
  | zero => exact ⟨fun f' k _ h => by omega, fun f' o k l _ h => by omega⟩
  | succ f ih =>
    constructor
    · intro f' k hk hf hf' h
      cases f' with
      | zero => omega
      | succ f' =>
        have hge := (xr_ge s (f + 1)).1 k
        have hk0 := h.le hge
        rw [exprF] at h
        rw [exprF, exprF]
        by_cases h1 : Go.PlainAid.bt s k = 116
        · rw [if_pos h1] at h ⊢
          rw [ofWord_pl] at h
          have hw := wordL_ag _ _ (by simp) h
          have hb : Go.PlainAid.bt s' k = 116 := by
            have hs : wordL s [116, 114, 117, 101] k = wordL s [114, 117, 101] (k + 1) := by rw [wordL, if_pos h1]
            have := wordL_ge s [114, 117, 101] (k + 1)
            rw [h.1 k (by rw [hs]; omega)]; exact h1
          rw [if_pos hb, hw]
        · rw [if_neg h1] at h ⊢
          rw [if_neg (hk0.ne (by omega) h1)]
          by_cases h2 : Go.PlainAid.bt s k = 102
          · rw [if_pos h2] at h ⊢
            rw [ofWord_pl] at h
            have hw := wordL_ag _ _ (by simp) h
            have hb : Go.PlainAid.bt s' k = 102 := by
              have hs : wordL s [102, 97, 108, 115, 101] k = wordL s [97, 108, 115, 101] (k + 1) := by rw [wordL, if_pos h2]
              have := wordL_ge s [97, 108, 115, 101] (k + 1)
              rw [h.1 k (by rw [hs]; omega)]; exact h2
            rw [if_pos hb, hw]
          · rw [if_neg h2] at h ⊢
            rw [if_neg (hk0.ne (by omega) h2)]
            by_cases h3 : Go.PlainAid.bt s k = 118
            · rw [if_pos h3] at h ⊢
              rw [ofNum_pl] at h
              have hb : Go.PlainAid.bt s' k = 118 := by rw [h.1 k (by rw [numR_pl]; omega)]; exact h3
              rw [if_pos hb, numR_ag h]
            · rw [if_neg h3] at h ⊢
              rw [if_neg (hk0.ne (by omega) h3)]
              by_cases h4 : Go.PlainAid.bt s k = 40
              · rw [if_pos h4] at h ⊢
                have hl := at_lt h4 (by omega)
                have hop := operR_ge s (k + 1)
                have hin := operR_in (k := k + 1) hl
                have hbo : ∀ a, operR s (k + 1) = .bad a → Ag s s' a := fun a e => by rw [e] at h; exact h
                have hko : ∀ o a, operR s (k + 1) = .ok o a → Ag s s' (kidsF s f o a []).pl := fun o a e => by rw [e] at h; exact h
                cases hR : operR s (k + 1) with
                | bad a =>
                  have hA := hbo a hR
                  rw [hR] at hop
                  have hop' : k + 1 ≤ a := hop
                  have hb : Go.PlainAid.bt s' k = 40 := by rw [hA.1 k (by omega)]; exact h4
                  rw [if_pos hb, operR_ag (by rw [hR]; exact hA), hR]
                | ok o a =>
                  have hA := hko o a hR
                  rw [hR] at hop hin
                  have hop' : k + 1 ≤ a := hop
                  have hg := (xr_ge s f).2 o a []
                  have hA2 := hA.le hg
                  have hb : Go.PlainAid.bt s' k = 40 := by rw [hA.1 k (by omega)]; exact h4
                  have hl' := at_lt hb (by omega)
                  rw [if_pos hb, operR_ag (by rw [hR]; exact hA2), hR]
                  show kidsF s' f' o a [] = kidsF s f o a []
                  exact ih.2 f' o a [] hin.2 (by have := hin.1; omega) (by have := hin.1; omega) hA
              · rw [if_neg h4, if_neg (hk0.ne (by omega) h4)]
    · intro f' o k l hk hf hf' h
      cases f' with
      | zero => omega
      | succ f' =>
        have hge := (xr_ge s (f + 1)).2 o k l
        have hk0 := h.le hge
        rw [kidsF] at h
        rw [kidsF, kidsF]
        by_cases h1 : Go.PlainAid.bt s k = 32
        · rw [if_pos h1] at h ⊢
          have hl := at_lt h1 (by omega)
          have hin := (xr_in s f).1 (k + 1) hl
          have hx := (xr_ge s f).1 (k + 1)
          have hbo : ∀ a, exprF s f (k + 1) = .bad a → Ag s s' a := fun a e => by rw [e] at h; exact h
          have hko : ∀ t a, exprF s f (k + 1) = .ok t a → Ag s s' (kidsF s f o a (l ++ [t])).pl := fun t a e => by rw [e] at h; exact h
          cases hX : exprF s f (k + 1) with
          | bad a =>
            have hA := hbo a hX
            rw [hX] at hx
            have hx' : k + 1 ≤ a := hx
            have hb : Go.PlainAid.bt s' k = 32 := by rw [hA.1 k (by omega)]; exact h1
            have hl' := at_lt hb (by omega)
            rw [if_pos hb, ih.1 f' (k + 1) hl (by omega) (by omega) (by rw [hX]; exact hA), hX]
          | ok t a =>
            have hA := hko t a hX
            rw [hX] at hx hin
            have hx' : k + 1 ≤ a := hx
            have hg := (xr_ge s f).2 o a (l ++ [t])
            have hA2 := hA.le hg
            have hb : Go.PlainAid.bt s' k = 32 := by rw [hA.1 k (by omega)]; exact h1
            have hl' := at_lt hb (by omega)
            rw [if_pos hb, ih.1 f' (k + 1) hl (by omega) (by omega) (by rw [hX]; exact hA2), hX]
            show kidsF s' f' o a (l ++ [t]) = kidsF s f o a (l ++ [t])
            exact ih.2 f' o a (l ++ [t]) hin.2.1 (by omega) (by omega) hA
        · rw [if_neg h1] at h ⊢
          rw [if_neg (hk0.ne (by omega) h1)]
          by_cases h2 : Go.PlainAid.bt s k = 41
          · rw [if_pos h2] at h ⊢
            have hb : Go.PlainAid.bt s' k = 41 := by rw [h.1 k (by show k < k + 1; omega)]; exact h2
            rw [if_pos hb]
          · rw [if_neg h2, if_neg (hk0.ne (by omega) h2)]
/-- What Parse answers of a text with a fault at a, of any text that goes on otherwise behind it, and of what is ahead of it. -/
theorem place_same {s s1 s2 : ByteArray} {a : Nat} (hs : s.size ≤ 65536) (h1s : s1.size ≤ 65536) (he : (parsR s).2.2 = 3) (hp : (parsR s).2.1 = (a : Int)) (ha : 0 < a) (hlt : a < s.size) (h1 : ∀ i, i ≤ a → Go.PlainAid.bt s1 i = Go.PlainAid.bt s i) (h1l : a < s1.size) (h2 : ∀ i, i < a → Go.PlainAid.bt s2 i = Go.PlainAid.bt s i) (h2l : s2.size = a) :
    (parsR s1).2 = ((a : Int), 3) ∧ ((parsR s2).2.2 ≠ 3 ∨ (parsR s2).2.1 = (a : Int) ∨ (parsR s2).2.1 = 0) := by
  have hX : ∃ X : XR, exprF s (2 * s.size + 2) 0 = X ∧ X.pl = a ∧ (∀ s' : ByteArray, Ag s s' a → exprF s' (2 * s'.size + 2) 0 = X) := by
    unfold parsR at he hp
    rw [if_neg (by omega)] at he hp
    cases hX : exprF s (2 * s.size + 2) 0 with
    | bad b =>
      rw [hX] at he hp
      have hb : (b : Int) = (a : Int) := hp
      obtain rfl : b = a := by omega
      exact ⟨.bad b, rfl, rfl, fun s' hA => by rw [(xr_ag (s := s) (s' := s') (2 * s.size + 2)).1 (2 * s'.size + 2) 0 (Nat.zero_le _) (by omega) (by omega) (by rw [hX]; exact hA), hX]⟩
    | ok t b =>
      rw [hX] at he hp
      have hp' : (if b < s.size then (ex0, (b : Int), (3 : Int)) else if chkE t = 0 then (t, (s.size : Int), 0) else (ex0, 0, chkE t)).2.1 = (a : Int) := hp
      have he' : (if b < s.size then (ex0, (b : Int), (3 : Int)) else if chkE t = 0 then (t, (s.size : Int), 0) else (ex0, 0, chkE t)).2.2 = 3 := he
      by_cases hb : b < s.size
      · rw [if_pos hb] at hp'
        have hb2 : (b : Int) = (a : Int) := hp'
        obtain rfl : b = a := by omega
        exact ⟨.ok t b, rfl, rfl, fun s' hA => by rw [(xr_ag (s := s) (s' := s') (2 * s.size + 2)).1 (2 * s'.size + 2) 0 (Nat.zero_le _) (by omega) (by omega) (by rw [hX]; exact hA), hX]⟩
      · rw [if_neg hb] at hp' he'
        by_cases hc : chkE t = 0
        · rw [if_pos hc] at he'; exact absurd (show (0 : Int) = 3 from he') (by decide)
        · rw [if_neg hc] at hp'
          have : (0 : Int) = (a : Int) := hp'
          omega
  obtain ⟨X, hX0, hpl, hall⟩ := hX
  have e1 := hall s1 ⟨fun i hi => h1 i (by omega), .inl (h1 a (Nat.le_refl _))⟩
  have e2 := hall s2 ⟨h2, .inr (bt_end s2 (by omega))⟩
  unfold parsR
  rw [if_neg (by omega), if_neg (by omega), e1, e2]
  cases X with
  | bad b =>
    obtain rfl : b = a := hpl
    exact ⟨rfl, .inr (.inl rfl)⟩
  | ok t b =>
    obtain rfl : b = a := hpl
    constructor
    · show (if b < s1.size then (ex0, (b : Int), (3 : Int)) else _).2 = _
      rw [if_pos h1l]
    · show (if b < s2.size then (ex0, (b : Int), (3 : Int)) else if chkE t = 0 then (t, (s2.size : Int), 0) else (ex0, 0, chkE t)).2.2 ≠ 3 ∨ _ ∨ (if b < s2.size then (ex0, (b : Int), (3 : Int)) else if chkE t = 0 then (t, (s2.size : Int), 0) else (ex0, 0, chkE t)).2.1 = 0
      rw [if_neg (by omega)]
      by_cases hc : chkE t = 0
      · rw [if_pos hc]; exact .inl (by show (0 : Int) ≠ 3; omega)
      · rw [if_neg hc]; exact .inr (.inr rfl)
end Go.Proofs.Ytipapemcedkinaa
