/- White space: skip and the specification's Blank of layer 29 (lexi), over the translation. -/
import Derived.Test.YtnmofkngengoeaaDoorFn1
namespace Go.Proofs.YtnmofkngengoeaaDoor
open Go.RowKit Go.PlainAid

def dashes : ByteArray := ⟨#[45, 45]⟩
/-- a comment begins at place i. -/
def ddQ (s : ByteArray) (i : Nat) : Bool := decide (i + 2 ≤ s.size) && (bt s i == 45) && (bt s (i + 1) == 45)
def blankL (s : ByteArray) : Nat → Nat → Nat
  | 0, i => i
  | n + 1, i => if s.size ≤ i then i else if ddQ s i then blankL s n (span rmkQ s i) else if blkQ (bt s i) then blankL s n (i + 1) else i
theorem rmk_gt {s : ByteArray} {i : Nat} (h : ddQ s i = true) : i < span rmkQ s i ∧ i < s.size := by
  unfold ddQ at h
  simp at h
  have h1 : i < s.size := by omega
  refine ⟨?_, h1⟩
  rw [span_step h1 (by rw [h.1.2]; rfl)]
  have := span_ge rmkQ s (i + 1)
  omega
theorem blankL_more (s : ByteArray) : ∀ n m i, s.size ≤ i + n → n ≤ m → blankL s m i = blankL s n i := by
  intro n
  induction n with
  | zero =>
    intro m i h _
    cases m with
    | zero => rfl
    | succ m =>
      show (if s.size ≤ i then i else _) = i
      rw [if_pos (by omega)]
  | succ n ih =>
    intro m i h hm
    obtain ⟨m, rfl⟩ : ∃ k, m = k + 1 := ⟨m - 1, by omega⟩
    rw [blankL, blankL]
    split
    · rfl
    · split
      · rename_i hd
        have := rmk_gt hd
        exact ih m _ (by omega) (by omega)
      · split
        · exact ih m _ (by omega) (by omega)
        · rfl
def blankS (s : ByteArray) (i : Nat) : Nat := blankL s (s.size - i) i
theorem blank_rem {s : ByteArray} {i : Nat} (h : ddQ s i = true) : blankS s i = blankS s (span rmkQ s i) := by
  have h1 := rmk_gt h
  unfold blankS
  obtain ⟨n, hn⟩ : ∃ n, s.size - i = n + 1 := ⟨s.size - i - 1, by omega⟩
  rw [hn, blankL, if_neg (by omega), if_pos h]
  exact blankL_more s _ _ _ (by omega) (by omega)
theorem blank_one {s : ByteArray} {i : Nat} (hi : i < s.size) (h : ddQ s i = false) (hb : blkQ (bt s i) = true) : blankS s i = blankS s (i + 1) := by
  unfold blankS
  obtain ⟨n, hn⟩ : ∃ n, s.size - i = n + 1 := ⟨s.size - i - 1, by omega⟩
  rw [hn, blankL, if_neg (by omega), if_neg (by simp [h]), if_pos hb]
  exact blankL_more s _ _ _ (by omega) (by omega)
theorem blank_stop {s : ByteArray} {i : Nat} (h : ddQ s i = false) (hb : blkQ (bt s i) = false) : blankS s i = i := by
  unfold blankS
  cases s.size - i with
  | zero => rfl
  | succ n =>
    rw [blankL]
    split
    · rfl
    · rw [if_neg (by simp [h]), if_neg (by simp [hb])]
theorem blank_end {s : ByteArray} {i : Nat} (h : s.size ≤ i) : blankS s i = i := by
  unfold blankS; rw [show s.size - i = 0 by omega]; rfl
theorem blk_dd {s : ByteArray} {i : Nat} (hb : blkQ (bt s i) = true) : ddQ s i = false := by
  unfold ddQ
  cases h : (bt s i == 45) with
  | false => simp
  | true =>
    have e : bt s i = 45 := by simpa using h
    rw [e] at hb
    exact absurd hb (by decide)
theorem blank_span {s : ByteArray} : ∀ n i, i + n = s.size → blankS s i = blankS s (span blkQ s i) := by
  intro n
  induction n with
  | zero => intro i h; rw [span_end (by omega)]
  | succ n ih =>
    intro i h
    cases hb : blkQ (bt s i) with
    | true => rw [span_step (by omega) hb, blank_one (by omega) (blk_dd hb) hb]; exact ih _ (by omega)
    | false => rw [span_stop hb]
theorem blank_le {s : ByteArray} : ∀ n i, i + n = s.size → i ≤ blankS s i ∧ blankS s i ≤ s.size := by
  intro n
  induction n using Nat.strongRecOn with
  | ind n ih =>
    intro i h
    rcases Nat.eq_zero_or_pos n with rfl | hn
    · rw [blank_end (by omega)]; omega
    · cases hd : ddQ s i with
      | true =>
        rw [blank_rem hd]
        have h1 := rmk_gt hd
        have h2 := span_le (p := rmkQ) (s := s) (i := i) (by omega)
        have := ih (s.size - span rmkQ s i) (by omega) (span rmkQ s i) (by omega)
        omega
      | false =>
        cases hb : blkQ (bt s i) with
        | true =>
          rw [blank_one (by omega) hd hb]
          have := ih (n - 1) (by omega) (i + 1) (by omega)
          omega
        | false => rw [blank_stop hd hb]; omega
/-- behind white space nothing of it begins. -/
theorem blank_at {s : ByteArray} : ∀ n i, i + n = s.size → s.size ≤ blankS s i ∨ (ddQ s (blankS s i) = false ∧ blkQ (bt s (blankS s i)) = false) := by
  intro n
  induction n using Nat.strongRecOn with
  | ind n ih =>
    intro i h
    rcases Nat.eq_zero_or_pos n with rfl | hn
    · rw [blank_end (by omega)]; exact .inl (by omega)
    · cases hd : ddQ s i with
      | true =>
        rw [blank_rem hd]
        have h1 := rmk_gt hd
        have h2 := span_le (p := rmkQ) (s := s) (i := i) (by omega)
        exact ih (s.size - span rmkQ s i) (by omega) (span rmkQ s i) (by omega)
      | false =>
        cases hb : blkQ (bt s i) with
        | true =>
          rw [blank_one (by omega) hd hb]
          exact ih (n - 1) (by omega) (i + 1) (by omega)
        | false => rw [blank_stop hd hb]; exact .inr ⟨hd, hb⟩
theorem toList_get (s : ByteArray) : s.toList = s.data.toList := ByteArray.toList_eq s
theorem eq_two (s : ByteArray) (a b : UInt8) : (s.toList = [a, b]) ↔ (s.size = 2 ∧ bt s 0 = a.toNat ∧ bt s 1 = b.toNat) := by
  rw [ByteArray.toList_eq]
  have btx : ∀ i (h : i < s.size), bt s i = ((s[i]'h).toNat : Int) := fun i h => by unfold bt; rw [dif_pos h]
  obtain ⟨⟨l⟩⟩ := s
  rcases l with _ | ⟨x, _ | ⟨y, _ | ⟨z, l⟩⟩⟩
  · constructor
    · intro h; cases h
    · rintro ⟨h, _⟩; cases h
  · constructor
    · intro h; cases h
    · rintro ⟨h, _⟩; cases h
  · have e0 := btx 0 (show 0 < 2 by omega)
    have e1 := btx 1 (show 1 < 2 by omega)
    have g0 : ((⟨⟨[x, y]⟩⟩ : ByteArray)[0]'(show 0 < 2 by omega)) = x := rfl
    have g1 : ((⟨⟨[x, y]⟩⟩ : ByteArray)[1]'(show 1 < 2 by omega)) = y := rfl
    rw [g0] at e0
    rw [g1] at e1
    rw [e0, e1]
    constructor
    · intro h; injection h with h1 h2; injection h2 with h2 _; subst h1 h2; exact ⟨rfl, rfl, rfl⟩
    · rintro ⟨_, h1, h2⟩
      have p1 : x = a := by apply UInt8.toNat_inj.1; omega
      have p2 : y = b := by apply UInt8.toNat_inj.1; omega
      rw [p1, p2]
  · constructor
    · intro h; injection h with _ h; injection h with _ h; cases h
    · rintro ⟨h, _⟩
      have : (⟨⟨x :: y :: z :: l⟩⟩ : ByteArray).size = l.length + 3 := rfl
      omega
theorem bt_part {s : ByteArray} {a b i : Nat} (h : a + i < b) (hb : b ≤ s.size) : bt (s.extract a b) i = bt s (a + i) := by
  unfold bt
  rw [dif_pos (by rw [ByteArray.size_extract]; omega), dif_pos (by omega)]
  simp [ByteArray.getElem_extract]
theorem dd_part {s : ByteArray} {i : Nat} (h : i + 2 ≤ s.size) : eqB (s.extract i (i + 2)) dashes = ddQ s i := by
  have h1 : (s.extract i (i + 2)).size = 2 := by rw [ByteArray.size_extract]; omega
  have e := eq_two (s.extract i (i + 2)) 45 45
  rw [bt_part (by omega) h, bt_part (by omega) h] at e
  have ed : dashes.toList = [45, 45] := by rw [ByteArray.toList_eq]; rfl
  unfold eqB ddQ
  rw [ed, Bool.eq_iff_iff]
  simp only [beq_iff_eq, Bool.and_eq_true, decide_eq_true_eq]
  rw [e]
  constructor
  · rintro ⟨_, h2, h3⟩; exact ⟨⟨h, h2⟩, h3⟩
  · rintro ⟨⟨_, h2⟩, h3⟩; exact ⟨h1, h2, h3⟩
theorem starts_dd {s : ByteArray} {i : Nat} (h : i ≤ s.size) : startsB (s.extract i s.size) dashes = ddQ s i := by
  have hd : dashes.size = 2 := rfl
  unfold startsB
  rw [hd, ByteArray.size_extract]
  by_cases h2 : i + 2 ≤ s.size
  · rw [ByteArray.extract_extract, ← dd_part h2]
    have e : decide (2 ≤ min s.size s.size - i) = true := by simp; omega
    rw [e]
    have e2 : min (i + 2) s.size = i + 2 := by omega
    first | rw [e2]; rfl | simp [e2]
  · have e : decide (2 ≤ min s.size s.size - i) = false := by simp; omega
    rw [e]
    unfold ddQ
    simp [h2]
end Go.Proofs.YtnmofkngengoeaaDoor
