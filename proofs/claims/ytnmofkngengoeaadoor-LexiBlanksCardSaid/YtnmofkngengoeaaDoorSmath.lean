/- What a token says of the string it stands in: its place, its text, and that Next brings it again there; and the same of all tokens. Layer 29 (lexi). -/
import Derived.Test.YtnmofkngengoeaaDoorFnc
namespace Go.Proofs.YtnmofkngengoeaaDoor
open Go.RowKit Go.PlainAid

theorem blank_idem {s : ByteArray} {i : Nat} (hi : i ≤ s.size) : blankS s (blankS s i) = blankS s i := by
  rcases blank_at (s := s) (s.size - i) i (by omega) with h | ⟨h1, h2⟩
  · exact blank_end h
  · exact blank_stop h1 h2
theorem next_blank {s : ByteArray} {i : Nat} (hi : i ≤ s.size) : nextS s (blankS s i) = nextS s i := by
  unfold nextS
  rw [blank_idem hi]
theorem ext_size {s : ByteArray} {a b : Nat} (h : a ≤ b) (h2 : b ≤ s.size) : (s.extract a b).size = b - a := by
  rw [ByteArray.size_extract]; omega
theorem eqB_eq {x y : ByteArray} (h : eqB x y = true) : x = y := by
  unfold eqB at h
  have h2 : x.toList = y.toList := by simpa using h
  rw [ByteArray.toList_eq, ByteArray.toList_eq] at h2
  cases x; cases y
  congr 1
  exact Array.toList_inj.1 h2
theorem starts_at {s y : ByteArray} {m : Nat} (h : startsAt s m y = true) : m + y.size ≤ s.size ∧ s.extract m (m + y.size) = y := by
  unfold startsAt at h
  rw [Bool.and_eq_true] at h
  exact ⟨by simpa using h.1, eqB_eq h.2⟩
theorem getD_sign {k : Nat} (h : k < 21) : 0 < (signs.getD k ByteArray.empty).size := by
  have e : ∀ j, j < 21 → 0 < (signs.getD j ByteArray.empty).size := by decide +kernel
  exact e k h
/-- What a token that is no end says. -/
theorem next_says {s : ByteArray} {i : Nat} (hi : i ≤ s.size) {k v : Int} {x : ByteArray} {a nx : Nat} (h : nextS s i = .ok k v x a nx) (hk : k ≠ 5) :
    a = blankS s i ∧ nx = a + x.size ∧ nx ≤ s.size ∧ s.extract a nx = x ∧ 0 < x.size := by
  have hbl := blank_le (s := s) (s.size - i) i (by omega)
  unfold nextS at h
  generalize blankS s i = m at *
  split at h
  · injection h with e1 e2 e3 e4 e5
    exact absurd e1.symm hk
  rename_i hend
  have hm : m < s.size := by omega
  split at h
  · rename_i hl
    have hp : namQ (bt s m) = true := by unfold namQ; rw [hl]; rfl
    have g1 := span_pos hm hp
    have g2 := span_le (p := namQ) (s := s) (i := m) (by omega)
    have g3 := ext_size (Nat.le_of_lt g1) g2
    split at h
    · injection h with e1 e2 e3 e4 e5
      subst e3 e4 e5
      exact ⟨rfl, by omega, g2, rfl, by omega⟩
    · split at h
      · cases h
      · injection h with e1 e2 e3 e4 e5
        subst e3 e4 e5
        exact ⟨rfl, by omega, g2, rfl, by omega⟩
  · split at h
    · rename_i hd
      have g1 := span_pos hm hd
      have g2 := span_le (p := digQ) (s := s) (i := m) (by omega)
      have g3 := ext_size (Nat.le_of_lt g1) g2
      split at h
      · cases h
      · split at h
        · cases h
        · injection h with e1 e2 e3 e4 e5
          subst e3 e4 e5
          exact ⟨rfl, by omega, g2, rfl, by omega⟩
    · unfold sgnR at h
      cases hs : sgnS s m with
      | none => rw [hs] at h; cases h
      | some j =>
        rw [hs] at h
        obtain ⟨h1, h2⟩ := sgn_lt hs
        obtain ⟨h3, h4⟩ := starts_at h2
        injection h with e1 e2 e3 e4 e5
        subst e3 e4 e5
        exact ⟨rfl, rfl, h3, h4, getD_sign h1⟩
theorem next_end {s : ByteArray} {i : Nat} (hi : i ≤ s.size) {v : Int} {x : ByteArray} {a nx : Nat} (h : nextS s i = .ok 5 v x a nx) : blankS s i = s.size := by
  have hbl := blank_le (s := s) (s.size - i) i (by omega)
  unfold nextS at h
  generalize blankS s i = m at *
  split at h
  · omega
  split at h
  · split at h
    · injection h with e1; exact absurd e1 (by decide)
    · split at h
      · cases h
      · injection h with e1; exact absurd e1 (by decide)
  · split at h
    · split at h
      · cases h
      · split at h
        · cases h
        · injection h with e1; exact absurd e1 (by decide)
    · unfold sgnR at h
      cases hs : sgnS s m with
      | none => rw [hs] at h; cases h
      | some j => rw [hs] at h; injection h with e1; exact absurd e1 (by decide)
/-- Where the k-th token's predecessor ends. -/
def posT (l : List Tk) : Nat → Nat
  | 0 => 0
  | k + 1 => (tkAt l k).2.2.2 + (tkAt l k).2.2.1.size
theorem tkAt_app {l : List Tk} {t : Tk} {k : Nat} (h : k < l.length) : tkAt (l ++ [t]) k = tkAt l k := by
  unfold tkAt
  rw [List.getD_eq_getElem?_getD, List.getD_eq_getElem?_getD, List.getElem?_append_left h]
theorem tkAt_last (l : List Tk) (t : Tk) : tkAt (l ++ [t]) l.length = t := by
  unfold tkAt
  rw [List.getD_eq_getElem?_getD]; simp
theorem posT_app {l : List Tk} {t : Tk} {k : Nat} (h : k ≤ l.length) : posT (l ++ [t]) k = posT l k := by
  cases k with
  | zero => rfl
  | succ k =>
    show (tkAt (l ++ [t]) k).2.2.2 + (tkAt (l ++ [t]) k).2.2.1.size = (tkAt l k).2.2.2 + (tkAt l k).2.2.1.size
    rw [tkAt_app h]
/-- The tokens l lie in s one behind the other, up to place i. -/
def Ch (s : ByteArray) (l : List Tk) (i : Nat) : Prop :=
  posT l l.length = i ∧ ∀ k, k < l.length → posT l k ≤ s.size ∧ nextS s (posT l k) = .ok (tkAt l k).1 (tkAt l k).2.1 (tkAt l k).2.2.1 (tkAt l k).2.2.2 (posT l (k + 1)) ∧ (tkAt l k).1 ≠ 5
theorem all_chain (s : ByteArray) : ∀ n i acc l, allL s n i acc = .ok l → i ≤ s.size → Ch s acc i → ∃ e, Ch s l e ∧ e ≤ s.size ∧ blankS s e = s.size := by
  intro n
  induction n with
  | zero => intro i acc l h; cases h
  | succ n ih =>
    intro i acc l h hi hc
    unfold allL at h
    cases hn : nextS s i with
    | er a c => rw [hn] at h; cases h
    | ok k v x a nx =>
      rw [hn] at h
      by_cases h5 : k = 5
      · have h' : Ra.ok acc = .ok l := by simpa only [h5, if_true] using h
        injection h' with e
        subst e h5
        exact ⟨i, hc, hi, next_end hi hn⟩
      · have h' : allL s n nx (acc ++ [(k, v, x, a)]) = .ok l := by simpa only [h5, if_false] using h
        obtain ⟨g1, g2, g3, g4, g5⟩ := next_says hi hn h5
        refine ih nx _ l h' g3 ⟨?_, fun j hj => ?_⟩
        · rw [List.length_append]
          show (tkAt (acc ++ [(k, v, x, a)]) acc.length).2.2.2 + (tkAt (acc ++ [(k, v, x, a)]) acc.length).2.2.1.size = nx
          rw [tkAt_last]; exact g2.symm
        · rw [List.length_append] at hj
          have hj' : j < acc.length + 1 := hj
          by_cases hjl : j < acc.length
          · obtain ⟨c1, c2, c3⟩ := hc.2 j hjl
            rw [posT_app (by omega), posT_app (by omega), tkAt_app hjl]
            exact ⟨c1, c2, c3⟩
          · obtain rfl : j = acc.length := by omega
            rw [posT_app (Nat.le_refl _), hc.1]
            have e : posT (acc ++ [(k, v, x, a)]) (acc.length + 1) = nx := by
              show (tkAt (acc ++ [(k, v, x, a)]) acc.length).2.2.2 + (tkAt (acc ++ [(k, v, x, a)]) acc.length).2.2.1.size = nx
              rw [tkAt_last]; exact g2.symm
            rw [e, tkAt_last]
            exact ⟨hi, hn, h5⟩
/-- What the tokens of All say, one by one. -/
theorem all_says {s : ByteArray} {l : List Tk} (h : allS s = .ok l) : blankS s (posT l l.length) = s.size ∧ ∀ k, k < l.length →
    (tkAt l k).2.2.2 = blankS s (posT l k) ∧ posT l k ≤ s.size ∧ posT l (k + 1) = (tkAt l k).2.2.2 + (tkAt l k).2.2.1.size ∧ posT l (k + 1) ≤ s.size ∧ s.extract (tkAt l k).2.2.2 (posT l (k + 1)) = (tkAt l k).2.2.1 ∧ 0 < (tkAt l k).2.2.1.size ∧
    nextS s (tkAt l k).2.2.2 = .ok (tkAt l k).1 (tkAt l k).2.1 (tkAt l k).2.2.1 (tkAt l k).2.2.2 (posT l (k + 1)) := by
  unfold allS at h
  split at h
  · cases h
  · obtain ⟨e, ⟨c1, c2⟩, c3, c4⟩ := all_chain s _ 0 [] l h (Nat.zero_le _) ⟨rfl, fun k hk => absurd hk (Nat.not_lt_zero _)⟩
    refine ⟨by rw [c1]; exact c4, fun k hk => ?_⟩
    obtain ⟨d1, d2, d3⟩ := c2 k hk
    obtain ⟨g1, g2, g3, g4, g5⟩ := next_says d1 d2 d3
    refine ⟨g1, d1, g2, g3, g4, g5, ?_⟩
    rw [g1, next_blank d1, ← g1]; exact d2
end Go.Proofs.YtnmofkngengoeaaDoor
