/- All tokens; contracts of All of layer 29 (lexi) and of its specification, over the translation. -/
import Derived.Test.YtnmofkngengoeaaDoorFn7
namespace Go.Proofs.YtnmofkngengoeaaDoor
open Go.RowKit Go.PlainAid

/-- A token: kind, value, text, place. -/
abbrev Tk := Int × Int × ByteArray × Nat
def tkV (t : Tk) : Value := tokV t.1 t.2.1 t.2.2.1 (t.2.2.2 : Int)
def tkCells (t : Tk) : List Value := [.int .i64 t.1, .int .i64 t.2.1, .string t.2.2.1, .int .i64 (t.2.2.2 : Int)]
inductive Ra where
  | ok (l : List Tk)
  | er (a : Nat) (c : Int)
/-- The tokens from place i on, behind those of acc. -/
def allL (s : ByteArray) : Nat → Nat → List Tk → Ra
  | 0, i, _ => .er i 99
  | n + 1, i, acc => match nextS s i with
    | .er a c => .er a c
    | .ok k v x a nx => if k = 5 then .ok acc else allL s n nx (acc ++ [(k, v, x, a)])
def allS (s : ByteArray) : Ra := if 65536 < s.size then .er 0 4 else allL s (s.size + 1) 0 []
theorem span_pos {p : Int → Bool} {s : ByteArray} {i : Nat} (h : i < s.size) (hp : p (bt s i) = true) : i < span p s i := by
  rw [span_step h hp]
  have := span_ge p s (i + 1)
  omega
theorem signs_pos : ∀ y ∈ signs, 0 < y.size := by decide +kernel
theorem sgn_lt {s : ByteArray} {m k : Nat} (h : sgnS s m = some k) : k < 21 ∧ startsAt s m (signs.getD k ByteArray.empty) = true := by
  unfold sgnS at h
  have h1 := List.find?_some h
  have h2 := List.mem_of_find?_eq_some h
  rw [List.mem_range] at h2
  exact ⟨h2, h1⟩
/-- What a token that is no end brings: it goes on, and stays in the string. -/
theorem next_more {s : ByteArray} {i : Nat} (hi : i ≤ s.size) {k v : Int} {x : ByteArray} {a nx : Nat} (h : nextS s i = .ok k v x a nx) : nx ≤ s.size ∧ (k ≠ 5 → i < nx) := by
  have hbl := blank_le (s := s) (s.size - i) i (by omega)
  unfold nextS at h
  generalize blankS s i = m at *
  split at h
  · injection h with e1 e2 e3 e4 e5
    subst e1 e5
    exact ⟨hbl.2, fun h => absurd rfl h⟩
  · rename_i hend
    have hml : m < s.size := by omega
    split at h
    · rename_i hl
      have h1 := span_pos (p := namQ) hml (by unfold namQ; rw [hl]; rfl)
      have h2 := span_le (p := namQ) (s := s) (i := m) (by omega)
      split at h
      · injection h with e1 e2 e3 e4 e5
        subst e5
        exact ⟨h2, fun _ => by omega⟩
      · split at h
        · cases h
        · injection h with e1 e2 e3 e4 e5
          subst e5
          exact ⟨h2, fun _ => by omega⟩
    · split at h
      · rename_i hd
        have h1 := span_pos (p := digQ) hml hd
        have h2 := span_le (p := digQ) (s := s) (i := m) (by omega)
        split at h
        · cases h
        · split at h
          · cases h
          · injection h with e1 e2 e3 e4 e5
            subst e5
            exact ⟨h2, fun _ => by omega⟩
      · unfold sgnR at h
        cases hs : sgnS s m with
        | none => rw [hs] at h; cases h
        | some j =>
          rw [hs] at h
          injection h with e1 e2 e3 e4 e5
          obtain ⟨hj, hst⟩ := sgn_lt hs
          have hp : 0 < (signs.getD j ByteArray.empty).size := by
            rw [List.getD_eq_getElem?_getD, List.getElem?_eq_getElem (show j < signs.length by rw [signs_len]; exact hj)]
            exact signs_pos _ (List.getElem_mem _)
          unfold startsAt at hst
          simp at hst
          subst e5
          exact ⟨by have := hst.1; simp only [List.getD_eq_getElem?_getD] at this ⊢; omega, fun _ => by omega⟩
theorem next_er {s : ByteArray} {i : Nat} {a : Nat} {c : Int} (h : nextS s i = .er a c) : c ≠ 0 := by
  unfold nextS at h
  split at h
  · cases h
  · split at h
    · split at h
      · cases h
      · split at h
        · injection h with _ e; omega
        · cases h
    · split at h
      · split at h
        · injection h with _ e; omega
        · split at h
          · injection h with _ e; omega
          · cases h
      · unfold sgnR at h
        cases hs : sgnS s (blankS s i) with
        | none => rw [hs] at h; injection h with _ e; omega
        | some j => rw [hs] at h; cases h
/-- The row at v: tokens of the call's own. -/
def OwnK (w : World) (base : Nat) (t : TypeId) (v : Value) (l : List Tk) : Prop := w.ownsRow base t 4 v l.length (l.flatMap tkCells)
theorem OwnK.block {w : World} {base : Nat} {t : TypeId} {v : Value} {l : List Tk} (h : OwnK w base t v l) (k : Nat) (e : v.ownBlock = some k) : base ≤ k := by
  rcases h.2 with ⟨rfl, _⟩ | ⟨g, cap, cur, rfl, hg, _⟩
  · simp [Value.ownBlock] at e
  · simp [Value.ownBlock] at e; omega
theorem OwnK.nil (w : World) (B : Nat) (t : TypeId) : OwnK w B t (.slice none 0 0) [] := ⟨rfl, .inl ⟨rfl, rfl⟩⟩
theorem OwnK.push {w : World} {base : Nat} {t : TypeId} {v : Value} {l : List Tk} {b : Tk} (h : w.ownsRow base t 4 v (l.length + 1) (l.flatMap tkCells ++ tkCells b)) : OwnK w base t v (l ++ [b]) := by
  unfold OwnK; simpa using h
theorem OwnK.grow2 {w wr w1 : World} {B : Nat} {t : TypeId} {v : Value} {l : List Tk} {o : Obj} (hO : OwnK wr B t v l) (hb : Below B w wr) (hB : B ≤ wr.heap.size) (hg : (wr.alloc o).grownBy w1 v.ownBlock) : Below B w w1 :=
  (hb.alloc hB _).grown hg (by simp; omega) (fun k e => hO.block k e)
theorem OwnK.keep {w w' : World} {base : Nat} {t : TypeId} {v : Value} {l : List Tk} (h : OwnK w base t v l) (hb : Below w.heap.size w w') : OwnK w' base t v l := by
  obtain ⟨h1, h2⟩ := h
  refine ⟨h1, ?_⟩
  rcases h2 with h2 | ⟨g, cap, cur, e, hg, hh, r⟩
  · exact .inl h2
  · have hlt : g < w.heap.size := by
      rcases Nat.lt_or_ge g w.heap.size with q | q
      · exact q
      · rw [Array.getElem?_eq_none q] at hh; cases hh
    exact .inr ⟨g, cap, cur, e, hg, (hb.block g hlt).trans hh, r⟩
theorem OwnK.slice {w : World} {base : Nat} {t : TypeId} {v : Value} {l : List Tk} (h : OwnK w base t v l) : ∃ A c, v = .slice A l.length c := by
  rcases h.2 with ⟨rfl, h0⟩ | ⟨g, cap, cur, rfl, _⟩
  · exact ⟨none, 0, by rw [h0]⟩
  · exact ⟨_, _, rfl⟩
theorem info24 : (Tryd.prog.info? 24).map (fun i => (i.zero, i.size, i.bytes)) = some (some (.agg #[.int .i64 0, .int .i64 0, .string { data := #[] }, .int .i64 0]), 4, 40) := by kernel_rfl
theorem info28 : (Tryd.prog.info? 28).map (fun i => (i.zero, i.size, i.bytes)) = some (some (.agg #[.int .i64 0, .int .i64 0, .string { data := #[] }, .int .i64 0]), 4, 40) := by kernel_rfl
end Go.Proofs.YtnmofkngengoeaaDoor
