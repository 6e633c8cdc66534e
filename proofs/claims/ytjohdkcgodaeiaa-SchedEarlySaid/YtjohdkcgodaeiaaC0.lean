/- What is known of the parts while they are chosen, in memory; layer 42 (sched). -/
import Derived.Test.YtjohdkcgodaeiaaMp
import Derived.Test.YtjohdkcgodaeiaaP1
import Derived.Test.YtjohdkcgodaeiaaR2
namespace Go.Proofs.Ytjohdkcgodaeiaa
open Go.RowKit

/-- Nothing of the blocks of kind Q has turned. -/
def Kp (Q : Nat → Prop) (w w' : World) : Prop := w.heap.size ≤ w'.heap.size ∧ ∀ b, Q b → b < w.heap.size → w'.heap[b]? = w.heap[b]?
theorem Kp.below {w w' : World} (h : Below w.heap.size w w') (Q : Nat → Prop) : Kp Q w w' := ⟨h.size, fun b _ hb => h.block b hb⟩
theorem Kp.grown {w w' : World} {g : Nat} (h : w.grownBy w' (some g)) {Q : Nat → Prop} (hq : ∀ b, Q b → b ≠ g) : Kp Q w w' := by
  obtain ⟨_, _, _, h4, h5⟩ := h
  exact ⟨h4, fun b hb hl => h5 b hl (fun e => hq b hb (by injection e))⟩
theorem Kp.set {w : World} {g i : Nat} {v : Value} {Q : Nat → Prop} (hq : ∀ b, Q b → b ≠ g) : Kp Q w (w.setCell ⟨g, i, none⟩ v) := by
  refine ⟨by simp [World.setCell], fun b hb _ => ?_⟩
  have := hq b hb
  simp [World.setCell, Array.getElem?_modify]
  intro e
  exact absurd e.symm this
theorem Kp.put {w : World} {g n : Nat} {m : List Int} {Q : Nat → Prop} (hq : ∀ b, Q b → b ≠ g) : Kp Q w (Sort.putRow (Value.int .i64) (Sort.ahead w n) g 0 m.toArray) := by
  refine ⟨by rw [put_size]; exact Nat.le_refl _, fun b hb _ => ?_⟩
  have := hq b hb
  unfold Sort.putRow Sort.mapBlock
  simp only [Array.getElem?_modify]
  rw [if_neg (fun e => this e.symm)]
  rfl
theorem Kp.trans {Q : Nat → Prop} {a b c : World} (h : Kp Q a b) (k : Kp Q b c) : Kp Q a c := ⟨Nat.le_trans h.1 k.1, fun x hx hl => (k.2 x hx (Nat.lt_of_lt_of_le hl h.1)).trans (h.2 x hx hl)⟩
theorem cell_at {w w' : World} {b i : Nat} (h : w'.heap[b]? = w.heap[b]?) : w'.cell? ⟨b, i, none⟩ = w.cell? ⟨b, i, none⟩ := World.cell?_of_block (w := w) h
/-- The slice of slices at A reads as rows, in blocks of kind Q. -/
structure RQ (Q : Nat → Prop) (w : World) (A : Option Addr) (rows : List Rw) : Prop where
  at_ : 0 < rows.length → ∃ b off, A = some ⟨b, off, none⟩ ∧ Q b ∧ b < w.heap.size ∧ ∀ i, i < rows.length → w.cell? ⟨b, off + i, none⟩ = some (rcell (rw_ rows i))
  row : ∀ i, i < rows.length → 0 < (rw_ rows i).2.2.length → ∃ b off, (rw_ rows i).1 = some ⟨b, off, none⟩ ∧ Q b ∧ b < w.heap.size ∧ ∀ j, j < (rw_ rows i).2.2.length → w.cell? ⟨b, off + j, none⟩ = some (.int .i64 (li (rw_ rows i).2.2 j))
theorem RQ.kp {Q : Nat → Prop} {w w' : World} {A : Option Addr} {rows : List Rw} (h : RQ Q w A rows) (k : Kp Q w w') : RQ Q w' A rows where
  at_ := fun hl => by
    obtain ⟨b, off, e, hq, hb, hc⟩ := h.at_ hl
    exact ⟨b, off, e, hq, Nat.lt_of_lt_of_le hb k.1, fun i hi => (cell_at (k.2 b hq hb)).trans (hc i hi)⟩
  row := fun i hi hl => by
    obtain ⟨b, off, e, hq, hb, hc⟩ := h.row i hi hl
    exact ⟨b, off, e, hq, Nat.lt_of_lt_of_le hb k.1, fun j hj => (cell_at (k.2 b hq hb)).trans (hc j hj)⟩
theorem RQ.mono {Q Q' : Nat → Prop} {w : World} {A : Option Addr} {rows : List Rw} (h : RQ Q w A rows) (k : ∀ b, b < w.heap.size → Q b → Q' b) : RQ Q' w A rows where
  at_ := fun hl => by
    obtain ⟨b, off, e, hq, hb, hc⟩ := h.at_ hl
    exact ⟨b, off, e, k b hb hq, hb, hc⟩
  row := fun i hi hl => by
    obtain ⟨b, off, e, hq, hb, hc⟩ := h.row i hi hl
    exact ⟨b, off, e, k b hb hq, hb, hc⟩
theorem RQ.ri {Q : Nat → Prop} {w : World} {A : Option Addr} {rows : List Rw} (h : RQ Q w A rows) {i : Nat} (hi : i < rows.length) : RI w w.heap.size (rw_ rows i).1 (rw_ rows i).2.2 := fun hl => by
  obtain ⟨b, off, e, hq, hb, hc⟩ := h.row i hi hl
  exact ⟨b, off, e, hb, hc⟩
/-- The parts left: indices in a row of their own. -/
def RestP (w : World) (rb : Nat) (v : Value) (R : List Nat) : Prop :=
  (v = .slice none 0 0 ∧ R = []) ∨ ∃ cap, v = .slice (some ⟨rb, 0, none⟩) R.length cap ∧ R.length ≤ cap ∧ cap ≤ maxLen ∧ PreB w rb (nl R)
theorem PreB.at {w w' : World} {g : Nat} {l : List Int} (h : PreB w g l) (hb : w'.heap[g]? = w.heap[g]?) : PreB w' g l := by
  obtain ⟨tl, h⟩ := h
  exact ⟨tl, hb.trans h⟩
theorem RestP.at {w w' : World} {rb : Nat} {v : Value} {R : List Nat} (h : RestP w rb v R) (hb : rb < w.heap.size → w'.heap[rb]? = w.heap[rb]?) : RestP w' rb v R := by
  rcases h with h | ⟨cap, h1, h2, h3, h4⟩
  · exact .inl h
  · exact .inr ⟨cap, h1, h2, h3, h4.at (hb h4.lt)⟩
theorem RestP.form {w : World} {rb : Nat} {v : Value} {R : List Nat} (h : RestP w rb v R) : ∃ A c, v = .slice A R.length c ∧ RI w w.heap.size A (nl R) := by
  rcases h with ⟨rfl, rfl⟩ | ⟨cap, rfl, h2, h3, h4⟩
  · exact ⟨none, 0, rfl, RI.nil⟩
  · exact ⟨_, cap, rfl, h4.ri⟩
/-- Where the choice lies. -/
structure Kc where
  c : Nat
  mo : Nat
  ml : Nat
  ms : Nat
  rb : Nat
  SA : Option Addr
  sc : Nat
  rv : Value
def Kc.Q (K : Kc) (b : Nat) : Prop := b ≠ K.c ∧ b ≠ K.mo ∧ b ≠ K.ml ∧ b ≠ K.ms ∧ b ≠ K.rb
structure Kc.ok (K : Kc) (Z : Nat) : Prop where
  a1 : K.c ≠ K.mo
  a2 : K.c ≠ K.ml
  a3 : K.c ≠ K.ms
  a4 : K.c ≠ K.rb
  a5 : K.mo ≠ K.ml
  a6 : K.mo ≠ K.ms
  a7 : K.mo ≠ K.rb
  a8 : K.ml ≠ K.ms
  a9 : K.ml ≠ K.rb
  a10 : K.ms ≠ K.rb
  b1 : Z ≤ K.c
  b2 : Z ≤ K.mo
  b3 : Z ≤ K.ml
  b4 : Z ≤ K.ms
  b5 : Z ≤ K.rb
structure Ch (w : World) (Z : Nat) (K : Kc) (S : List Rw) (o : List Int) (R : List Nat) (n : Nat) (F : Int → Int) (G : Int → Bool) : Prop where
  blk : Blk w K.c 48 #[.slice K.SA S.length K.sc, .map (some K.mo), K.rv, .map (some K.ml), .map (some K.ms)]
  out : SM w K.mo n (mem o)
  left : LM w K.ml n F
  seen : SM w K.ms n G
  rest : RestP w K.rb K.rv R
  sets : RQ K.Q w K.SA S
  ok : K.ok Z
theorem Ch.below {w w' : World} {Z : Nat} {K : Kc} {S : List Rw} {o : List Int} {R : List Nat} {n : Nat} {F : Int → Int} {G : Int → Bool} (h : Ch w Z K S o R n F G) (hb : Below w.heap.size w w') : Ch w' Z K S o R n F G where
  blk := h.blk.below hb h.blk.lt
  out := h.out.at (hb.block _ h.out.lt)
  left := h.left.at (hb.block _ h.left.lt)
  seen := h.seen.at (hb.block _ h.seen.lt)
  rest := h.rest.at (fun hl => hb.block _ hl)
  sets := h.sets.kp (Kp.below hb _)
  ok := h.ok
theorem Ch.cells {w : World} {Z : Nat} {K : Kc} {S : List Rw} {o : List Int} {R : List Nat} {n : Nat} {F : Int → Int} {G : Int → Bool} (h : Ch w Z K S o R n F G) :
    w.cell? ⟨K.c, 0, none⟩ = some (.slice K.SA S.length K.sc) ∧ w.cell? ⟨K.c, 1, none⟩ = some (.map (some K.mo)) ∧ w.cell? ⟨K.c, 2, none⟩ = some K.rv ∧ w.cell? ⟨K.c, 3, none⟩ = some (.map (some K.ml)) ∧ w.cell? ⟨K.c, 4, none⟩ = some (.map (some K.ms)) :=
  ⟨h.blk.cell 0, h.blk.cell 1, h.blk.cell 2, h.blk.cell 3, h.blk.cell 4⟩
/-- rows of candidates -/
theorem cdRow_size (C : List Cd) : (cdRow C).size = C.length * 3 := by
  unfold cdRow
  rw [List.size_toArray]
  induction C with
  | nil => rfl
  | cons x r ih =>
    have hl : (cdR x).length = 3 := rfl
    rw [List.flatMap_cons, List.length_append, ih, hl, List.length_cons]; omega
theorem made_cd (n : Nat) : madeCells #[Value.int .i64 0, Value.int .i64 0, Value.int .i64 0] (n * 3) = cdRow (List.replicate n ⟨0, 0, 0⟩) := by
  apply Array.ext
  · rw [size_madeCells, cdRow_size]; simp
  · intro i h1 h2
    rw [size_madeCells] at h1
    have hk : i / 3 < n := by omega
    have hj : i % 3 < 3 := Nat.mod_lt _ (by decide)
    have e := cdRow_at (C := List.replicate n ⟨0, 0, 0⟩) (k := i / 3) (j := i % 3) (by simpa using hk) hj
    have ei : i / 3 * 3 + i % 3 = i := by omega
    rw [ei, Array.getElem?_eq_getElem h2] at e
    have ec : cdAt (List.replicate n ⟨0, 0, 0⟩) (i / 3) = ⟨0, 0, 0⟩ := by unfold cdAt; simp [List.getD, hk]
    rw [ec] at e
    unfold madeCells
    have es : (#[Value.int .i64 0, Value.int .i64 0, Value.int .i64 0] : Array Value).size = 3 := rfl
    simp only [Array.getElem_map, Array.getElem_range, es]
    obtain h | h | h : i % 3 = 0 ∨ i % 3 = 1 ∨ i % 3 = 2 := by omega
    all_goals
      rw [h] at e ⊢
      injection e with e
      rw [e]; rfl
theorem info50 : (Try.prog.info? 50).map (fun i => (i.zero, i.size, i.bytes)) = some (some (.agg #[.int .i64 0, .int .i64 0, .int .i64 0]), 3, 24) := by kernel_rfl
theorem run_mkc (n : Nat) (hn : n ≤ 1000000) (w : World) : (Instr.makeSlice 52 (.int .i64 (n : Int)) (.int .i64 (n : Int))).run Try.prog w = .ok (.slice (some ⟨w.heap.size, 0, none⟩) n n) (w.alloc (.cells (cdRow (List.replicate n ⟨0, 0, 0⟩)) 50)) := by
  obtain ⟨i, hi, hz0, hz1, hz2⟩ := info_parts info50
  have h := run_make (P := Try.prog) w 52 50 i _ Try.underlying52 hi hz0 .i64 .i64 n n (by omega) (by omega) (by rw [hz2]; omega) (by omega)
  rw [hz1] at h
  simp only [Int.toNat_natCast] at h
  rw [h]
  have e : (Value.agg #[.int .i64 0, .int .i64 0, .int .i64 0]).cells = #[Value.int .i64 0, Value.int .i64 0, Value.int .i64 0] := rfl
  rw [e, made_cd]
theorem cdFlat_set : ∀ (C : List Cd) (k j : Nat) (v : Value) (c : Cd), k < C.length → j < 3 → cdR c = (cdR (cdAt C k)).set j v → (C.flatMap cdR).set (k * 3 + j) v = (C.set k c).flatMap cdR
  | [], _, _, _, _, h, _, _ => by simp at h
  | t :: r, 0, j, v, c, _, hj, e => by
    have hl : (cdR t).length = 3 := rfl
    have e' : cdR c = (cdR t).set j v := e
    rw [List.flatMap_cons, Nat.zero_mul, Nat.zero_add, List.set_append_left _ _ (by rw [hl]; exact hj), List.set_cons_zero, List.flatMap_cons, e']
  | t :: r, k + 1, j, v, c, h, hj, e => by
    have hl : (cdR t).length = 3 := rfl
    rw [List.flatMap_cons, List.set_append_right _ _ (by rw [hl]; omega), hl, show (k + 1) * 3 + j - 3 = k * 3 + j by omega, cdFlat_set r k j v c (by simpa using h) hj e, List.set_cons_succ, List.flatMap_cons]
theorem cdRow_set {C : List Cd} {k j : Nat} {v : Value} {c : Cd} (h : k < C.length) (hj : j < 3) (e : cdR c = (cdR (cdAt C k)).set j v) : (cdRow C).setIfInBounds (k * 3 + j) v = cdRow (C.set k c) := by
  unfold cdRow
  rw [List.setIfInBounds_toArray, cdFlat_set C k j v c h hj e]
end Go.Proofs.Ytjohdkcgodaeiaa
