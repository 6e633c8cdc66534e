/- The table of a list of nodes; layer 25 (ddaudit). -/
import Derived.Test.YtmpcfplpdbdmmaaFn3
namespace Go.Proofs.Ytmpcfplpdbdmmaa
open Go.RowKit Go.Maps

def nd0 : Nd := ⟨0, 0, 0, 0, 0⟩
def na (l : List Nd) (k : Nat) : Nd := l.getD k nd0
def ia (l : List Int) (k : Nat) : Int := l.getD k 0
def RowI (B : Nat) (w : World) (A : Option Addr) (l : List Int) : Prop := 0 < l.length → ∃ b f, A = some ⟨b, f, none⟩ ∧ b < B ∧ ∀ k, k < l.length → w.cell? ⟨b, f + k, none⟩ = some (.int .i64 (ia l k))
def RowN (B : Nat) (w : World) (A : Option Addr) (l : List Nd) : Prop := 0 < l.length → ∃ b f, A = some ⟨b, f, none⟩ ∧ b < B ∧ ∀ k, k < l.length →
  w.cell? ⟨b, f + k * 5, none⟩ = some (.int .i64 (na l k).id) ∧ w.cell? ⟨b, f + k * 5 + 1, none⟩ = some (.int .i64 (na l k).v) ∧ w.cell? ⟨b, f + k * 5 + 2, none⟩ = some (.int .i64 (na l k).lo) ∧ w.cell? ⟨b, f + k * 5 + 3, none⟩ = some (.int .i64 (na l k).hi) ∧ w.cell? ⟨b, f + k * 5 + 4, none⟩ = some (.int .i64 (na l k).refs)
theorem RowI.below {B C : Nat} {w w' : World} {A l} (h : RowI B w A l) (hb : Below C w w') (hC : B ≤ C) : RowI B w' A l := fun hl => by
  obtain ⟨b, f, e, hB, hc⟩ := h hl
  exact ⟨b, f, e, hB, fun k hk => (hb.cell (p := ⟨b, f + k, none⟩) (by show b < C; omega)).trans (hc k hk)⟩
theorem RowN.below {B C : Nat} {w w' : World} {A l} (h : RowN B w A l) (hb : Below C w w') (hC : B ≤ C) : RowN B w' A l := fun hl => by
  obtain ⟨b, f, e, hB, hc⟩ := h hl
  refine ⟨b, f, e, hB, fun k hk => ?_⟩
  have hlt : b < C := by omega
  obtain ⟨h0, h1, h2, h3, h4⟩ := hc k hk
  exact ⟨(hb.cell (p := ⟨b, _, none⟩) hlt).trans h0, (hb.cell (p := ⟨b, _, none⟩) hlt).trans h1, (hb.cell (p := ⟨b, _, none⟩) hlt).trans h2, (hb.cell (p := ⟨b, _, none⟩) hlt).trans h3, (hb.cell (p := ⟨b, _, none⟩) hlt).trans h4⟩
theorem RowI.mono {B C : Nat} {w : World} {A l} (h : RowI B w A l) (hC : B ≤ C) : RowI C w A l := fun hl => by
  obtain ⟨b, f, e, hB, hc⟩ := h hl
  exact ⟨b, f, e, by omega, hc⟩
theorem RowN.mono {B C : Nat} {w : World} {A l} (h : RowN B w A l) (hC : B ≤ C) : RowN C w A l := fun hl => by
  obtain ⟨b, f, e, hB, hc⟩ := h hl
  exact ⟨b, f, e, by omega, hc⟩
def OkI (l : List Int) : Prop := ∀ k, k < l.length → In64 (ia l k)
def OkN (l : List Nd) : Prop := ∀ k, k < l.length → (na l k).ok
/-- The first place of a value. -/
def idxN : List Int → Int → Option Nat
  | [], _ => none
  | a :: r, v => if a = v then some 0 else (idxN r v).map (· + 1)
def idxF (l : List Int) (v : Int) : Option Int := (idxN l v).map Int.ofNat
theorem idxN_lt : ∀ (l : List Int) (v : Int) (i : Nat), idxN l v = some i → i < l.length
  | [], _, _, h => by cases h
  | a :: r, v, i, h => by
    unfold idxN at h
    split at h
    · injection h with h; subst h; simp
    · cases e : idxN r v with
      | none => rw [e] at h; cases h
      | some j =>
        rw [e] at h; simp at h; subst h
        have := idxN_lt r v j e
        simp; omega
theorem idxN_snoc (a v : Int) : ∀ l : List Int, idxN (l ++ [a]) v = match idxN l v with | some i => some i | none => if a = v then some l.length else none
  | [] => by simp [idxN]
  | b :: r => by
    have ih := idxN_snoc a v r
    simp only [List.cons_append, idxN, ih]
    split
    · rfl
    · cases e : idxN r v with
      | some i => simp
      | none => simp only [Option.map_none]; split <;> simp
theorem idxF_old {l : List Int} {a : Int} (h : (idxF l a).isSome = true) : idxF (l ++ [a]) = idxF l := by
  funext v
  unfold idxF at *
  rw [idxN_snoc]
  cases e : idxN l v with
  | some i => rfl
  | none =>
    have : a ≠ v := fun x => by subst x; rw [e] at h; cases h
    simp [this]
theorem idxF_new {l : List Int} {a : Int} (h : (idxF l a).isSome = false) : idxF (l ++ [a]) = putF (idxF l) a (l.length : Int) := by
  funext v
  unfold idxF at *
  rw [idxN_snoc]
  unfold putF
  by_cases x : v = a
  · subst x
    cases e : idxN l v with
    | some i => rw [e] at h; cases h
    | none => simp
  · have : a ≠ v := fun e => x e.symm
    rw [if_neg x]
    cases e : idxN l v with
    | some i => simp [e]
    | none => simp [this, e]
theorem posZ_in {l : List Int} (hl : (l.length : Int) ≤ 9223372036854775807) (v : Int) : In64 (posZ (idxF l) v) := by
  unfold posZ idxF
  cases e : idxN l v with
  | none => simp [In64]
  | some i => have := idxN_lt l v i e; simp [In64]; omega
def topStep (pos : Int → Option Int) (F : Int → Option Int) (x : Nd) : Int → Option Int :=
  match F x.id with
  | none => putF F x.id (posZ pos x.v)
  | some t => if posZ pos x.v < t then putF F x.id (posZ pos x.v) else F
def topsF (pos : Int → Option Int) (l : List Nd) : Int → Option Int := l.foldl (topStep pos) (fun _ => none)
theorem topsF_snoc (pos : Int → Option Int) (l : List Nd) (x : Nd) : topsF pos (l ++ [x]) = topStep pos (topsF pos l) x := by unfold topsF; rw [List.foldl_append]; rfl
theorem ia_take {l : List Int} {k : Nat} (h : k < l.length) : l.take (k + 1) = l.take k ++ [ia l k] := by
  rw [List.take_succ_eq_append_getElem h]; unfold ia; simp [List.getD, List.getElem?_eq_getElem h]
theorem na_take {l : List Nd} {k : Nat} (h : k < l.length) : l.take (k + 1) = l.take k ++ [na l k] := by
  rw [List.take_succ_eq_append_getElem h]; unfold na; simp [List.getD, List.getElem?_eq_getElem h]
def noF : Int → Option Int := fun _ => none
def noS : Lit → Bool := fun _ => false
theorem Tb.putP {w w' : World} {T n : Nat} {pos tops pos' : Int → Option Int} {met sh : Lit → Bool} {bp bt bm bs : Nat} (h : Tb w T n pos tops met sh bp bt bm bs) (hp : XM w' bp pos') (hg : w.grownBy w' (some bp)) : Tb w' T n pos' tops met sh bp bt bm bs := by
  obtain ⟨d1, d2, d3, d4, d5, d6, d7, d8, d9, d10⟩ := h.d
  exact ⟨(hg.block T h.t.lt (by simp [Ne.symm d7])).trans h.t, hp, h.o.grown hg (Ne.symm d1), h.m.grown hg (Ne.symm d2), h.s.grown hg (Ne.symm d3), h.d⟩
theorem Tb.putO {w w' : World} {T n : Nat} {pos tops tops' : Int → Option Int} {met sh : Lit → Bool} {bp bt bm bs : Nat} (h : Tb w T n pos tops met sh bp bt bm bs) (hp : IM w' bt (n + 1) tops') (hg : w.grownBy w' (some bt)) : Tb w' T (n + 1) pos tops' met sh bp bt bm bs := by
  obtain ⟨d1, d2, d3, d4, d5, d6, d7, d8, d9, d10⟩ := h.d
  exact ⟨(hg.block T h.t.lt (by simp [Ne.symm d8])).trans h.t, h.p.grown hg d1, hp, (h.m.grown hg (Ne.symm d4)).mono (by omega), (h.s.grown hg (Ne.symm d5)).mono (by omega), h.d⟩
theorem Tb.mono {w : World} {T n m : Nat} {pos tops : Int → Option Int} {met sh : Lit → Bool} {bp bt bm bs : Nat} (h : Tb w T n pos tops met sh bp bt bm bs) (hm : n ≤ m) : Tb w T m pos tops met sh bp bt bm bs :=
  ⟨h.t, h.p, h.o.mono hm, h.m.mono hm, h.s.mono hm, h.d⟩
theorem Tb.new (w : World) : Tb (((((w.alloc (.map #[] 0)).alloc (.map #[] 0)).alloc (.map #[] 0)).alloc (.map #[] 0)).alloc (.cells #[.map (some w.heap.size), .map (some (w.heap.size + 1)), .map (some (w.heap.size + 1 + 1)), .map (some (w.heap.size + 1 + 1 + 1))] 50)) (w.heap.size + 1 + 1 + 1 + 1) 0 noF noF noS noS w.heap.size (w.heap.size + 1) (w.heap.size + 1 + 1) (w.heap.size + 1 + 1 + 1) := by
  have h1 : XM (w.alloc (.map #[] 0)) w.heap.size noF := ⟨0, IM.made w⟩
  have h2 := IM.made (w.alloc (.map #[] 0))
  have h3 := BM.made ((w.alloc (.map #[] 0)).alloc (.map #[] 0)) 3
  have h4 := BM.made (((w.alloc (.map #[] 0)).alloc (.map #[] 0)).alloc (.map #[] 0)) 52
  have h5 := Blk.new ((((w.alloc (.map #[] 0)).alloc (.map #[] 0)).alloc (.map #[] 0)).alloc (.map #[] 0)) 50 #[.map (some w.heap.size), .map (some (w.heap.size + 1)), .map (some (w.heap.size + 1 + 1)), .map (some (w.heap.size + 1 + 1 + 1))]
  have e : ∀ (w : World) (o : Obj), (w.alloc o).heap.size = w.heap.size + 1 := fun w o => by simp
  simp only [e] at h2 h3 h4 h5
  have b : ∀ (w : World) (o : Obj), Below w.heap.size w (w.alloc o) := fun w o => (Below.refl _ _).alloc (Nat.le_refl _) o
  refine ⟨h5, ?_, ?_, ?_, ?_, by omega⟩
  · exact (((h1.below (b _ _) h1.lt).below (b _ _) (by simp <;> omega)).below (b _ _) (by simp <;> omega)).below (b _ _) (by simp <;> omega)
  · exact ((h2.below (b _ _) h2.lt).below (b _ _) (by simp <;> omega)).below (b _ _) (by simp <;> omega)
  · exact (h3.below (b _ _) h3.lt).below (b _ _) (by simp <;> omega)
  · exact h4.below (b _ _) h4.lt
theorem make33 (w : World) : (Instr.makeMap 33 none).run Try.prog w = .ok (.map (some w.heap.size)) (w.alloc (.map #[] 0)) := by kernel_rfl
theorem make47 (w : World) : (Instr.makeMap 47 none).run Try.prog w = .ok (.map (some w.heap.size)) (w.alloc (.map #[] 0)) := by kernel_rfl
theorem make48 (w : World) : (Instr.makeMap 48 none).run Try.prog w = .ok (.map (some w.heap.size)) (w.alloc (.map #[] 0)) := by kernel_rfl
end Go.Proofs.Ytmpcfplpdbdmmaa
