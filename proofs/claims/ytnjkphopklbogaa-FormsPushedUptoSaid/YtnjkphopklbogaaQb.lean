/- parts of the specification; layer 32 (forms). -/
import Derived.Test.YtnjkphopklbogaaMf
import Derived.Test.YtnjkphopklbogaaGk
namespace Go.Proofs.Ytnjkphopklbogaa
open Go.RowKit

theorem ba_eq {a b : ByteArray} (h : (a.toList == b.toList) = true) : a = b := by
  have h2 : a.toList = b.toList := by simpa using h
  rw [ByteArray.toList_eq, ByteArray.toList_eq] at h2
  cases a; cases b
  simp at h2
  rw [h2]
mutual
theorem eqE_true : ∀ t u : Ex, eqE t u = true → t = u
  | .mk o v m ks, .mk o2 v2 m2 us, h => by
    have h2 : (o == o2 && (v == v2 && ((m.toList == m2.toList) && eqL ks us))) = true := h
    simp only [Bool.and_eq_true] at h2
    obtain ⟨h3, h4, h5, h6⟩ := h2
    have e1 : o = o2 := by simpa using h3
    have e2 : v = v2 := by simpa using h4
    rw [e1, e2, ba_eq h5, eqL_true ks us h6]
theorem eqL_true : ∀ l m : List Ex, eqL l m = true → l = m
  | [], [], _ => rfl
  | [], _ :: _, h => by cases h
  | _ :: _, [], h => by cases h
  | t :: r, u :: s, h => by
    have h2 : (eqE t u && eqL r s) = true := h
    simp only [Bool.and_eq_true] at h2
    rw [eqE_true t u h2.1, eqL_true r s h2.2]
end
mutual
theorem eqF_true : ∀ t u : Fx, eqF t u = true → t = u
  | .mk o e ks, .mk o2 e2 us, h => by
    have h2 : (o == o2 && (eqE e e2 && eqFL ks us)) = true := h
    simp only [Bool.and_eq_true] at h2
    obtain ⟨h3, h4, h5⟩ := h2
    have e1 : o = o2 := by simpa using h3
    rw [e1, eqE_true e e2 h4, eqFL_true ks us h5]
theorem eqFL_true : ∀ l m : List Fx, eqFL l m = true → l = m
  | [], [], _ => rfl
  | [], _ :: _, h => by cases h
  | _ :: _, [], h => by cases h
  | t :: r, u :: s, h => by
    have h2 : (eqF t u && eqFL r s) = true := h
    simp only [Bool.and_eq_true] at h2
    rw [eqF_true t u h2.1, eqFL_true r s h2.2]
end
theorem eqF_symm (t u : Fx) : eqF t u = eqF u t := by
  cases h : eqF t u with
  | true => rw [eqF_true t u h, eqF_refl]
  | false =>
    cases h2 : eqF u t with
    | false => rfl
    | true => rw [eqF_true u t h2, eqF_refl] at h; cases h
/-- What parts makes of a list. -/
def partL (t : Fx) (l : List Fx) : List Fx := (preF t).foldl addF l
theorem preL_fold : ∀ (ks l : List Fx), (preL ks).foldl addF l = ks.foldl (fun l u => partL u l) l
  | [], _ => rfl
  | t :: r, l => by
    show (preF t ++ preL r).foldl addF l = _
    rw [List.foldl_append, List.foldl_cons, preL_fold r]
    rfl
theorem partL_eq (t : Fx) (l : List Fx) : partL t l = t.ks.foldl (fun l u => partL u l) (addF l t) := by
  unfold partL
  rw [preF_eq, List.foldl_cons, preL_fold]
  rfl
theorem partL_len (t : Fx) (l : List Fx) : (partL t l).length ≤ l.length + t.sz := by
  unfold partL
  have h := dedF_len (preF t) l
  have h2 := preF_len t
  omega
theorem partL_mem {t u : Fx} {l : List Fx} (h : u ∈ partL t l) : u ∈ l ∨ u.sz ≤ t.sz := by
  rcases dedF_sub _ _ u h with q | q
  · exact .inl q
  · exact .inr (preF_sz t u q)
/-- The list once k Kids are gone over. -/
def parK (t : Fx) (l : List Fx) (k : Nat) : List Fx := (t.ks.take k).foldl (fun l u => partL u l) (addF l t)
theorem parK_step {t : Fx} {l : List Fx} {k : Nat} (h : k < t.ks.length) : parK t l (k + 1) = partL (fkd t.ks k) (parK t l k) := by
  unfold parK
  rw [List.take_add_one, List.foldl_append, List.getElem?_eq_getElem h]
  simp [fkd, List.getD, List.getElem?_eq_getElem h]
theorem fold_len : ∀ (ks l : List Fx), (ks.foldl (fun l u => partL u l) l).length ≤ l.length + fszL ks
  | [], l => by simp [fszL]
  | t :: r, l => by
    have h := fold_len r (partL t l)
    have h2 := partL_len t l
    have hz : fszL (t :: r) = t.sz + fszL r := rfl
    rw [List.foldl_cons]
    omega
theorem fold_mem : ∀ (ks l : List Fx) (u : Fx), u ∈ ks.foldl (fun l u => partL u l) l → u ∈ l ∨ u.sz ≤ fszL ks
  | [], l, u, h => .inl h
  | t :: r, l, u, h => by
    have hz : fszL (t :: r) = t.sz + fszL r := rfl
    rw [List.foldl_cons] at h
    rcases fold_mem r (partL t l) u h with q | q
    · rcases partL_mem q with p | p
      · exact .inl p
      · exact .inr (by omega)
    · exact .inr (by omega)
theorem fszL_take : ∀ (l : List Fx) (k : Nat), fszL (l.take k) ≤ fszL l
  | [], k => by simp [fszL]
  | t :: r, 0 => Nat.zero_le _
  | t :: r, k + 1 => by
    have h := fszL_take r k
    have h1 : fszL ((t :: r).take (k + 1)) = t.sz + fszL (r.take k) := rfl
    have h2 : fszL (t :: r) = t.sz + fszL r := rfl
    omega
theorem parK_len (t : Fx) (l : List Fx) (k : Nat) : (parK t l k).length ≤ l.length + 1 + fszL t.ks := by
  have h := fold_len (t.ks.take k) (addF l t)
  have h2 := addF_len l t
  have h3 := fszL_take t.ks k
  unfold parK
  omega
theorem parK_mem {t : Fx} {l : List Fx} {k : Nat} {u : Fx} (h : u ∈ parK t l k) : u ∈ l ∨ u.sz ≤ t.sz := by
  have hz := fsz_eq t
  have h3 := fszL_take t.ks k
  rcases fold_mem _ _ u h with q | q
  · rcases addF_sub q with p | p
    · exact .inl p
    · exact .inr (by rw [p]; exact Nat.le_refl _)
  · exact .inr (by omega)
/-- What parts answers. -/
def PtR (B K : Nat) (l : List Fx) (v : Value) (w : World) (e : Ending) (w' : World) : Prop := ∃ A c, e = .returned (.slice A l.length c) ∧ RowG (Zr B K) w' K (.slice A l.length c) l.length l ∧ Frm (fun k => v.ownBlock = some k) w w' ∧ ∀ k, (Value.slice A l.length c).ownBlock = some k → v.ownBlock = some k ∨ w.heap.size ≤ k
/-- The state of the second loop. -/
structure PrS (B K : Nat) (t : Fx) (E : Option Addr) (dd : Nat) (A : Option Addr) (c : Nat) (v : Value) (w : World) (v2 : Value) (l : List Fx) (wr : World) : Prop where
  fr : Frm (fun k => v.ownBlock = some k) w wr
  ze : w.heap.size + 1 ≤ wr.heap.size
  bx : Blk wr w.heap.size 27 (fC t E dd A c)
  row : RowG (Zr B K) wr K v2 l.length l
  ow : ∀ k, v2.ownBlock = some k → v.ownBlock = some k ∨ w.heap.size + 1 ≤ k
theorem PrS.step {B K : Nat} {t : Fx} {E : Option Addr} {dd : Nat} {A : Option Addr} {c : Nat} {v : Value} {w : World} {v2 : Value} {l l' : List Fx} {wr w' : World} {A' : Option Addr} {c' : Nat} (h : PrS B K t E dd A c v w v2 l wr) (hv : ∀ k, v.ownBlock = some k → k < w.heap.size)
    (hr : RowG (Zr B K) w' K (.slice A' l'.length c') l'.length l') (hf : Frm (fun k => v2.ownBlock = some k) wr w') (ho : ∀ k, (Value.slice A' l'.length c').ownBlock = some k → v2.ownBlock = some k ∨ wr.heap.size ≤ k) : PrS B K t E dd A c v w (.slice A' l'.length c') l' w' := by
  have hze := h.ze
  have hfs := hf.size
  refine ⟨⟨hf.os.trans h.fr.os, hf.tape.trans h.fr.tape, hf.output.trans h.fr.output, by omega, fun k hk hn => ?_⟩, by omega, h.bx.frm hf (fun e => ?_), hr, fun k hk => ?_⟩
  · refine (hf.block k (by omega) (fun e => ?_)).trans (h.fr.block k hk hn)
    rcases h.ow k e with q | q
    · exact hn q
    · omega
  · rcases h.ow _ e with q | q
    · have := hv _ q; omega
    · omega
  · rcases ho k hk with q | q
    · exact h.ow k q
    · exact .inr (by omega)
end Go.Proofs.Ytnjkphopklbogaa
