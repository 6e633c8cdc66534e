/- Structural equality of trees; EqualFunc, Same and the specification's Same; layer 7 (ptext). -/
import Derived.Test.YtipapemcedkinaaFn5
namespace Go.Proofs.Ytipapemcedkinaa
open Go.RowKit Go.PlainAid

def ValP (w : World) (b : Bool) (e : Ending) (w' : World) : Prop := e = .returned (.bool b) ∧ Below w.heap.size w w'
theorem bal (w : World) (o : Obj) : Below w.heap.size w (w.alloc o) := (Below.refl _ _).alloc (Nat.le_refl _) o
mutual
def sm : Ex → Ex → Bool | .mk o v ks, u => o == u.op && (v == u.vr && smL ks u.ks)
def smL : List Ex → List Ex → Bool
  | [], l => l.isEmpty
  | t :: r, l => match l with
    | [] => false
    | u :: s => sm t u && smL r s
end
theorem sm_eq (t u : Ex) : sm t u = (t.op == u.op && (t.vr == u.vr && smL t.ks u.ks)) := by cases t; rfl
mutual
theorem sm_true : ∀ t u : Ex, sm t u = true ↔ t = u
  | .mk o v ks, .mk o' v' ks' => by
    show (o == o' && (v == v' && smL ks ks')) = true ↔ _
    rw [Bool.and_eq_true, Bool.and_eq_true, beq_iff_eq, beq_iff_eq, smL_true ks ks']
    constructor
    · rintro ⟨rfl, rfl, rfl⟩; rfl
    · intro h; cases h; exact ⟨rfl, rfl, rfl⟩
theorem smL_true : ∀ l m : List Ex, smL l m = true ↔ l = m
  | [], [] => by simp [smL]
  | [], u :: s => by simp [smL]
  | t :: r, [] => by simp [smL]
  | t :: r, u :: s => by
    show (sm t u && smL r s) = true ↔ _
    rw [Bool.and_eq_true, sm_true t u, smL_true r s]
    constructor
    · rintro ⟨rfl, rfl⟩; rfl
    · intro h; cases h; exact ⟨rfl, rfl⟩
end
theorem sm_refl (t : Ex) : sm t t = true := (sm_true t t).2 rfl
theorem smL_len {l m : List Ex} (h : l.length ≠ m.length) : smL l m = false := by
  cases e : smL l m with
  | false => rfl
  | true => rw [smL_true] at e; subst e; exact absurd rfl h
theorem smL_step {l m : List Ex} {i : Nat} (h : i < l.length) (h2 : i < m.length) : smL (l.drop i) (m.drop i) = (sm (kd l i) (kd m i) && smL (l.drop (i + 1)) (m.drop (i + 1))) := by
  rw [kd_drop h, kd_drop h2]; rfl
def SamH (f : Nat) (ks us : List Ex) : Prop := ∀ i, i < ks.length → ∀ A c B d w, Rep w.heap.size w A (kd ks i) → Rep w.heap.size w B (kd us i) → Calls Try.prog f #[exV (kd ks i) A c, exV (kd us i) B d] w (ValP w (sm (kd ks i) (kd us i)))
end Go.Proofs.Ytipapemcedkinaa
