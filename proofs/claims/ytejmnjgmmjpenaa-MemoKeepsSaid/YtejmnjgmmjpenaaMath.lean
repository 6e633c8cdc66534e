/- The table and the reference in step: for MemoKeeps of layer 11 (memo). -/
import Derived.Test.YtejmnjgmmjpenaaFn9
namespace Go.Proofs.Ytejmnjgmmjpenaa
open Go.RowKit

theorem slot_key {x y : Act} (h : keyP x y) (n : Nat) : slotA x n = slotA y n := by
  obtain ⟨h1, h2, h3, h4⟩ := h
  unfold slotA
  rw [h1, h2, h3, h4]
theorem get_put_key (T : Nat → Option Rc) {x y : Act} (n : Nat) (h : keyP y x) : getA (putT T (slotA y n) (recA y)) x n = some y.r := by
  rw [slot_key h n, getA_eq]
  generalize slotA x n = s
  unfold putT
  rw [if_pos rfl]
  unfold lookR recA
  exact if_pos h
theorem get_put_ne (T : Nat → Option Rc) {x y : Act} (n : Nat) (h : ¬ keyP y x) {r : Int} (hg : getA (putT T (slotA y n) (recA y)) x n = some r) : getA T x n = some r := by
  rw [getA_eq] at hg ⊢
  generalize slotA x n = s at hg ⊢
  generalize slotA y n = t at hg
  unfold putT at hg
  by_cases e : s = t
  · rw [if_pos e] at hg
    have : lookR (some (recA y)) x.op x.a x.b x.c = none := if_neg h
    rw [this] at hg
    cases hg
  · rw [if_neg e] at hg
    exact hg
theorem kept_false (l : List Act) (x : Act) : ∀ k, (keptF l x k false).2.2 = false ∧ (keptF l x k false).1 = (keptF l x k true).1 ∧ (keptF l x k false).2.1 = (keptF l x k true).2.1
  | 0 => ⟨rfl, rfl, rfl⟩
  | k + 1 => by
    have ih := kept_false l x k
    unfold keptF
    by_cases c2 : (l.getD k act0).kind = 2
    · rw [if_pos c2, if_pos c2]; exact ⟨rfl, rfl, rfl⟩
    · rw [if_neg c2, if_neg c2]
      by_cases c1 : (l.getD k act0).kind = 1
      · rw [if_pos c1, if_pos c1]
        by_cases hk : keyP (l.getD k act0) x
        · rw [if_pos hk, if_pos hk]; exact ⟨rfl, rfl, rfl⟩
        · rw [if_neg hk, if_neg hk]; exact ⟨ih.1, rfl, rfl⟩
      · rw [if_neg c1, if_neg c1]; exact ih
/-- After k operations: what the table finds is what was stored last; what was stored by the last Put is found. -/
structure InStep (l : List Act) (N k : Nat) (T : Nat → Option Rc) : Prop where
  found : ∀ x r, getA T x N = some r → (keptF l x k true).2.1 = true ∧ (keptF l x k true).1 = r
  last : ∀ x, (keptF l x k true).2.2 = true → getA T x N ≠ none
theorem InStep.zero (l : List Act) (N : Nat) : InStep l N 0 (fun _ => none) :=
  ⟨fun x r h => (by rw [get_none] at h; cases h), fun x h => (by cases h)⟩
section
variable {l : List Act} {N k : Nat} {T : Nat → Option Rc} {y : Act}
theorem kept_at (hy : l[k]? = some y) (x : Act) : keptF l x (k + 1) true = if y.kind = 2 then (0, false, false) else if y.kind = 1 then (if keyP y x then (y.r, true, true) else keptF l x k false) else keptF l x k true := by
  have hyd : l.getD k act0 = y := by rw [List.getD, hy]; rfl
  show (if (l.getD k act0).kind = 2 then _ else _) = _
  rw [hyd]
theorem InStep.clear (hy : l[k]? = some y) (hk : y.kind = 2) : InStep l N (k + 1) (fun _ => none) := by
  refine ⟨fun x r h => ?_, fun x h => ?_⟩
  · rw [get_none] at h; cases h
  · rw [kept_at hy, if_pos hk] at h; cases h
theorem InStep.other (h : InStep l N k T) (hy : l[k]? = some y) (h1 : y.kind ≠ 1) (h2 : y.kind ≠ 2) : InStep l N (k + 1) T := by
  refine ⟨fun x r hg => ?_, fun x hl => ?_⟩
  · rw [kept_at hy, if_neg h2, if_neg h1]; exact h.found x r hg
  · rw [kept_at hy, if_neg h2, if_neg h1] at hl; exact h.last x hl
theorem InStep.put (h : InStep l N k T) (hy : l[k]? = some y) (h1 : y.kind = 1) : InStep l N (k + 1) (putT T (slotA y N) (recA y)) := by
  have h2 : ¬ y.kind = 2 := by rw [h1]; decide
  refine ⟨fun x r hg => ?_, fun x hl => ?_⟩
  · rw [kept_at hy, if_neg h2, if_pos h1]
    by_cases hk : keyP y x
    · rw [get_put_key T N hk] at hg
      rw [if_pos hk]
      exact ⟨rfl, Option.some.inj hg⟩
    · rw [if_neg hk]
      obtain ⟨e1, e2⟩ := h.found x r (get_put_ne T N hk hg)
      obtain ⟨_, f1, f2⟩ := kept_false l x k
      exact ⟨f2.trans e1, f1.trans e2⟩
  · rw [kept_at hy, if_neg h2, if_pos h1] at hl
    by_cases hk : keyP y x
    · rw [get_put_key T N hk]; exact fun e => by cases e
    · rw [if_neg hk, (kept_false l x k).1] at hl
      cases hl
end
end Go.Proofs.Ytejmnjgmmjpenaa
