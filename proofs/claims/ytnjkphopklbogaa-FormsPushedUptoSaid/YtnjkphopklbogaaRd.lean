/- Parts are distinct, hold their Kids, and begin with the formula; layer 32 (forms). -/
import Derived.Test.YtnjkphopklbogaaQb
namespace Go.Proofs.Ytnjkphopklbogaa
open Go.RowKit

theorem anL_false {p : Fx} : ∀ {l : List Fx}, anL p l = false → ∀ k, k < l.length → eqF p (fkd l k) = false
  | a :: r, h, 0, _ => by
    have h2 : (eqF p a || anL p r) = false := h
    rw [Bool.or_eq_false_iff] at h2
    exact h2.1
  | a :: r, h, k + 1, hk => by
    have h2 : (eqF p a || anL p r) = false := h
    rw [Bool.or_eq_false_iff] at h2
    exact anL_false h2.2 k (by simpa using hk)
theorem anL_mem {p : Fx} : ∀ {l : List Fx}, p ∈ l → anL p l = true
  | a :: r, h => by
    show (eqF p a || anL p r) = true
    rcases List.mem_cons.1 h with rfl | h2
    · rw [eqF_refl]; rfl
    · rw [anL_mem h2, Bool.or_true]
theorem anL_true {p : Fx} : ∀ {l : List Fx}, anL p l = true → p ∈ l
  | [], h => by cases h
  | a :: r, h => by
    have h2 : (eqF p a || anL p r) = true := h
    rw [Bool.or_eq_true] at h2
    rcases h2 with q | q
    · rw [eqF_true p a q]; exact List.mem_cons_self ..
    · exact List.mem_cons_of_mem _ (anL_true q)
theorem addF_keep {l : List Fx} {p u : Fx} (h : u ∈ l) : u ∈ addF l p := by
  unfold addF
  split
  · exact h
  · exact List.mem_append.2 (.inl h)
theorem addF_new (l : List Fx) (p : Fx) : p ∈ addF l p := by
  unfold addF
  split
  · rename_i h; exact anL_true h
  · simp
theorem fold_keep : ∀ (D l : List Fx) (u : Fx), u ∈ l → u ∈ D.foldl addF l
  | [], _, _, h => h
  | p :: r, l, u, h => fold_keep r (addF l p) u (addF_keep h)
theorem fold_all : ∀ (D l : List Fx) (u : Fx), u ∈ D → u ∈ D.foldl addF l
  | p :: r, l, u, h => by
    rcases List.mem_cons.1 h with rfl | h2
    · exact fold_keep r _ _ (addF_new l _)
    · exact fold_all r (addF l p) u h2
/-- No two elements are the same. -/
def NdF (l : List Fx) : Prop := ∀ i k, k < i → i < l.length → eqF (fkd l i) (fkd l k) = false
theorem addF_nd {l : List Fx} {p : Fx} (h : NdF l) : NdF (addF l p) := by
  unfold addF
  split
  · exact h
  · rename_i ha
    have ha2 : anL p l = false := by simpa using ha
    intro i k hk hi
    rw [List.length_append, List.length_singleton] at hi
    by_cases e : i = l.length
    · subst e
      rw [fkd_app_eq, fkd_app_lt hk]
      exact anL_false ha2 k hk
    · rw [fkd_app_lt (by omega), fkd_app_lt (by omega)]
      exact h i k hk (by omega)
theorem fold_nd : ∀ (D l : List Fx), NdF l → NdF (D.foldl addF l)
  | [], _, h => h
  | p :: r, l, h => fold_nd r (addF l p) (addF_nd h)
theorem dedF_nd (D : List Fx) : NdF (dedF D) := fold_nd D [] (fun i k _ hi => absurd hi (by simp))
theorem fold_head : ∀ (D : List Fx) (a : Fx) (l : List Fx), ∃ l', D.foldl addF (a :: l) = a :: l'
  | [], a, l => ⟨l, rfl⟩
  | p :: r, a, l => by
    obtain ⟨l2, h⟩ : ∃ l2, addF (a :: l) p = a :: l2 := by
      unfold addF
      split
      · exact ⟨l, rfl⟩
      · exact ⟨l ++ [p], rfl⟩
    rw [List.foldl_cons, h]
    exact fold_head r a l2
theorem dedF_head (t : Fx) : ∃ l', dedF (preF t) = t :: l' := by
  unfold dedF
  rw [preF_eq, List.foldl_cons]
  exact fold_head _ t []
mutual
theorem preF_kid : ∀ (t u v : Fx), u ∈ preF t → v ∈ u.ks → v ∈ preF t
  | .mk o e ks, u, v, hu, hv => by
    rw [preF_eq] at hu ⊢
    rcases List.mem_cons.1 hu with rfl | h2
    · exact List.mem_cons_of_mem _ (preL_top ks v hv)
    · exact List.mem_cons_of_mem _ (preL_kid ks u v h2 hv)
theorem preL_kid : ∀ (l : List Fx) (u v : Fx), u ∈ preL l → v ∈ u.ks → v ∈ preL l
  | t :: r, u, v, hu, hv => by
    show v ∈ preF t ++ preL r
    rcases List.mem_append.1 (show u ∈ preF t ++ preL r from hu) with h | h
    · exact List.mem_append.2 (.inl (preF_kid t u v h hv))
    · exact List.mem_append.2 (.inr (preL_kid r u v h hv))
theorem preL_top : ∀ (l : List Fx) (v : Fx), v ∈ l → v ∈ preL l
  | t :: r, v, h => by
    show v ∈ preF t ++ preL r
    rcases List.mem_cons.1 h with rfl | h2
    · exact List.mem_append.2 (.inl (by rw [preF_eq]; exact List.mem_cons_self ..))
    · exact List.mem_append.2 (.inr (preL_top r v h2))
end
/-- A Kid of a part is a part. -/
theorem dedF_kid {t u v : Fx} (hu : u ∈ dedF (preF t)) (hv : v ∈ u.ks) : anL v (dedF (preF t)) = true := by
  refine anL_mem (fold_all _ _ _ (preF_kid t u v ?_ hv))
  rcases dedF_sub _ _ u hu with q | q
  · cases q
  · exact q
end Go.Proofs.Ytnjkphopklbogaa
