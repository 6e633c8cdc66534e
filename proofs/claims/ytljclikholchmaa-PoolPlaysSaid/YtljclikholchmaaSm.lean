/- How the specification's pool stands to the program's; layer 9 (pool). -/
import Derived.Test.YtljclikholchmaaRf
import Derived.Test.YtljclikholchmaaFnB
namespace Go.Proofs.Ytljclikholchmaa
open Go.RowKit

theorem getB_set {T : List Bool} {i j : Nat} {b : Bool} (hi : i < T.length) : (T.set i b).getD j false = if i = j then b else T.getD j false := by
  simp only [List.getD, List.getElem?_set]
  by_cases e : i = j
  · subst e; simp [hi]
  · simp [e]
theorem getB_push {T : List Bool} {j : Nat} {b : Bool} : (T ++ [b]).getD j false = if j = T.length then b else T.getD j false := by
  simp only [List.getD]
  by_cases e : j = T.length
  · subst e; simp
  · by_cases h : j < T.length
    · rw [List.getElem?_append_left h, if_neg e]
    · rw [List.getElem?_append_right (by omega), if_neg e, List.getElem?_eq_none (by simp; omega), List.getElem?_eq_none (by omega)]
theorem cntK_set {T : List Bool} {i : Nat} {b : Bool} (hi : i < T.length) : ∀ k, cntK (T.set i b) k + (if i < k ∧ T.getD i false then 1 else 0) = cntK T k + (if i < k ∧ b then 1 else 0)
  | 0 => by simp [cntK]
  | k + 1 => by
    have h := cntK_set (T := T) (i := i) (b := b) hi k
    show cntK (T.set i b) k + (if (T.set i b).getD k false then 1 else 0) + _ = cntK T k + (if T.getD k false then 1 else 0) + _
    rw [getB_set hi]
    by_cases e : i = k
    · subst e
      simp only [Nat.lt_irrefl, false_and, if_false, Nat.add_zero, if_true, Nat.lt_succ_self, true_and] at h ⊢
      cases b <;> cases T.getD i false <;> simp_all
    · rw [if_neg e]
      by_cases hk : i < k
      · simp only [hk, true_and, show i < k + 1 by omega] at h ⊢
        omega
      · simp only [hk, false_and, if_false, show ¬ i < k + 1 by omega] at h ⊢
        omega
theorem cntK_pre {T : List Bool} {b : Bool} : ∀ k, k ≤ T.length → cntK (T ++ [b]) k = cntK T k
  | 0, _ => rfl
  | k + 1, h => by
    show cntK (T ++ [b]) k + (if (T ++ [b]).getD k false then 1 else 0) = cntK T k + (if T.getD k false then 1 else 0)
    rw [cntK_pre k (by omega), getB_push, if_neg (show ¬ k = T.length by omega)]
theorem cntT_push {T : List Bool} : cntT (T ++ [true]) = cntT T + 1 := by
  unfold cntT
  rw [List.length_append]
  show cntK (T ++ [true]) T.length + (if (T ++ [true]).getD T.length false then 1 else 0) = _
  rw [cntK_pre _ (Nat.le_refl _), getB_push, if_pos rfl]
  rfl
theorem cntT_take {T : List Bool} {i : Nat} (hi : i < T.length) (h : T.getD i false = false) : cntT (T.set i true) = cntT T + 1 := by
  have h2 := cntK_set (b := true) hi T.length
  unfold cntT
  rw [List.length_set]
  simp [hi] at h2 h
  rw [h] at h2
  simpa using h2
theorem cntT_give {T : List Bool} {i : Nat} (hi : i < T.length) (h : T.getD i false = true) : cntT (T.set i false) + 1 = cntT T := by
  have h2 := cntK_set (b := false) hi T.length
  unfold cntT
  rw [List.length_set]
  simp [hi] at h2 h
  rw [h] at h2
  simpa using h2
/-- How the two stand to each other: N and fr are the program's, M and T the specification's. -/
structure Sim (N M : List Nd) (T : List Bool) (fr : List Int) : Prop where
  lm : M.length = N.length
  lt : T.length = N.length
  tk : ∀ i, i < N.length → T.getD i false = ((N.getD i nd0).id == (i : Int) + 1)
  nd : ∀ i, i < N.length → T.getD i false = true → M.getD i nd0 = N.getD i nd0
  cnt : cntT T + fr.length = N.length
section
variable {N M : List Nd} {T : List Bool} {fr : List Int}
theorem Sim.nil : Sim [] [] [] [] := ⟨rfl, rfl, fun _ h => absurd h (Nat.not_lt_zero _), fun _ h => absurd h (Nat.not_lt_zero _), rfl⟩
theorem Sim.has (h : Sim N M T fr) (id : Int) : hasF N id = hasT T id := by
  unfold hasF hasT
  rw [h.lt]
  by_cases h1 : 1 ≤ id
  · by_cases h2 : id ≤ N.length
    · have h3 := h.tk (id - 1).toNat (by omega)
      rw [h3, show (((id - 1).toNat : Nat) : Int) + 1 = id by omega]
    · simp [h2]
  · simp [h1]
theorem Sim.each (h : Sim N M T fr) : eachN N = allK M T M.length := by
  have hk : ∀ k, k ≤ N.length → (takenL N k).map (fun i => N.getD i nd0) = allK M T k := by
    intro k
    induction k with
    | zero => intro _; rfl
    | succ k ih =>
      intro hk
      rw [takenL_succ, List.map_append, ih (by omega)]
      show _ = allK M T k ++ if T.getD k false then [M.getD k nd0] else []
      have h1 := h.tk k (by omega)
      have h2 := h.nd k (by omega)
      rw [h1] at h2 ⊢
      by_cases e : ((N.getD k nd0).id == (k : Int) + 1) = true
      · rw [if_pos e, if_pos e, h2 e]; rfl
      · rw [if_neg e, if_neg e]; rfl
  rw [h.lm]
  exact hk _ (Nat.le_refl _)
theorem getM_set {i j : Nat} {x : Nd} (hi : i < M.length) : (M.set i x).getD j nd0 = if i = j then x else M.getD j nd0 := getD_set hi
theorem Sim.set (h : Sim N M T fr) {i : Nat} (hi : i < N.length) (ht : T.getD i false = true) {x : Nd} (hx : x.id = (i : Int) + 1) : Sim (N.set i x) (M.set i x) T fr := by
  refine ⟨by simpa using h.lm, by simpa using h.lt, fun j hj => ?_, fun j hj hj2 => ?_, by simpa using h.cnt⟩
  · rw [List.length_set] at hj
    rw [getD_set hi]
    by_cases e : i = j
    · subst e; rw [if_pos rfl, ht, hx]; simp
    · rw [if_neg e]; exact h.tk j hj
  · rw [List.length_set] at hj
    rw [getD_set hi, getM_set (by rw [h.lm]; exact hi)]
    by_cases e : i = j
    · rw [if_pos e, if_pos e]
    · rw [if_neg e, if_neg e]; exact h.nd j hj hj2
theorem Sim.take {f : List Int} {i : Nat} (h : Sim N M T (f ++ [(i : Int) + 1])) (hi : i < N.length) (ht : T.getD i false = false) {x : Nd} (hx : x.id = (i : Int) + 1) : Sim (N.set i x) (M.set i x) (T.set i true) f := by
  have hiT : i < T.length := by rw [h.lt]; exact hi
  refine ⟨by simpa using h.lm, by simpa using h.lt, fun j hj => ?_, fun j hj hj2 => ?_, ?_⟩
  · rw [List.length_set] at hj
    rw [getD_set hi, getB_set hiT]
    by_cases e : i = j
    · subst e; rw [if_pos rfl, if_pos rfl, hx]; simp
    · rw [if_neg e, if_neg e]; exact h.tk j hj
  · rw [List.length_set] at hj
    rw [getB_set hiT] at hj2
    rw [getD_set hi, getM_set (by rw [h.lm]; exact hi)]
    by_cases e : i = j
    · rw [if_pos e, if_pos e]
    · rw [if_neg e] at hj2; rw [if_neg e, if_neg e]; exact h.nd j hj hj2
  · rw [cntT_take hiT ht, List.length_set]
    have := h.cnt
    rw [List.length_append] at this
    simp at this
    omega
theorem Sim.give (h : Sim N M T fr) {i : Nat} (hi : i < N.length) (ht : T.getD i false = true) : Sim (N.set i nd0) M (T.set i false) (fr ++ [(i : Int) + 1]) := by
  have hiT : i < T.length := by rw [h.lt]; exact hi
  refine ⟨by simpa using h.lm, by simpa using h.lt, fun j hj => ?_, fun j hj hj2 => ?_, ?_⟩
  · rw [List.length_set] at hj
    rw [getD_set hi, getB_set hiT]
    by_cases e : i = j
    · subst e
      rw [if_pos rfl, if_pos rfl]
      show false = ((0 : Int) == (i : Int) + 1)
      simp
      omega
    · rw [if_neg e, if_neg e]; exact h.tk j hj
  · rw [List.length_set] at hj
    rw [getB_set hiT] at hj2
    by_cases e : i = j
    · rw [if_pos e] at hj2; cases hj2
    · rw [if_neg e] at hj2; rw [getD_set hi, if_neg e]; exact h.nd j hj hj2
  · have h1 := cntT_give hiT ht
    have h2 := h.cnt
    rw [List.length_set, List.length_append]
    simp
    omega
theorem Sim.push (h : Sim N M T []) {x : Nd} (hx : x.id = (N.length : Int) + 1) : Sim (N ++ [x]) (M ++ [x]) (T ++ [true]) [] := by
  have hl := h.lt
  have hm := h.lm
  refine ⟨by simpa using hm, by simpa using hl, fun j hj => ?_, fun j hj hj2 => ?_, ?_⟩
  · rw [List.length_append] at hj
    simp at hj
    rw [getD_push, getB_push, hl]
    by_cases e : j = N.length
    · rw [if_pos e, if_pos e, hx, e]; simp
    · rw [if_neg e, if_neg e]; exact h.tk j (by omega)
  · rw [List.length_append] at hj
    simp at hj
    rw [getB_push, hl] at hj2
    rw [getD_push, getD_push, hm]
    by_cases e : j = N.length
    · rw [if_pos e, if_pos e]
    · rw [if_neg e] at hj2; rw [if_neg e, if_neg e]; exact h.nd j (by omega) hj2
  · rw [cntT_push, List.length_append]
    have := h.cnt
    simp at this ⊢
    omega
end
end Go.Proofs.Ytljclikholchmaa
