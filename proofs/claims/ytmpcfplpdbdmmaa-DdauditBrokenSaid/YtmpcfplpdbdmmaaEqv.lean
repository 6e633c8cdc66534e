/- The table's answers are those of the specification's search; layer 25 (ddaudit). -/
import Derived.Test.YtmpcfplpdbdmmaaFnR
namespace Go.Proofs.Ytmpcfplpdbdmmaa
open Go.RowKit Go.Maps

def leO (o : Option Int) (a : Int) : Bool := match o with | none => false | some t => decide (t ≤ a)
theorem step_some (pos F : Int → Option Int) (x : Nd) (id : Int) : (topStep pos F x id).isSome = ((F id).isSome || decide (x.id = id)) := by
  unfold topStep
  by_cases h : x.id = id
  · subst h
    cases e : F x.id with
    | none => simp [putF]
    | some t => simp only; split <;> simp [putF, e]
  · have h2 : ¬ id = x.id := fun e => h e.symm
    cases e : F x.id with
    | none => simp [putF, h, h2]
    | some t => simp only; split <;> simp [putF, h, h2]
theorem step_le (pos F : Int → Option Int) (x : Nd) (id a : Int) : leO (topStep pos F x id) a = (leO (F id) a || (decide (x.id = id) && decide (posZ pos x.v ≤ a))) := by
  unfold topStep
  by_cases h : x.id = id
  · subst h
    cases e : F x.id with
    | none => simp [putF, leO]
    | some t =>
      simp only
      split
      · rename_i hlt
        simp [putF, leO]
        by_cases h1 : t ≤ a
        · have : posZ pos x.v ≤ a := by omega
          simp [h1, this]
        · simp [h1]
      · rename_i hlt
        simp [leO, e]
        by_cases h1 : posZ pos x.v ≤ a
        · have : t ≤ a := by omega
          simp [h1, this]
        · simp [h1]
  · have h2 : ¬ id = x.id := fun e => h e.symm
    cases e : F x.id with
    | none => simp [putF, h, h2]
    | some t => simp only; split <;> simp [putF, h, h2]
theorem fold_some (pos : Int → Option Int) (id : Int) : ∀ (l : List Nd) (F : Int → Option Int), ((l.foldl (topStep pos) F) id).isSome = ((F id).isSome || l.any (fun y => decide (y.id = id)))
  | [], F => by simp
  | x :: r, F => by rw [List.foldl_cons, fold_some pos id r, step_some, List.any_cons, Bool.or_assoc]
theorem fold_le (pos : Int → Option Int) (id a : Int) : ∀ (l : List Nd) (F : Int → Option Int), leO ((l.foldl (topStep pos) F) id) a = (leO (F id) a || l.any (fun y => decide (y.id = id) && decide (posZ pos y.v ≤ a)))
  | [], F => by simp
  | x :: r, F => by rw [List.foldl_cons, fold_le pos id a r, step_le, List.any_cons, Bool.or_assoc]
theorem lost_eq (pos : Int → Option Int) (l : List Nd) (e : Int) : lostP (topsF pos l) e = lostR l e := by
  unfold lostP lostR nodeF leadF topsF
  rw [fold_some]
  by_cases h : e < 0
  · simp [h]
  · have h2 : 0 ≤ e := by omega
    by_cases h3 : e / 2 = 0
    · simp [h, h3]
    · simp only [h, h2, h3, if_false, decide_false, Bool.false_or, Option.isSome_none, decide_true, Bool.true_and, ne_eq, not_false_eq_true, Bool.and_true]
      congr 1
      congr 1
      funext y
      simp [eq_comm]
theorem under_eq (order : List Int) (l : List Nd) (v e : Int) : (!underP (idxF order) (topsF (idxF order) l) v e) = wrongR order l (posZ (idxF order) v) e := by
  have key := fold_le (idxF order) (nodeF e) (posZ (idxF order) v) l (fun _ => none)
  by_cases h : e < 0
  · have h2 : ¬ 0 ≤ e := by omega
    unfold underP wrongR leadF
    simp [h, h2]
  · have h2 : 0 ≤ e := by omega
    have h3 : nodeF e = e / 2 := by unfold nodeF; rw [if_neg h]
    have e1 : (!underP (idxF order) (topsF (idxF order) l) v e) = leO (topsF (idxF order) l (nodeF e)) (posZ (idxF order) v) := by
      unfold underP leO
      cases topsF (idxF order) l (nodeF e) with
      | none => simp
      | some t => simp [h]; by_cases h4 : posZ (idxF order) v < t <;> simp [h4] <;> omega
    rw [e1]
    unfold topsF
    rw [key, h3]
    unfold wrongR leadF
    simp only [leO, Bool.false_or, h2, decide_true, Bool.true_and]
    congr 1
    funext y
    simp [eq_comm]
def dupB (x y : Nd) : Bool := decide (y.id = x.id) || (decide (y.v = x.v) && (decide (y.lo = x.lo) && decide (y.hi = x.hi)))
def dupR (L : List Nd) (x : Nd) : Bool := L.any (dupB x)
theorem dup_eq (L : List Nd) (x : Nd) (hL : ∀ y ∈ L, y.ok) (hx : x.ok) : (metS L (.int .i64 x.id) || shS L (skey x.v x.lo x.hi)) = dupR L x := by
  apply Bool.eq_iff_iff.2
  unfold metS shS dupR dupB
  simp only [Bool.or_eq_true, decide_eq_true_eq, List.any_eq_true, Bool.and_eq_true]
  constructor
  · rintro (⟨y, hy, e⟩ | ⟨y, hy, e⟩)
    · exact ⟨y, hy, .inl (by injection e)⟩
    · have h := hL y hy
      exact ⟨y, hy, .inr (skey_inj h.v h.lo h.hi hx.v hx.lo hx.hi e)⟩
  · rintro ⟨y, hy, (e | ⟨e1, e2, e3⟩)⟩
    · exact .inl ⟨y, hy, by rw [e]⟩
    · exact .inr ⟨y, hy, by rw [e1, e2, e3]⟩
theorem mem_na {l : List Nd} {y : Nd} (h : y ∈ l) : ∃ k, k < l.length ∧ na l k = y := by
  obtain ⟨k, hk, e⟩ := List.mem_iff_getElem.1 h
  exact ⟨k, hk, by unfold na; simp [List.getD, List.getElem?_eq_getElem hk, e]⟩
section
variable (order : List Int) (l : List Nd) (k : Nat)
theorem vio_4 : vioK order l k 4 = negF (na l k).hi := rfl
theorem vio_3 : vioK order l k 3 = decide ((na l k).lo = (na l k).hi) := rfl
theorem vio_5 : vioK order l k 5 = (lostR l (na l k).lo || lostR l (na l k).hi) := by rw [← lost_eq (idxF order), ← lost_eq (idxF order)]; rfl
theorem vio_1 : vioK order l k 1 = (decide (posZ (idxF order) (na l k).v < 0) || wrongR order l (posZ (idxF order) (na l k).v) (na l k).lo || wrongR order l (posZ (idxF order) (na l k).v) (na l k).hi) := by
  rw [← under_eq, ← under_eq]; rfl
theorem vio_2 (hN : OkN l) (hk : k < l.length) : vioK order l k 2 = dupR (l.take k) (na l k) := by
  rw [← dup_eq _ _ (fun y hy => ?_) (hN k hk)]
  · rfl
  · obtain ⟨j, hj, e⟩ := mem_na (List.mem_of_mem_take hy)
    rw [← e]; exact hN j hj
end
end Go.Proofs.Ytmpcfplpdbdmmaa
