/- A pool with its list of released slots: the contracts together; layer 9 (pool). -/
import Derived.Test.YtljclikholchmaaFn7d
import Derived.Test.YtljclikholchmaaFnA
namespace Go.Proofs.Ytljclikholchmaa
open Go.RowKit

theorem nodup_bd : ∀ (n : Nat) (l : List Int), l.Nodup → (∀ x ∈ l, 1 ≤ x ∧ x ≤ n) → l.length ≤ n
  | 0, l, _, hb => by
    cases l with
    | nil => exact Nat.le_refl _
    | cons a t => have := hb a (by simp); omega
  | n + 1, l, h, hb => by
    by_cases hm : ((n : Int) + 1) ∈ l
    · have h1 := nodup_bd n (l.erase ((n : Int) + 1)) (h.erase _) (fun x hx => by
        have h2 := (h.mem_erase_iff).1 hx
        have := hb x h2.2
        have := h2.1
        omega)
      rw [List.length_erase_of_mem hm] at h1
      omega
    · have h1 := nodup_bd n l h (fun x hx => by
        have := hb x hx
        have : x ≠ (n : Int) + 1 := fun e => hm (e ▸ hx)
        omega)
      omega
/-- The slots N, of which fr are released. -/
structure Ok (N : List Nd) (fr : List Int) : Prop where
  nd : fr.Nodup
  rel : ∀ x ∈ fr, ∃ i : Nat, i < N.length ∧ x = (i : Int) + 1 ∧ N.getD i nd0 = nd0
  all : ∀ i : Nat, i < N.length → (N.getD i nd0).id = (i : Int) + 1 ∨ (N.getD i nd0 = nd0 ∧ (i : Int) + 1 ∈ fr)
theorem Ok.len {N : List Nd} {fr : List Int} (h : Ok N fr) : fr.length ≤ N.length :=
  nodup_bd _ _ h.nd (fun x hx => by obtain ⟨i, hi, rfl, _⟩ := h.rel x hx; omega)
theorem Ok.nil : Ok [] [] := ⟨List.nodup_nil, fun _ h => (by cases h), fun i h => (by cases h)⟩
theorem getD_set {N : List Nd} {i j : Nat} {x : Nd} (hi : i < N.length) : (N.set i x).getD j nd0 = if i = j then x else N.getD j nd0 := by
  simp only [List.getD, List.getElem?_set]
  by_cases e : i = j
  · subst e; simp [hi]
  · simp [e]
theorem getD_push {N : List Nd} {j : Nat} {x : Nd} : (N ++ [x]).getD j nd0 = if j = N.length then x else N.getD j nd0 := by
  simp only [List.getD]
  by_cases e : j = N.length
  · subst e; simp
  · by_cases h : j < N.length
    · rw [List.getElem?_append_left h, if_neg e]
    · rw [List.getElem?_append_right (by omega), if_neg e, List.getElem?_eq_none (by simp; omega), List.getElem?_eq_none (by omega)]
theorem Ok.push {N : List Nd} (h : Ok N []) {x : Nd} (hx : x.id = (N.length : Int) + 1) : Ok (N ++ [x]) [] := by
  refine ⟨List.nodup_nil, fun _ h => (by cases h), fun i hi => .inl ?_⟩
  rw [getD_push]
  by_cases e : i = N.length
  · rw [if_pos e, hx, e]
  · rw [if_neg e]
    simp at hi
    rcases h.all i (by omega) with h1 | ⟨_, h1⟩
    · exact h1
    · cases h1
theorem Ok.take {N : List Nd} {f : List Int} {i : Nat} (h : Ok N (f ++ [(i : Int) + 1])) {x : Nd} (hx : x.id = (i : Int) + 1) : i < N.length ∧ Ok (N.set i x) f := by
  obtain ⟨j, hj, e, hj0⟩ := h.rel ((i : Int) + 1) (by simp)
  obtain rfl : i = j := by omega
  have hnd := h.nd
  rw [List.nodup_append] at hnd
  refine ⟨hj, hnd.1, fun y hy => ?_, fun k hk => ?_⟩
  · obtain ⟨k, hk, rfl, hk0⟩ := h.rel y (List.mem_append_left _ hy)
    refine ⟨k, by simpa using hk, rfl, ?_⟩
    rw [getD_set hj, if_neg (fun e => by subst e; exact hnd.2.2 _ hy _ (by simp) rfl)]
    exact hk0
  · rw [getD_set hj]
    by_cases e : i = k
    · rw [if_pos e, hx, e]; exact .inl rfl
    · rw [if_neg e]
      rcases h.all k (by simpa using hk) with h1 | ⟨h1, h2⟩
      · exact .inl h1
      · refine .inr ⟨h1, ?_⟩
        simp at h2
        rcases h2 with h2 | h2
        · exact h2
        · omega
theorem Ok.give {N : List Nd} {f : List Int} {i : Nat} (h : Ok N f) (hi : i < N.length) (hx : (N.getD i nd0).id = (i : Int) + 1) : Ok (N.set i nd0) (f ++ [(i : Int) + 1]) ∧ ((i : Int) + 1) ∉ f := by
  have hni : ((i : Int) + 1) ∉ f := fun hm => by
    obtain ⟨j, hj, e, hj0⟩ := h.rel _ hm
    obtain rfl : i = j := by omega
    rw [hj0] at hx
    have : (0 : Int) = (i : Int) + 1 := hx
    omega
  refine ⟨⟨?_, fun y hy => ?_, fun k hk => ?_⟩, hni⟩
  · rw [List.nodup_append]
    exact ⟨h.nd, List.nodup_cons.2 ⟨by simp, List.nodup_nil⟩, fun a ha b hb => by
      simp at hb
      subst hb
      exact fun e => hni (e ▸ ha)⟩
  · rw [List.mem_append, List.mem_singleton] at hy
    rcases hy with hy | rfl
    · obtain ⟨k, hk, rfl, hk0⟩ := h.rel y hy
      refine ⟨k, by simpa using hk, rfl, ?_⟩
      rw [getD_set hi]
      split
      · rfl
      · exact hk0
    · exact ⟨i, by simpa using hi, rfl, by rw [getD_set hi, if_pos rfl]⟩
  · rw [getD_set hi]
    by_cases e : i = k
    · rw [if_pos e, e]; exact .inr ⟨rfl, by simp⟩
    · rw [if_neg e]
      rcases h.all k (by simpa using hk) with h1 | ⟨h1, h2⟩
      · exact .inl h1
      · exact .inr ⟨h1, List.mem_append_left _ h2⟩
theorem Ok.put {N : List Nd} {f : List Int} {i : Nat} (h : Ok N f) (hi : i < N.length) (hx : (N.getD i nd0).id = (i : Int) + 1) {x : Nd} (hid : x.id = (i : Int) + 1) : Ok (N.set i x) f := by
  have hni := (h.give hi hx).2
  refine ⟨h.nd, fun y hy => ?_, fun k hk => ?_⟩
  · obtain ⟨k, hk, rfl, hk0⟩ := h.rel y hy
    refine ⟨k, by simpa using hk, rfl, ?_⟩
    rw [getD_set hi, if_neg (fun e => by subst e; exact hni hy)]
    exact hk0
  · rw [getD_set hi]
    by_cases e : i = k
    · rw [if_pos e, hid, e]; exact .inl rfl
    · rw [if_neg e]
      exact h.all k (by simpa using hk)
/-- A pool at bp, in the blocks F, all of them from base on. -/
def Pl (w : World) (base bp : Nat) (room : Int) (F : Nat → Prop) (N : List Nd) (fr : List Int) : Prop :=
  ∃ An As cn cs st, PoolIn w base bp room An As cn cs N st fr.length ∧ st.take fr.length = fr ∧ st.length ≤ N.length ∧ Ok N fr ∧ (∀ b, PoolS bp An As b ↔ F b) ∧ room ≤ 1048576 ∧ (N.length : Int) ≤ room
/-- What a call leaves. -/
def PlNext (w : World) (base bp : Nat) (room : Int) (F : Nat → Prop) (N : List Nd) (fr : List Int) (w' : World) : Prop :=
  ∃ F', Pl w' base bp room F' N fr ∧ Frm F w w' ∧ ∀ b, F' b → F b ∨ w.heap.size ≤ b
section
variable {w w' : World} {base bp : Nat} {room : Int} {F : Nat → Prop} {N : List Nd} {fr : List Int}
theorem Pl.lo (h : Pl w base bp room F N fr) {b : Nat} (hb : F b) : base ≤ b ∧ b < w.heap.size := by
  obtain ⟨An, As, cn, cs, st, hP, _, _, _, hF, _⟩ := h
  have hb2 := (hF b).2 hb
  refine ⟨?_, hP.foot hb2⟩
  rcases hb2 with rfl | ⟨a, rfl, rfl⟩ | ⟨a, rfl, rfl⟩
  · exact hP.lo
  · exact (own_row hP.nodes _ rfl).1
  · exact (own_row hP.stack _ rfl).1
theorem Pl.frm {S : Nat → Prop} (h : Pl w base bp room F N fr) (hf : Frm S w w') (hS : ∀ b, F b → ¬ S b) : Pl w' base bp room F N fr := by
  have hlo := fun b hb => h.lo (b := b) hb
  obtain ⟨An, As, cn, cs, st, hP, h1, h2, h3, hF, h4⟩ := h
  exact ⟨An, As, cn, cs, st, hP.kept (S := F) (fun b hb => hf.block b (hlo b hb).2 (hS b hb)) (fun b hb => (hF b).1 hb), h1, h2, h3, hF, h4⟩
theorem Pl.below (h : Pl w base bp room F N fr) (hb : Below w.heap.size w w') : Pl w' base bp room F N fr :=
  h.frm (S := fun _ => False) (Frm.of_below hb) (fun _ _ h => h)
theorem PlNext.below (h : Pl w base bp room F N fr) {N' : List Nd} {fr' : List Int} (hn : PlNext w base bp room F N' fr' w') : Below base w w' := by
  obtain ⟨F', _, h2, _⟩ := hn
  obtain ⟨An, As, cn, cs, st, hP, _⟩ := id h
  exact h2.below (Nat.le_trans hP.lo (Nat.le_of_lt hP.head.lt)) (fun k hk => (h.lo hk).1)
theorem Pl.bd (h : Pl w base bp room F N fr) : N.length ≤ 1048576 ∧ fr.length ≤ N.length ∧ base ≤ bp ∧ bp < w.heap.size ∧ (N.length : Int) ≤ room ∧ room ≤ 1048576 := by
  obtain ⟨An, As, cn, cs, st, hP, h1, h2, h3, hF, h4, h5⟩ := h
  exact ⟨by omega, h3.len, hP.lo, hP.head.lt, h5, h4⟩
theorem pl_New {n : Int} (hn : 1 ≤ n) (hn2 : n ≤ 1048576) (w : World) :
    Calls Try.prog 8 #[.int .i64 n] w fun e w' => e = .returned (.tuple #[.pointer (some ⟨w.heap.size, 0, none⟩), .int .i64 0]) ∧ (∃ F, Pl w' w.heap.size w.heap.size n F [] []) ∧ Below w.heap.size w w' :=
  (pool_New hn hn2 w).mono fun e w' ⟨h1, h2, h3⟩ => ⟨h1, ⟨_, none, none, 0, 0, [], h2, rfl, Nat.le_refl _, Ok.nil, fun b => Iff.rfl, hn2, by simp; omega⟩, h3⟩
theorem pl_Room (h : Pl w base bp room F N fr) : Calls Try.prog 15 #[.pointer (some ⟨bp, 0, none⟩)] w fun e w' => e = .returned (.int .i64 room) ∧ w = w' := by
  obtain ⟨An, As, cn, cs, st, hP, _⟩ := h
  exact pool_Room hP
theorem pl_Len (h : Pl w base bp room F N fr) : Calls Try.prog 13 #[.pointer (some ⟨bp, 0, none⟩)] w fun e w' => e = .returned (.int .i64 ((N.length - fr.length : Nat) : Int)) ∧ Below w.heap.size w w' := by
  have hb := h.bd
  obtain ⟨An, As, cn, cs, st, hP, _⟩ := h
  exact pool_Len hP hb.1 hb.2.1
theorem pl_At (h : Pl w base bp room F N fr) (id : Int) (hid : (Lit.int .i64 id).wf = true) : Calls Try.prog 11 #[.pointer (some ⟨bp, 0, none⟩), .int .i64 id] w fun e w' =>
    e = .returned (.tuple #[ndV (if hasF N id then N.getD (id - 1).toNat nd0 else nd0), .bool (hasF N id)]) ∧ Below w.heap.size w w' := by
  have hb := h.bd
  obtain ⟨An, As, cn, cs, st, hP, _⟩ := h
  exact pool_At hP hb.1 id hid
theorem pl_All (h : Pl w base bp room F N fr) (most : Int) : Calls Try.prog 17 #[.pointer (some ⟨bp, 0, none⟩), .int .i64 most] w fun e w' =>
    ∃ v, e = .returned v ∧ OwnN w' w.heap.size v ((eachN N).take most.toNat) ∧ Below w.heap.size w w' := by
  have hb := h.bd
  obtain ⟨An, As, cn, cs, st, hP, _⟩ := h
  exact law_All hP hb.1 most
theorem pl_Take_full (h : Pl w base bp room F N []) (hr : room = N.length) (x : Nd) : Calls Try.prog 19 #[.pointer (some ⟨bp, 0, none⟩), ndV x] w fun e w' =>
    e = .returned (.tuple #[.int .i64 0, .int .i64 7]) ∧ PlNext w base bp room F N [] w' := by
  have hb := h.bd
  obtain ⟨An, As, cn, cs, st, hP, h1, h2, h3, hF, h4, h5⟩ := h
  refine (pool_Take_full hP hb.1 (by omega) x).mono fun e w' ⟨q1, q2, q3⟩ => ⟨q1, F, ⟨An, As, cn, cs, st, q2, h1, h2, h3, hF, h4, h5⟩, ?_, fun b hb => .inl hb⟩
  have : F = PoolS bp An As := by funext b; exact propext (hF b).symm
  rw [this]; exact q3
theorem pl_Take_new (h : Pl w base bp room F N []) (hr : (N.length : Int) < room) (x : Nd) : Calls Try.prog 19 #[.pointer (some ⟨bp, 0, none⟩), ndV x] w fun e w' =>
    e = .returned (.tuple #[.int .i64 ((N.length : Int) + 1), .int .i64 0]) ∧ PlNext w base bp room F (N ++ [{ x with id := (N.length : Int) + 1 }]) [] w' := by
  have hb := h.bd
  obtain ⟨An, As, cn, cs, st, hP, h1, h2, h3, hF, h4, h5⟩ := h
  refine (pool_Take_new hP (by omega) hr x).mono fun e w' ⟨g', c', q1, q2, q3, q4⟩ => ⟨q1, _, ⟨_, As, c', cs, st, q2, h1, by simp; omega, h3.push rfl, fun b => Iff.rfl, h4, by simp; omega⟩, ?_, fun b hb => ?_⟩
  · have : F = PoolS bp An As := by funext b; exact propext (hF b).symm
    rw [this]; exact q3
  · rcases hb with rfl | ⟨a, ha, rfl⟩ | hb
    · exact .inl ((hF _).1 (.inl rfl))
    · cases ha
      rcases q4 with q4 | q4
      · exact .inl ((hF _).1 (.inr (.inl ⟨_, q4, rfl⟩)))
      · exact .inr (Nat.le_of_lt q4)
    · exact .inl ((hF _).1 (.inr (.inr hb)))
theorem pl_Take_free {f : List Int} {i : Nat} (h : Pl w base bp room F N (f ++ [(i : Int) + 1])) (x : Nd) : Calls Try.prog 19 #[.pointer (some ⟨bp, 0, none⟩), ndV x] w fun e w' =>
    e = .returned (.tuple #[.int .i64 ((i : Int) + 1), .int .i64 0]) ∧ PlNext w base bp room F (N.set i { x with id := (i : Int) + 1 }) f w' := by
  have hb := h.bd
  obtain ⟨An, As, cn, cs, st, hP, h1, h2, h3, hF, h4, h5⟩ := h
  have ht := h3.take (x := { x with id := (i : Int) + 1 }) rfl
  have hl : (f ++ [(i : Int) + 1]).length = f.length + 1 := by simp
  rw [hl] at hP h1
  have hk : st[f.length]? = some ((i : Int) + 1) := by
    have e1 : (st.take (f.length + 1))[f.length]? = some ((i : Int) + 1) := by rw [h1]; simp
    rw [List.getElem?_take_of_lt (by omega)] at e1
    exact e1
  have hf : st.take f.length = f := by
    have e1 : (st.take (f.length + 1)).take f.length = f := by rw [h1]; simp
    rw [List.take_take, Nat.min_eq_left (by omega)] at e1
    exact e1
  refine (pool_Take_free hP hb.1 (by omega) hk ht.1 x).mono fun e w' ⟨q1, q2, q3⟩ => ⟨q1, F, ⟨An, As, cn, cs, st, q2, hf, by simpa using h2, ht.2, hF, h4, by simpa using h5⟩, ?_, fun b hb => .inl hb⟩
  have : F = PoolS bp An As := by funext b; exact propext (hF b).symm
  rw [this]; exact q3
theorem pl_Give_none (h : Pl w base bp room F N fr) (id : Int) (hid : (Lit.int .i64 id).wf = true) (hf : hasF N id = false) : Calls Try.prog 20 #[.pointer (some ⟨bp, 0, none⟩), .int .i64 id] w fun e w' => e = .returned (.int .i64 5) ∧ w = w' := by
  have hb := h.bd
  obtain ⟨An, As, cn, cs, st, hP, _⟩ := h
  exact pool_Give_none hP hb.1 id hid hf
theorem pl_Give {i : Nat} (h : Pl w base bp room F N fr) (hi : i < N.length) (hx : (N.getD i nd0).id = (i : Int) + 1) : Calls Try.prog 20 #[.pointer (some ⟨bp, 0, none⟩), .int .i64 ((i : Int) + 1)] w fun e w' =>
    e = .returned (.int .i64 0) ∧ PlNext w base bp room F (N.set i nd0) (fr ++ [(i : Int) + 1]) w' := by
  have hb := h.bd
  obtain ⟨An, As, cn, cs, st, hP, h1, h2, h3, hF, h4, h5⟩ := h
  have hg := h3.give hi hx
  have hlen := hg.1.len
  simp at hlen
  have hfle : fr.length ≤ st.length := hP.le
  have fin : ∀ e w', GiveOk w base bp room An As cn N st fr.length i e w' → e = .returned (.int .i64 0) ∧ PlNext w base bp room F (N.set i nd0) (fr ++ [(i : Int) + 1]) w' := by
    rintro e w' ⟨gs, cs', q1, q2, q3, q4⟩
    have hl : (fr ++ [(i : Int) + 1]).length = fr.length + 1 := by simp
    refine ⟨q1, _, ⟨An, _, cn, cs', _, by rw [hl]; exact q2, ?_, ?_, hg.1, fun b => Iff.rfl, h4, by simpa using h5⟩, ?_, fun b hb => ?_⟩
    · rw [hl, h1, List.take_append, List.take_of_length_le (by omega : fr.length ≤ fr.length + 1)]
      simp
    · rw [h1]
      simp
      omega
    · have : F = PoolS bp An As := by funext b; exact propext (hF b).symm
      rw [this]; exact q3
    · rcases hb with rfl | hb | ⟨a, ha, rfl⟩
      · exact .inl ((hF _).1 (.inl rfl))
      · exact .inl ((hF _).1 (.inr (.inl hb)))
      · cases ha
        rcases q4 with q4 | q4
        · exact .inl ((hF _).1 (.inr (.inr ⟨_, q4, rfl⟩)))
        · exact .inr q4
  rcases Nat.eq_or_lt_of_le hfle with e | e
  · exact (pool_Give_new hP hb.1 (by omega) hi hx e).mono fin
  · exact (pool_Give_old hP hb.1 (by omega) hi hx e).mono fin
end
end Go.Proofs.Ytljclikholchmaa
