/- DdauditBroken, over the contracts. -/
import Derived.Test.YtmpcfplpdbdmmaaOpn
import Derived.Deep.CutRange
import Derived.Deep.DeepCutAuto
import Derived.Deep.RegionLaw
namespace Go.Proofs.Ytmpcfplpdbdmmaa
open Go.RowKit Go.Maps

theorem step_app_nd {ops : Array Oper} {o : Oper} {a : Act} {K : Act → World → Prop} {Q' : Exit → Act → World → Prop} {E : Prop} (hgd : o.guard = none) (s x : Operand) (t : TypeId)
    (ho : o.op = .call { callee := .builtin .append, args := #[s, x], argTypes := #[t, t] })
    (base : Nat) (e : TypeId) (i : TypeInfo) (z : Value) (size bytes : Nat) (ht : Try.prog.underlying t = some (.slice e)) (hi : Try.prog.info? e = some i) (hz : i.zero = some z)
    (hsize : i.size = size) (hby : i.bytes = bytes) (hzs : z.cells.size = size) (hsz : 0 < size) (w : World)
    (v : Value) (n : Nat) (xs : List Value) (hs : a.eval s = v) (hown : w.ownsRow base e size v n xs)
    (b off m c : Nat) (news : List Value) (hx : a.eval x = .slice (some ⟨b, off, none⟩) m c) (hrow : ∀ j u, news[j]? = some u → w.cell? ⟨b, off + j, none⟩ = some u) (hl : news.length = m * size) (h1 : ∀ u ∈ news, u.oneCell' = true)
    (h63 : n + m ≤ maxLen) (hbytes : (n + m) * bytes ≤ 140737488355328) (hbase : base ≤ w.heap.size)
    (h : ∀ v' w', w'.ownsRow base e size v' (n + m) (xs ++ news) → w.grownBy w' v.ownBlock → K (a.put o.dst v') w') :
    if Region.wanted o (yielded ops a.tmps) = true then Oper.wp Try.prog o a w K Q' else E := by
  have hw : Region.wanted o (yielded ops a.tmps) = true := by simp [Region.wanted, hgd]
  rw [if_pos hw]
  obtain ⟨v', w', hr, hO, hg, _, _⟩ := run_append_own_at (P := Try.prog) w base t o.type e i z size bytes ht hi hz hsize hby hzs hsz v n xs hown ⟨b, off, none⟩ m c news hl (fun j u hj => by
      have e : (⟨b, off, none⟩ : Addr).add j = ⟨b, off + j, none⟩ := by unfold Addr.add; split <;> simp_all
      rw [e]; exact hrow j u hj) h1 h63 hbytes hbase
  unfold Oper.wp
  simp [execOp, ho, resolve, invoke, builtin, hs, hx, hr, Result.andThen]
  exact h v' w' hO hg
theorem own_belowR {w w' : World} {base n : Nat} {e : TypeId} {size : Nat} {v : Value} {xs : List Value} (h : w.ownsRow base e size v n xs) (hb : base ≤ w.heap.size) (hg : w.grownBy w' v.ownBlock) : Below base w w' := (Below.refl _ _).grown hg hb (fun k e => (World.ownsRow.lt h k e).1)
theorem info39 : (Try.prog.info? 39).map (fun i => (i.zero, i.size, i.bytes)) = some (some (.agg #[.int .i64 0, .int .i64 0, .int .i64 0, .int .i64 0, .int .i64 0]), 5, 40) := by kernel_rfl
def ndL (x : Nd) : List Value := (ndR x).toList
def ndC (l : List Nd) : List Value := l.flatMap ndL
theorem ndC_len (l : List Nd) : (ndC l).length = l.length * 5 := by
  unfold ndC
  induction l with
  | nil => rfl
  | cons x t ih => simp only [List.flatMap_cons, List.length_append, ih, List.length_cons, ndL, ndR]; simp; omega
theorem ndC_at : ∀ (l : List Nd) (k j : Nat), k < l.length → j < 5 → (ndC l)[k * 5 + j]? = (ndL (na l k))[j]?
  | [], k, j, h, _ => by simp at h
  | x :: t, 0, j, _, hj => by
    show (ndL x ++ ndC t)[0 * 5 + j]? = _
    rw [Nat.zero_mul, Nat.zero_add, List.getElem?_append_left (by show j < 5; exact hj)]
    rfl
  | x :: t, k + 1, j, h, hj => by
    have := ndC_at t k j (by simpa using h) hj
    show (ndL x ++ ndC t)[(k + 1) * 5 + j]? = _
    rw [List.getElem?_append_right (by show 5 ≤ _; omega)]
    have e : (k + 1) * 5 + j - (ndL x).length = k * 5 + j := by show _ - 5 = _; omega
    rw [e, this]
    rfl
theorem ndC_one (l : List Nd) : ∀ u ∈ ndC l, u.oneCell' = true := by
  intro u hu
  unfold ndC at hu
  obtain ⟨x, _, hx⟩ := List.mem_flatMap.1 hu
  simp [ndL, ndR] at hx
  rcases hx with rfl | rfl | rfl | rfl | rfl <;> rfl
theorem cells_of_row {w : World} {b f : Nat} {l : List Nd} (h : ∀ k, k < l.length →
  w.cell? ⟨b, f + k * 5, none⟩ = some (.int .i64 (na l k).id) ∧ w.cell? ⟨b, f + k * 5 + 1, none⟩ = some (.int .i64 (na l k).v) ∧ w.cell? ⟨b, f + k * 5 + 2, none⟩ = some (.int .i64 (na l k).lo) ∧ w.cell? ⟨b, f + k * 5 + 3, none⟩ = some (.int .i64 (na l k).hi) ∧ w.cell? ⟨b, f + k * 5 + 4, none⟩ = some (.int .i64 (na l k).refs)) :
    ∀ j u, (ndC l)[j]? = some u → w.cell? ⟨b, f + j, none⟩ = some u := by
  intro j u hj
  have hlt : j < (ndC l).length := (List.getElem?_eq_some_iff.1 hj).1
  rw [ndC_len] at hlt
  have hk : j / 5 < l.length := by omega
  have e : j = j / 5 * 5 + j % 5 := by omega
  rw [e] at hj
  rw [ndC_at l _ _ hk (by omega)] at hj
  obtain ⟨h0, h1, h2, h3, h4⟩ := h _ hk
  rw [e, ← Nat.add_assoc]
  generalize j / 5 = q at *
  have hr : j % 5 = 0 ∨ j % 5 = 1 ∨ j % 5 = 2 ∨ j % 5 = 3 ∨ j % 5 = 4 := by omega
  rcases hr with hr | hr | hr | hr | hr <;> rw [hr] at hj ⊢ <;> simp [ndL, ndR] at hj <;> subst hj
  · exact h0
  · exact h1
  · exact h2
  · exact h3
  · exact h4
theorem row_of_own {w : World} {base n : Nat} {v : Value} {l : List Nd} (hn : l.length = n) (hp : 0 < n) (h : w.ownsRow base 39 5 v n (ndC l)) : ∃ g c, v = .slice (some ⟨g, 0, none⟩) n c ∧ base ≤ g ∧ g < w.heap.size ∧ RowN w.heap.size w (some ⟨g, 0, none⟩) l := by
  subst hn
  have hlt := fun b (hb : v.ownBlock = some b) => World.ownsRow.lt h b hb
  obtain ⟨hl, h⟩ := h
  rcases h with ⟨rfl, h0⟩ | ⟨g, cap, cur, rfl, hg, hh, hn, hc, hsz, htk⟩
  · omega
  · refine ⟨g, cap, rfl, hg, (hlt g rfl).2, fun _ => ⟨g, 0, rfl, (hlt g rfl).2, fun k hk => ?_⟩⟩
    have hB : Blk w g 39 cur := hh
    have key : ∀ j u, j < 5 → (ndL (na l k))[j]? = some u → w.cell? ⟨g, 0 + k * 5 + j, none⟩ = some u := fun j u hj hu => by
      rw [← ndC_at l k j hk hj, ← htk, List.getElem?_take_of_lt (by omega)] at hu
      rw [hB.cell, Nat.zero_add, ← Array.getElem?_toList]; exact hu
    exact ⟨key 0 _ (by omega) rfl, key 1 _ (by omega) rfl, key 2 _ (by omega) rfl, key 3 _ (by omega) rfl, key 4 _ (by omega) rfl⟩
theorem mem_part (order : List Int) (l : List Nd) (k : Nat) (j : Nat) (h : vioK order l k (kd j) = true) : ∀ n, j < n → (⟨kd j, (na l k).id⟩ : Fd) ∈ partF order l k n
  | 0, hj => by omega
  | n + 1, hj => by
    unfold partF
    rw [List.mem_append]
    by_cases e : j = n
    · subst e; right; rw [if_pos h]; simp
    · left; exact mem_part order l k j h n (by omega)
theorem mem_all (order : List Int) (l : List Nd) (k j : Nat) (hj : j < 5) (h : vioK order l k (kd j) = true) : ∀ n, k < n → (⟨kd j, (na l k).id⟩ : Fd) ∈ allF order l n
  | 0, hk => by omega
  | n + 1, hk => by
    unfold allF
    rw [List.mem_append]
    by_cases e : k = n
    · subst e; right; exact mem_part order l k j h 5 hj
    · left; exact mem_all order l k j hj h n (by omega)
theorem na_app (l : List Nd) (x : Nd) : na (l ++ [x]) l.length = x := by unfold na; simp [List.getD]
theorem twice_mem (order : List Int) (l : List Nd) (k : Nat) (hk : k < l.length) : (⟨2, (na l k).id⟩ : Fd) ∈ allF order (l ++ [na l k]) (l.length + 1) := by
  have h := mem_all order (l ++ [na l k]) l.length 4 (by omega) ?_ (l.length + 1) (by omega)
  · rw [na_app] at h; exact h
  · show vioP _ _ _ _ 2 _ = true
    rw [na_app]
    unfold vioP
    have e : (l ++ [na l k]).take l.length = l := by simp
    rw [e]
    have : metS l (.int .i64 (na l k).id) = true := by
      unfold metS
      have hm : na l k ∈ l := by unfold na; simp [List.getD, List.getElem?_eq_getElem hk]
      simp only [decide_eq_true_eq]
      exact ⟨_, hm, rfl⟩
    simp [this]
theorem same_mem (order : List Int) (x : Nd) (h : x.lo = x.hi) : (⟨3, x.id⟩ : Fd) ∈ allF order [x] 1 := by
  have h := mem_all order [x] 0 1 (by omega) ?_ 1 (by omega)
  · exact h
  · show vioP _ _ _ _ 3 _ = true
    unfold vioP
    have e : na [x] 0 = x := rfl
    rw [e]
    simp [h]
end Go.Proofs.Ytmpcfplpdbdmmaa
