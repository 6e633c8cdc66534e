/- The contract of the specification's typed and Type, of layer 30 (terms). -/
import Derived.Test.YtcdpjodnbegepaaJx
namespace Go.Proofs.Ytcdpjodnbegepaa
open Go.RowKit

theorem span_err {lo hi : Int} (h : (spanS lo hi).2 ≠ 0) : (spanS lo hi).1 = ty0 := by
  unfold spanS at h ⊢
  split
  · rfl
  · rename_i g; rw [if_neg g] at h; exact absurd rfl h
theorem tyOf_err {t : Ex} {l : List Ty} (h : (tyOf t l).2 ≠ 0) : (tyOf t l).1 = ty0 := by
  unfold tyOf reachS at h ⊢
  by_cases g0 : suitS t.op l = false
  · rw [if_pos g0]
  rw [if_neg g0] at h ⊢
  by_cases g1 : t.op = 1
  · rw [if_pos g1] at h ⊢; exact span_err h
  rw [if_neg g1] at h ⊢
  by_cases g2 : t.op = 14 ∨ t.op = 15 ∨ t.op = 16
  · rw [if_pos g2] at h ⊢; exact span_err h
  rw [if_neg g2] at h ⊢
  by_cases g3 : t.op = 17
  · rw [if_pos g3] at h ⊢
    by_cases g4 : (kd t.ks 1).op = 1 ∧ 0 < (kd t.ks 1).vr
    · rw [if_pos g4] at h ⊢; exact span_err h
    · rw [if_neg g4]
  rw [if_neg g3] at h ⊢
  by_cases g5 : t.op = 18
  · rw [if_pos g5] at h ⊢
    by_cases g6 : (ty l 1).b = true
    · rw [if_pos g6] at h; exact absurd rfl h
    · rw [if_neg g6] at h ⊢; exact span_err h
  · rw [if_neg g5] at h; exact absurd rfl h
theorem node_err {vs : List Vr} {nx : Bool} {t : Ex} {l : List Ty} (h : (nodeT vs nx t l).2 ≠ 0) : (nodeT vs nx t l).1 = ty0 := by
  unfold nodeT at h ⊢
  by_cases g : t.op = 3 ∨ t.op = 4
  · rw [if_pos g] at h ⊢
    unfold varT at h ⊢
    cases hi : idxN t.nm vs with
    | none => rfl
    | some i =>
      rw [hi] at h
      show (if t.op = 4 ∧ nx = false then (ty0, 24) else vspan (va vs i)).1 = ty0
      have h2 : (if t.op = 4 ∧ nx = false then (ty0, (24 : Int)) else vspan (va vs i)).2 ≠ 0 := h
      by_cases g2 : t.op = 4 ∧ nx = false
      · rw [if_pos g2]
      · rw [if_neg g2] at h2 ⊢
        unfold vspan at h2 ⊢
        by_cases g6 : (va vs i).b = true
        · rw [if_pos g6] at h2; exact absurd rfl h2
        · rw [if_neg g6] at h2 ⊢; exact span_err h2
  · rw [if_neg g] at h ⊢; exact tyOf_err h
mutual
theorem fd_err (vs : List Vr) (nx : Bool) : ∀ t : Ex, (fd ty0 (nodeT vs nx) t).2 ≠ 0 → (fd ty0 (nodeT vs nx) t).1 = ty0
  | .mk o v m ks, h => by
    rw [fd_eq] at h ⊢
    have hk := fdL_err vs nx ks
    by_cases g : (fdL ty0 (nodeT vs nx) ks).2 = 0
    · have e : (fdL ty0 (nodeT vs nx) (Ex.mk o v m ks).ks).2 = 0 := g
      rw [if_pos e] at h ⊢
      exact node_err h
    · have e : ¬ (fdL ty0 (nodeT vs nx) (Ex.mk o v m ks).ks).2 = 0 := g
      rw [if_neg e]
      exact hk g
theorem fdL_err (vs : List Vr) (nx : Bool) : ∀ ks : List Ex, (fdL ty0 (nodeT vs nx) ks).2 ≠ 0 → (fdL ty0 (nodeT vs nx) ks).1.2 = ty0
  | [], h => absurd rfl h
  | t :: r, h => by
    by_cases g : (fd ty0 (nodeT vs nx) t).2 = 0
    · have e : fdL ty0 (nodeT vs nx) (t :: r) = (((fd ty0 (nodeT vs nx) t).1 :: (fdL ty0 (nodeT vs nx) r).1.1, (fdL ty0 (nodeT vs nx) r).1.2), (fdL ty0 (nodeT vs nx) r).2) := if_pos g
      rw [e] at h ⊢
      exact fdL_err vs nx r h
    · have e : fdL ty0 (nodeT vs nx) (t :: r) = (([], (fd ty0 (nodeT vs nx) t).1), (fd ty0 (nodeT vs nx) t).2) := if_neg g
      rw [e]
      exact fd_err vs nx t g
end
theorem rf_join (t : Ex) (A : Option Addr) (c : Nat) (l : List Ty) (K : Option Addr) (ck : Nat) (w : World) (hg : Good t) (hR : Rep w.heap.size w A t) (hT : Tys w.heap.size w K l) (hl : l.length = t.ks.length) (ho : 5 ≤ t.op) (hk : ∀ y, y ∈ l → TyK y) :
    Calls Try.prog 68 #[exV t A c, .slice K l.length ck] w (TyE (tyOf t l) w) := by
  have hn := hg.node
  obtain ⟨_, o2, _, _, _, _, h1, h2⟩ := hn
  unfold kidL at h1
  unfold kidM at h2
  rw [if_neg (by omega)] at h1 h2
  by_cases g1 : t.op ≤ 9
  · exact rf_join_tr t A c l K ck w hT ⟨ho, g1⟩ (by (repeat' split at h2) <;> omega)
  by_cases g2 : t.op = 18
  · have hl3 : l.length = 3 := by (repeat' split at h1) <;> (repeat' split at h2) <;> omega
    match l, hl3 with
    | [a0, a1, a2], _ => exact rf_join_if t A c a0 a1 a2 K ck w hT g2
  have hl2 : l.length = 2 := by (repeat' split at h1) <;> (repeat' split at h2) <;> omega
  match l, hl2 with
  | [a0, a1], _ =>
    have k0 := hk a0 (by simp)
    have k1 := hk a1 (by simp)
    rcases (by omega : t.op = 10 ∨ t.op = 11 ∨ t.op = 12 ∨ t.op = 13 ∨ t.op = 14 ∨ t.op = 15 ∨ t.op = 16 ∨ t.op = 17) with g | g | g | g | g | g | g | g
    · exact rf_join_eq t A c a0 a1 K ck w hT (.inl g)
    · exact rf_join_eq t A c a0 a1 K ck w hT (.inr g)
    · exact rf_join_cmp t A c a0 a1 K ck w hT (.inl g)
    · exact rf_join_cmp t A c a0 a1 K ck w hT (.inr g)
    · exact rf_join_add t A c a0 a1 K ck w hT g k0 k1
    · exact rf_join_sub t A c a0 a1 K ck w hT g k0 k1
    · exact rf_join_mul t A c a0 a1 K ck w hT g k0 k1
    · have hks : t.ks.length = 2 := by rw [← hl]; rfl
      exact rf_join_mod t A c a0 a1 K ck w hR hT g hks (okN_i64 (hg.kid (kd_mem (by omega))).node)
/-- append of one type, in a plain region. -/
theorem wpList_app_ty {ops : Array Oper} {rest : List Oper} {o : Oper} {a : Act} {Q : Exit → Act → World → Prop} (hgd : o.guard = none) (s x : Operand)
    (ho : o.op = .call { callee := .builtin .append, args := #[s, x], argTypes := #[71, 71] }) (W : World) (B n : Nat) (v : Value) (l : List Ty) (hs : a.eval s = v) (hrow : OwnT W B v n l) (ad : Addr) (y : Ty)
    (hx : a.eval x = .slice (some ad) 1 1) (hc : ∀ j u, (tyC y)[j]? = some u → W.cell? (ad.add j) = some u) (hB : B ≤ W.heap.size) (hn : n ≤ 1000000000)
    (h : ∀ A' c' w', OwnT w' B (.slice A' (n + 1) c') (n + 1) (l ++ [y]) → Below B W w' → wpList Try.prog ops Q rest (a.put o.dst (.slice A' (n + 1) c')) w') : wpList Try.prog ops Q (o :: rest) a W := by
  obtain ⟨i0, hi0, hz0, hz1, hz2⟩ := info_parts info39
  refine wpList_append_own_at _ hgd s x 71 ho B 39 i0 _ 3 24 Try.underlying71 hi0 hz0 hz1 hz2 rfl (by decide) v n (l.flatMap tyC) hs hrow ad 1 1 (tyC y) hx rfl hc (ty_one y) (by unfold maxLen; omega) (by omega) hB ?_
  intro v' w' hO hg _ _
  have ho2 : OwnT w' B v' (n + 1) (l ++ [y]) := by unfold OwnT; rw [List.flatMap_append]; simpa using hO
  obtain ⟨A', c', rfl, _⟩ := ho2.form
  exact h A' c' w' ho2 ((Below.refl _ _).grown hg hB (fun k e => (World.ownsRow.lt hrow k e).1))
end Go.Proofs.Ytcdpjodnbegepaa
