/- Own rows of named trees, by append in a drawn region; layer 30 (terms). -/
import Derived.Test.YtcdpjodnbegepaaPt5
import Derived.Test.YtcdpjodnbegepaaRwt
namespace Go.Proofs.Ytcdpjodnbegepaa
open Go.RowKit

/-- An own row of the trees us from block B on; the trees lie in blocks of Q and from B on. -/
def RowK (Q : Nat → Prop) (w : World) (B : Nat) (v : Value) (n : Nat) (us : List Ex) : Prop := us.length = n ∧ ∃ (ka : Nat → Option Addr) (kc : Nat → Nat), w.ownsRow B 24 4 v n (csOf us ka kc) ∧
  ∀ i, i < n → RepS (fun y => (Q y ∨ B ≤ y) ∧ y < w.heap.size ∧ v.ownBlock ≠ some y) w (ka i) (kd us i)
theorem RowK.made (Q : Nat → Prop) (w : World) (B : Nat) (hB : B ≤ w.heap.size) : RowK Q (w.alloc (.cells #[] 24)) B (.slice (some ⟨w.heap.size, 0, none⟩) 0 0) 0 [] :=
  ⟨rfl, fun _ => none, fun _ => 0, World.ownsRow_made w #[] 0 hB (Nat.zero_le _) rfl, fun i hi => absurd hi (by omega)⟩
theorem RowK.form {Q : Nat → Prop} {w : World} {B n : Nat} {v : Value} {us : List Ex} (h : RowK Q w B v n us) : ∃ A c, v = .slice A n c := by
  obtain ⟨_, _, _, ho, _⟩ := h
  rcases ho.2 with ⟨rfl, rfl⟩ | ⟨g, cap, cur, rfl, _⟩
  · exact ⟨none, 0, rfl⟩
  · exact ⟨_, _, rfl⟩
theorem RowK.own_lt {Q : Nat → Prop} {w : World} {B n y : Nat} {v : Value} {us : List Ex} (h : RowK Q w B v n us) (hx : v.ownBlock = some y) : B ≤ y ∧ y < w.heap.size := by
  obtain ⟨_, _, _, ho, _⟩ := h
  exact ho.lt y hx
theorem RowK.below {Q : Nat → Prop} {w w' : World} {B n : Nat} {v : Value} {us : List Ex} (h : RowK Q w B v n us) (hb : Below w.heap.size w w') : RowK Q w' B v n us := by
  obtain ⟨hl, ka, kc, ho, hk⟩ := h
  exact ⟨hl, ka, kc, own_keepA ho hb, fun i hi => ((hk i hi).kept (fun b hbb => hb.block b hbb.2.1)).mono (fun b hbb => ⟨hbb.1, Nat.lt_of_lt_of_le hbb.2.1 hb.size, hbb.2.2⟩)⟩
theorem RowK.tree {Q : Nat → Prop} {w : World} {B n : Nat} {A : Option Addr} {c : Nat} {us : List Ex} (h : RowK Q w B (.slice A n c) n us) (o vr : Int) (nm : ByteArray) : RepS (fun y => (Q y ∨ B ≤ y) ∧ y < w.heap.size) w A (.mk o vr nm us) := by
  obtain ⟨hl, ka, kc, ho, hk⟩ := h
  rcases ho.2 with ⟨hv, h0⟩ | ⟨g, cap, cur, hv, hg, hh, _, _, _, htk⟩
  · have h0 : us = [] := List.eq_nil_of_length_eq_zero (by omega)
    subst h0
    exact .mk _ _ (fun _ => none) (fun _ => 0) (fun h => absurd h (by simp [Ex.ks])) (fun i hi => absurd hi (by simp [Ex.ks]))
  · have hB : Blk w g 24 cur := hh
    injection hv with e1 e2 e3
    subst e1
    refine .mk _ _ ka kc (fun _ => ⟨g, 0, rfl, ⟨.inr hg, hB.lt⟩, fun i hi => ?_⟩) (fun i hi => ?_)
    · have hi2 : i < us.length := hi
      obtain ⟨c0, c1, c2, c3⟩ := csOf_get (ka := ka) (kc := kc) hi2
      have hat : ∀ j u, (csOf us ka kc)[j]? = some u → w.cell? ⟨g, 0 + j, none⟩ = some u := fun j u hj => by
        rw [Nat.zero_add, hB.cell j]
        rw [← htk, List.getElem?_take] at hj
        split at hj
        · rwa [Array.getElem?_toList] at hj
        · cases hj
      exact ⟨hat _ _ c0, hat _ _ c1, hat _ _ c2, hat _ _ c3⟩
    · have hi2 : i < us.length := hi
      exact (hk i (by omega)).mono (fun b hb => ⟨hb.1, hb.2.1⟩)
/-- One tree more, as a step of a drawn region. -/
theorem step_app_k {ops : Array Oper} {o : Oper} {a : Act} {K : Act → World → Prop} {Q' : Exit → Act → World → Prop} {E : Prop} (hgd : o.guard = none) (s x : Operand)
    (ho : o.op = .call { callee := .builtin .append, args := #[s, x], argTypes := #[22, 22] }) (Q : Nat → Prop) (wr : World) (B n : Nat) (v : Value) (us : List Ex) (hs : a.eval s = v) (hrow : RowK Q wr B v n us) (t : Ex) (A : Option Addr) (c : Nat)
    (hx : a.eval x = .slice (some ⟨wr.heap.size, 0, none⟩) 1 1) (hT : RepS (fun y => (Q y ∨ B ≤ y) ∧ y < wr.heap.size ∧ v.ownBlock ≠ some y) wr A t) (_hQ : ∀ y, Q y → y < B) (hB : B ≤ wr.heap.size) (hn : n ≤ 1000000000)
    (h : ∀ v' w', RowK Q w' B v' (n + 1) (us ++ [t]) → Below B wr w' → K (a.put o.dst v') w') :
    if Region.wanted o (yielded ops a.tmps) = true then Oper.wp Try.prog o a (wr.alloc (.cells (exC t A c) 24)) K Q' else E := by
  obtain ⟨i0, hi0, hz0, hz1, hz2⟩ := info_parts info24
  have hw : Region.wanted o (yielded ops a.tmps) = true := by simp [Region.wanted, hgd]
  rw [if_pos hw]
  obtain ⟨hl, ka, kc, hown, hk⟩ := hrow
  have hal : Below wr.heap.size wr (wr.alloc (.cells (exC t A c) 24)) := (Below.refl _ _).alloc (Nat.le_refl _) _
  obtain ⟨v', w', hr, hO, hg, _, hnew⟩ := run_append_own_at (P := Try.prog) (wr.alloc (.cells (exC t A c) 24)) B 22 o.type 24 i0 _ 4 56 Try.underlying22 hi0 hz0 hz1 hz2 rfl (by decide) v n (csOf us ka kc) (own_keepA hown hal) ⟨wr.heap.size, 0, none⟩ 1 1 [.int .i64 t.op, .int .i64 t.vr, .string t.nm, .slice A t.ks.length c] rfl (fun j u hj => by
    have hB2 := Blk.new wr 24 (exC t A c)
    rw [adr_add, Nat.zero_add, hB2.cell j]
    simpa using hj) (by simp [Value.oneCell']) (by unfold maxLen; omega) (by omega) (by simp; omega)
  have hlt : ∀ y, v'.ownBlock = some y → v.ownBlock = some y ∨ y = wr.heap.size + 1 := fun y hy => by
    rcases hnew with q | q
    · exact .inl (q ▸ hy)
    · rw [hy] at q; simp at q; exact .inr q
  have keep : ∀ (A : Option Addr) (u : Ex), RepS (fun y => (Q y ∨ B ≤ y) ∧ y < wr.heap.size ∧ v.ownBlock ≠ some y) wr A u → RepS (fun y => (Q y ∨ B ≤ y) ∧ y < w'.heap.size ∧ v'.ownBlock ≠ some y) w' A u := fun A u hr => by
    refine (hr.kept (fun b hb => ?_)).mono (fun b hb => ⟨hb.1, ?_, fun e => ?_⟩)
    · have hbl := hb.2.1
      have h1 := hg.block b (by simp; omega) (fun e => hb.2.2 e.symm)
      rw [h1]
      exact hal.block b hb.2.1
    · have := hg.size; simp at this; have := hb.2.1; omega
    · rcases hlt b e with q | q
      · exact hb.2.2 q
      · have := hb.2.1; omega
  unfold Oper.wp
  simp [execOp, ho, resolve, invoke, builtin, hs, hx, hr, Result.andThen]
  refine h v' w' ⟨by simp [hl], fun i => if i = us.length then A else ka i, fun i => if i = us.length then c else kc i, by rw [csOf_snoc]; exact hO, fun i hi => ?_⟩ ?_
  · by_cases e : i = us.length
    · subst e
      simp only [if_pos]
      rw [kd_app_eq]
      exact keep _ _ hT
    · simp only [if_neg e]
      have hi2 : i < us.length := by omega
      rw [kd_app_lt hi2]
      exact keep _ _ (hk i (by omega))
  · exact (hal.mono hB).grown hg (by simp; omega) (fun k e => (hown.lt k e).1)
theorem putL_snoc (m : ByteArray) (x : Ex) : ∀ (l : List Ex) (t : Ex), putL m x (l ++ [t]) = putL m x l ++ [putE m x t]
  | [], t => rfl
  | a :: r, t => by show putE m x a :: putL m x (r ++ [t]) = _; rw [putL_snoc m x r t]; rfl
end Go.Proofs.Ytcdpjodnbegepaa
