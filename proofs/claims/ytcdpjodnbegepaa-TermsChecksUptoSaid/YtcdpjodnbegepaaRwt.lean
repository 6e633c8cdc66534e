/- Own rows of terms, by append; layer 30 (terms). -/
import Derived.Test.YtcdpjodnbegepaaRps
import Derived.Test.YtcdpjodnbegepaaFnC
import Derived.Test.YtcdpjodnbegepaaInts
namespace Go.Proofs.Ytcdpjodnbegepaa
open Go.RowKit

theorem adr_add (b o j : Nat) : (⟨b, o, none⟩ : Addr).add j = ⟨b, o + j, none⟩ := by unfold Addr.add; split <;> simp_all
theorem own_keepA {w w' : World} {base e size n : Nat} {v : Value} {xs : List Value} (h : w.ownsRow base e size v n xs) (hb : Below w.heap.size w w') : w'.ownsRow base e size v n xs := by
  obtain ⟨h1, h2⟩ := h
  refine ⟨h1, ?_⟩
  rcases h2 with h2 | ⟨g, cap, cur, e, hg, hh, r⟩
  · exact .inl h2
  · have hlt : g < w.heap.size := by
      rcases Nat.lt_or_ge g w.heap.size with q | q
      · exact q
      · rw [Array.getElem?_eq_none q] at hh; cases hh
    exact .inr ⟨g, cap, cur, e, hg, (hb.block g hlt).trans hh, r⟩
theorem csOf_get {ks : List Ex} {ka : Nat → Option Addr} {kc : Nat → Nat} {i : Nat} (hi : i < ks.length) : (csOf ks ka kc)[i * 4]? = some (.int .i64 (kd ks i).op) ∧ (csOf ks ka kc)[i * 4 + 1]? = some (.int .i64 (kd ks i).vr) ∧ (csOf ks ka kc)[i * 4 + 2]? = some (.string (kd ks i).nm) ∧ (csOf ks ka kc)[i * 4 + 3]? = some (.slice (ka i) (kd ks i).ks.length (kc i)) :=
  ⟨csOf_at (j := 0) hi (by omega), csOf_at (j := 1) hi (by omega), csOf_at (j := 2) hi (by omega), csOf_at (j := 3) hi (by omega)⟩
theorem flat3_congr {α : Type} (f g h k f' g' h' k' : Nat → α) : ∀ l : List Nat, (∀ i, i ∈ l → f i = f' i ∧ g i = g' i ∧ h i = h' i ∧ k i = k' i) → (l.flatMap fun i => [f i, g i, h i, k i]) = l.flatMap fun i => [f' i, g' i, h' i, k' i]
  | [], _ => rfl
  | a :: r, hh => by
    obtain ⟨h1, h2, h3, h4⟩ := hh a (List.mem_cons_self ..)
    rw [List.flatMap_cons, List.flatMap_cons, flat3_congr f g h k f' g' h' k' r (fun i hi => hh i (List.mem_cons_of_mem _ hi)), h1, h2, h3, h4]
theorem kd_app_lt {ts : List Ex} {t : Ex} {i : Nat} (h : i < ts.length) : kd (ts ++ [t]) i = kd ts i := by
  unfold kd; simp [List.getD, List.getElem?_append_left h]
theorem kd_app_eq (ts : List Ex) (t : Ex) : kd (ts ++ [t]) ts.length = t := by
  unfold kd; simp [List.getD]
theorem csOf_snoc (ts : List Ex) (ka : Nat → Option Addr) (kc : Nat → Nat) (t : Ex) (A : Option Addr) (c : Nat) :
    csOf (ts ++ [t]) (fun i => if i = ts.length then A else ka i) (fun i => if i = ts.length then c else kc i) = csOf ts ka kc ++ [.int .i64 t.op, .int .i64 t.vr, .string t.nm, .slice A t.ks.length c] := by
  unfold csOf
  rw [List.length_append, List.length_singleton, List.range_succ, List.flatMap_append]
  congr 1
  · refine flat3_congr _ _ _ _ _ _ _ _ _ (fun i hi => ?_)
    have hi2 : i < ts.length := List.mem_range.1 hi
    have hne : i ≠ ts.length := by omega
    rw [kd_app_lt hi2]
    simp [hne]
  · simp only [List.flatMap_cons, List.flatMap_nil, List.append_nil, if_pos]
    rw [kd_app_eq]
theorem szL_app (a b : List Ex) : szL (a ++ b) = szL a + szL b := by
  induction a with
  | nil => simp [szL]
  | cons x r ih => rw [List.cons_append, szL, szL, ih]; omega
/-- An own row of n expressions from block B on, s parts at most. -/
def RowT (w : World) (B : Nat) (v : Value) (n s : Nat) : Prop := ∃ (ts : List Ex) (ka : Nat → Option Addr) (kc : Nat → Nat), ts.length = n ∧ w.ownsRow B 24 4 v n (csOf ts ka kc) ∧
  (∀ i, i < n → RepS (fun x => (B ≤ x ∧ x < w.heap.size) ∧ v.ownBlock ≠ some x) w (ka i) (kd ts i)) ∧ szL ts ≤ s
theorem RowT.made (w : World) : RowT (w.alloc (.cells #[] 24)) w.heap.size (.slice (some ⟨w.heap.size, 0, none⟩) 0 0) 0 0 :=
  ⟨[], fun _ => none, fun _ => 0, rfl, World.ownsRow_made w #[] 0 (Nat.le_refl _) (Nat.zero_le _) rfl, fun i hi => absurd hi (by omega), Nat.le_refl _⟩
theorem RowT.form {w : World} {B n s : Nat} {v : Value} (h : RowT w B v n s) : ∃ A c, v = .slice A n c := by
  obtain ⟨_, _, _, _, ho, _⟩ := h
  rcases ho.2 with ⟨rfl, rfl⟩ | ⟨g, cap, cur, rfl, _⟩
  · exact ⟨none, 0, rfl⟩
  · exact ⟨_, _, rfl⟩
theorem RowT.own_lt {w : World} {B n s x : Nat} {v : Value} (h : RowT w B v n s) (hx : v.ownBlock = some x) : B ≤ x ∧ x < w.heap.size := by
  obtain ⟨_, _, _, _, ho, _⟩ := h
  exact ho.lt x hx
theorem RowT.below {w w' : World} {B n s : Nat} {v : Value} (h : RowT w B v n s) (hb : Below w.heap.size w w') : RowT w' B v n s := by
  obtain ⟨ts, ka, kc, hl, ho, hk, hs⟩ := h
  exact ⟨ts, ka, kc, hl, own_keepA ho hb, fun i hi => ((hk i hi).kept (fun b hbb => hb.block b hbb.1.2)).mono (fun b hbb => ⟨⟨hbb.1.1, by have := hb.size; have := hbb.1.2; omega⟩, hbb.2⟩), hs⟩
theorem RowT.more {w : World} {B n s s' : Nat} {v : Value} (h : RowT w B v n s) (hs : s ≤ s') : RowT w B v n s' := by
  obtain ⟨ts, ka, kc, hl, ho, hk, h2⟩ := h
  exact ⟨ts, ka, kc, hl, ho, hk, by omega⟩
/-- The row is the Kids of a tree. -/
theorem RowT.tree {w : World} {B n s : Nat} {v : Value} (h : RowT w B v n s) (o : Int) : ∃ A c ts, v = .slice A n c ∧ ts.length = n ∧ RepS (fun b => B ≤ b ∧ b < w.heap.size) w A (.mk o 0 ⟨#[]⟩ ts) ∧ (Ex.mk o 0 ⟨#[]⟩ ts).sz ≤ s + 1 := by
  obtain ⟨ts, ka, kc, hl, ho, hk, hs⟩ := h
  have hsz : (Ex.mk o 0 ⟨#[]⟩ ts).sz ≤ s + 1 := by rw [sz_eq]; show 1 + szL ts ≤ _; omega
  rcases ho.2 with ⟨rfl, rfl⟩ | ⟨g, cap, cur, rfl, hg, hh, _, _, _, htk⟩
  · have h0 : ts = [] := List.eq_nil_of_length_eq_zero hl
    subst h0
    exact ⟨none, 0, [], rfl, rfl, .mk _ _ (fun _ => none) (fun _ => 0) (fun h => absurd h (by simp [Ex.ks])) (fun i hi => absurd hi (by simp [Ex.ks])), hsz⟩
  · have hB : Blk w g 24 cur := hh
    refine ⟨some ⟨g, 0, none⟩, cap, ts, rfl, hl, .mk _ _ ka kc (fun _ => ⟨g, 0, rfl, ⟨hg, hB.lt⟩, fun i hi => ?_⟩) (fun i hi => ?_), hsz⟩
    · have hi2 : i < ts.length := hi
      obtain ⟨c0, c1, c2, c3⟩ := csOf_get (ka := ka) (kc := kc) hi2
      have hat : ∀ j u, (csOf ts ka kc)[j]? = some u → w.cell? ⟨g, 0 + j, none⟩ = some u := fun j u hj => by
        rw [Nat.zero_add, hB.cell j]
        rw [← htk, List.getElem?_take] at hj
        split at hj
        · rwa [Array.getElem?_toList] at hj
        · cases hj
      exact ⟨hat _ _ c0, hat _ _ c1, hat _ _ c2, hat _ _ c3⟩
    · have hi2 : i < ts.length := hi
      exact (hk i (by omega)).mono (fun b hb => hb.1)
/-- One expression more. -/
theorem wpList_app_ex {ops : Array Oper} {rest : List Oper} {o : Oper} {a : Act} {Q : Exit → Act → World → Prop} (hgd : o.guard = none) (s x : Operand)
    (ho : o.op = .call { callee := .builtin .append, args := #[s, x], argTypes := #[22, 22] }) (wr : World) (B n sz : Nat) (v : Value) (hs : a.eval s = v) (hrow : RowT wr B v n sz) (t : Ex) (A : Option Addr) (c : Nat)
    (hx : a.eval x = .slice (some ⟨wr.heap.size, 0, none⟩) 1 1) (hT : RepS (fun x => (B ≤ x ∧ x < wr.heap.size) ∧ v.ownBlock ≠ some x) wr A t) (hB : B ≤ wr.heap.size) (hn : n ≤ 1000000)
    (h : ∀ v' w', RowT w' B v' (n + 1) (sz + t.sz) → Below B wr w' → wpList Try.prog ops Q rest (a.put o.dst v') w') : wpList Try.prog ops Q (o :: rest) a (wr.alloc (.cells (exC t A c) 24)) := by
  obtain ⟨i0, hi0, hz0, hz1, hz2⟩ := info_parts info24
  obtain ⟨ts, ka, kc, hl, hown, hk, hsz⟩ := hrow
  have hal : Below wr.heap.size wr (wr.alloc (.cells (exC t A c) 24)) := (Below.refl _ _).alloc (Nat.le_refl _) _
  refine wpList_append_own_at _ hgd s x 22 ho B 24 i0 _ 4 56 Try.underlying22 hi0 hz0 hz1 hz2 rfl (by decide) v n (csOf ts ka kc) hs (own_keepA hown hal) ⟨wr.heap.size, 0, none⟩ 1 1 [.int .i64 t.op, .int .i64 t.vr, .string t.nm, .slice A t.ks.length c] hx rfl (fun j u hj => ?_) (by simp [Value.oneCell']) (by unfold maxLen; omega) (by omega) (by simp; omega) ?_
  · have hB2 := Blk.new wr 24 (exC t A c)
    rw [adr_add, Nat.zero_add, hB2.cell j]
    simpa using hj
  intro v' w' hO hg _ hnew
  have hlt : ∀ y, v'.ownBlock = some y → v.ownBlock = some y ∨ y = wr.heap.size + 1 := fun y hy => by
    rcases hnew with q | q
    · exact .inl (q ▸ hy)
    · rw [hy] at q; simp at q; exact .inr q
  have keep : ∀ (A : Option Addr) (u : Ex), RepS (fun x => (B ≤ x ∧ x < wr.heap.size) ∧ v.ownBlock ≠ some x) wr A u → RepS (fun x => (B ≤ x ∧ x < w'.heap.size) ∧ v'.ownBlock ≠ some x) w' A u := fun A u hr => by
    refine (hr.kept (fun b hb => ?_)).mono (fun b hb => ⟨⟨hb.1.1, ?_⟩, fun e => ?_⟩)
    · have hbl := hb.1.2
      have h1 := hg.block b (by simp; omega) (fun e => hb.2 e.symm)
      rw [h1]
      exact hal.block b hb.1.2
    · have := hg.size; simp at this; have := hb.1; omega
    · rcases hlt b e with q | q
      · exact hb.2 q
      · have := hb.1; omega
  refine h v' w' ⟨ts ++ [t], fun i => if i = ts.length then A else ka i, fun i => if i = ts.length then c else kc i, by simp [hl], by rw [csOf_snoc]; exact hO, fun i hi => ?_, by rw [szL_app]; simp [szL]; omega⟩ ?_
  · by_cases e : i = ts.length
    · subst e
      simp only [if_pos]
      rw [kd_app_eq]
      exact keep _ _ hT
    · simp only [if_neg e]
      have hi2 : i < ts.length := by omega
      rw [kd_app_lt hi2]
      exact keep _ _ (hk i (by omega))
  · exact (hal.mono hB).grown hg (by simp; omega) (fun k e => (hown.lt k e).1)
end Go.Proofs.Ytcdpjodnbegepaa
