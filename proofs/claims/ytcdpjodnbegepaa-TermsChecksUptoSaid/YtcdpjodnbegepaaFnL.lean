/- Own rows of types; what a fold leaves, of layer 30 (terms). -/
import Derived.Test.YtcdpjodnbegepaaFnK
import Derived.Deep.RegionLaw
namespace Go.Proofs.Ytcdpjodnbegepaa
open Go.RowKit

abbrev tyC (y : Ty) : List Value := [.bool y.b, .int .i64 y.lo, .int .i64 y.hi]
/-- The value is an own row of n types, in a block from B on. -/
def OwnT (w : World) (B : Nat) (v : Value) (n : Nat) (l : List Ty) : Prop := w.ownsRow B 39 3 v n (l.flatMap tyC)
theorem flat_len : ∀ l : List Ty, (l.flatMap tyC).length = l.length * 3
  | [] => rfl
  | y :: r => by rw [List.flatMap_cons, List.length_append, flat_len r, List.length_cons]; simp; omega
theorem flat_at : ∀ (l : List Ty) (k j : Nat), k < l.length → j < 3 → (l.flatMap tyC)[k * 3 + j]? = (tyC (ty l k))[j]?
  | [], k, j, h, _ => by simp at h
  | y :: r, 0, j, _, hj => by
    rw [List.flatMap_cons, Nat.zero_mul, Nat.zero_add, List.getElem?_append_left (by simpa using hj)]
    rfl
  | y :: r, k + 1, j, h, hj => by
    rw [List.flatMap_cons, List.getElem?_append_right (by simp; omega)]
    have e : (k + 1) * 3 + j - (tyC y).length = k * 3 + j := by simp; omega
    rw [e, flat_at r k j (by simpa using h) hj]
    rfl
theorem OwnT.len {w : World} {B : Nat} {v : Value} {n : Nat} {l : List Ty} (h : OwnT w B v n l) : n = l.length := by
  have := h.1
  rw [flat_len] at this
  omega
theorem OwnT.nil (w : World) (B : Nat) : OwnT w B (.slice none 0 0) 0 [] := ⟨rfl, .inl ⟨rfl, rfl⟩⟩
theorem OwnT.form {w : World} {B : Nat} {v : Value} {n : Nat} {l : List Ty} (h : OwnT w B v n l) : ∃ A c, v = .slice A n c ∧ Tys w.heap.size w A l ∧ (A = none → n = 0 ∧ c = 0) ∧ (∀ a, A = some a → ∃ g, a = ⟨g, 0, none⟩ ∧ B ≤ g ∧ g < w.heap.size) := by
  have hn := h.len
  obtain ⟨_, ⟨rfl, h0⟩ | ⟨g, cap, cur, rfl, hg, hh, hnc, hcm, hcs, htk⟩⟩ := h
  · subst h0
    exact ⟨none, 0, rfl, fun hp => by omega, fun _ => ⟨rfl, rfl⟩, fun a e => by cases e⟩
  · have hlt : g < w.heap.size := Blk.lt (t := 39) (cs := cur) hh
    refine ⟨some ⟨g, 0, none⟩, cap, rfl, fun hp => ⟨g, 0, rfl, hlt, fun i hi => ?_⟩, (fun e => by cases e), fun a e => ⟨g, (by cases e; rfl), hg, hlt⟩⟩
    have key : ∀ j, j < 3 → w.cell? ⟨g, i * 3 + j, none⟩ = (tyC (ty l i))[j]? := fun j hj => by
      rw [cell_of_row w g (i * 3 + j) cur 39 (0, 0) hh, ← flat_at l i j hi hj, ← htk, List.getElem?_take, if_pos (by omega), Array.getElem?_toList]
    rw [Nat.zero_add]
    exact ⟨key 0 (by omega), key 1 (by omega), key 2 (by omega)⟩
/-- A row's beginning is an own row in the same block. -/
theorem OwnT.pre {w : World} {B : Nat} {A : Option Addr} {n c : Nat} {l l2 : List Ty} (h : OwnT w B (.slice A n c) n (l ++ l2)) : OwnT w B (.slice A l.length c) l.length l := by
  have hn := h.len
  rw [List.length_append] at hn
  obtain ⟨_, ⟨hv, h0⟩ | ⟨g, cap, cur, hv, hg, hh, hnc, hcm, hcs, htk⟩⟩ := h
  · injection hv with e1 e2 e3
    have : l = [] := List.eq_nil_of_length_eq_zero (by omega)
    subst this
    exact ⟨rfl, .inl ⟨by rw [e1, e3]; rfl, rfl⟩⟩
  · injection hv with e1 e2 e3
    refine ⟨flat_len l, .inr ⟨g, cap, cur, by rw [e1, e3], hg, hh, by omega, hcm, hcs, ?_⟩⟩
    have h3 : (cur.toList.take (n * 3)).take (l.length * 3) = l.flatMap tyC := by
      rw [htk, List.flatMap_append, List.take_append_of_le_length (by rw [flat_len]; exact Nat.le_refl _), List.take_of_length_le (by rw [flat_len]; exact Nat.le_refl _)]
    rw [List.take_take, Nat.min_eq_left (by omega)] at h3
    exact h3
/-- A row's end, read as a row. -/
theorem Tys.post {B : Nat} {w : World} {g : Nat} {l l2 : List Ty} (h : Tys B w (some ⟨g, 0, none⟩) (l ++ l2)) : Tys B w (some ⟨g, l.length * 3, none⟩) l2 := fun hp => by
  obtain ⟨b, f, e, hB, hc⟩ := h (by rw [List.length_append]; omega)
  have e1 : g = b ∧ 0 = f := by simpa using e
  obtain ⟨rfl, rfl⟩ := e1
  refine ⟨g, l.length * 3, rfl, hB, fun i hi => ?_⟩
  have h1 := hc (l.length + i) (by rw [List.length_append]; omega)
  have e2 : ty (l ++ l2) (l.length + i) = ty l2 i := by unfold ty; simp [List.getD, List.getElem?_append_right]
  rw [e2, Nat.zero_add, Nat.add_mul] at h1
  exact h1
theorem addr_j (b j : Nat) : (⟨b, 0, none⟩ : Addr).add j = ⟨b, j, none⟩ := by unfold Addr.add; split <;> simp_all
theorem OwnT.cut {w : World} {B : Nat} {A : Option Addr} {n c f : Nat} {l l2 : List Ty} (h : OwnT w B (.slice A n c) n (l ++ l2)) (hf : l.length = f) : Tys w.heap.size w (if c = f then A else Option.map (fun x => x.add (f * 3)) A) l2 := by
  subst hf
  intro hp
  have hn := h.len
  rw [List.length_append] at hn
  obtain ⟨A', c', e, hT, _, ha⟩ := h.form
  have e1 : A = A' ∧ c = c' := by injection e with x1 x2 x3; exact ⟨x1, x3⟩
  obtain ⟨rfl, rfl⟩ := e1
  have hc : n ≤ c := by
    obtain ⟨_, ⟨hv, h0⟩ | ⟨g, cap, cur, hv, hg, hh, hnc, _⟩⟩ := h
    · omega
    · injection hv with x1 x2 x3; omega
  rw [if_neg (by omega)]
  obtain ⟨b, f0, e, hb, hx⟩ := hT (by rw [List.length_append]; omega)
  subst e
  obtain ⟨g, e2, _, _⟩ := ha _ rfl
  have e3 : b = g ∧ f0 = 0 := by simpa using e2
  obtain ⟨rfl, rfl⟩ := e3
  rw [Option.map_some, addr_j]
  exact (Tys.post hT) hp
theorem OwnT.kept {w w' : World} {B : Nat} {v : Value} {n : Nat} {l : List Ty} {S : Nat → Prop} (h : OwnT w B v n l) (hf : Frm S w w') (hs : ∀ k, v.ownBlock = some k → ¬ S k) : OwnT w' B v n l := by
  obtain ⟨h1, ⟨hv, h0⟩ | ⟨g, cap, cur, hv, hg, hh, hr⟩⟩ := h
  · exact ⟨h1, .inl ⟨hv, h0⟩⟩
  · exact ⟨h1, .inr ⟨g, cap, cur, hv, hg, Blk.frm (t := 39) (cs := cur) hh hf (hs g (by rw [hv]; rfl)), hr⟩⟩
theorem ty_one (y : Ty) : ∀ u ∈ tyC y, u.oneCell' = true := by intro u hu; simp at hu; rcases hu with rfl | rfl | rfl <;> rfl
theorem info39 : (Try.prog.info? 39).map (fun i => (i.zero, i.size, i.bytes)) = some (some (.agg #[.bool false, .int .i64 0, .int .i64 0]), 3, 24) := by kernel_rfl
/-- append of one type to an own row, as a step of a region that draws its order. -/
theorem step_app_ty {ops : Array Oper} {o : Oper} {a : Act} {w : World} {K : Act → World → Prop} {Q : Exit → Act → World → Prop} {E : Prop} (hgd : o.guard = none) (s x : Operand)
    (ho : o.op = .call { callee := .builtin .append, args := #[s, x], argTypes := #[71, 71] })
    (B : Nat) (A : Option Addr) (n c : Nat) (xs : List Ty) (hs : a.eval s = .slice A n c) (hown : OwnT w B (.slice A n c) n xs) (ad : Addr) (y : Ty) (hx : a.eval x = .slice (some ad) 1 1) (hc : ∀ j u, (tyC y)[j]? = some u → w.cell? (ad.add j) = some u)
    (hB : B ≤ w.heap.size) (hlen : n ≤ 1000000000) (hK : ∀ A' c' w', OwnT w' B (.slice A' (n + 1) c') (n + 1) (xs ++ [y]) → w.grownBy w' (Value.slice A n c).ownBlock → (∀ k, (Value.slice A' (n + 1) c').ownBlock = some k → (Value.slice A n c).ownBlock = some k ∨ k = w.heap.size) → K (a.put o.dst (.slice A' (n + 1) c')) w') :
    if Region.wanted o (yielded ops a.tmps) = true then Oper.wp Try.prog o a w K Q else E := by
  obtain ⟨i0, hi0, hz0, hz1, hz2⟩ := info_parts info39
  have hw : Region.wanted o (yielded ops a.tmps) = true := by simp [Region.wanted, hgd]
  rw [if_pos hw]
  obtain ⟨v', w', hr, h2, h3, h4, h5⟩ := run_append_own_at (P := Try.prog) w B 71 o.type 39 i0 _ 3 24 Try.underlying71 hi0 hz0 hz1 hz2 rfl (by decide) (.slice A n c) n (xs.flatMap tyC) hown ad 1 1 (tyC y) rfl hc (ty_one y) (by unfold maxLen; omega) (by omega) hB
  have ho2 : OwnT w' B v' (n + 1) (xs ++ [y]) := by unfold OwnT; rw [List.flatMap_append]; simpa using h2
  obtain ⟨A', c', rfl, _⟩ := ho2.form
  unfold Oper.wp
  simp [execOp, ho, resolve, invoke, builtin, hs, hx, hr, Result.andThen]
  refine hK A' c' w' ho2 h3 (fun k hk => ?_)
  rcases h5 with h5 | h5
  · exact .inl (h5.symm.trans hk)
  · exact .inr (by rw [hk] at h5; injection h5)
section
variable {α : Type} (z : α) (nd : Ex → List α → α × Int)
mutual
/-- What a fold answers: the result of the last node gone to, and the error. -/
def fd : Ex → α × Int
  | .mk o v m ks => if (fdL ks).2 = 0 then nd (.mk o v m ks) (fdL ks).1.1 else ((fdL ks).1.2, (fdL ks).2)
def fdL : List Ex → (List α × α) × Int
  | [] => (([], z), 0)
  | t :: r => if (fd t).2 = 0 then (((fd t).1 :: (fdL r).1.1, (fdL r).1.2), (fdL r).2) else (([], (fd t).1), (fd t).2)
end
theorem fd_eq (t : Ex) : fd z nd t = if (fdL z nd t.ks).2 = 0 then nd t (fdL z nd t.ks).1.1 else ((fdL z nd t.ks).1.2, (fdL z nd t.ks).2) := by cases t; rfl
theorem fdL_step {l : List Ex} {k : Nat} (h : k < l.length) : fdL z nd (l.drop k) = if (fd z nd (kd l k)).2 = 0 then (((fd z nd (kd l k)).1 :: (fdL z nd (l.drop (k + 1))).1.1, (fdL z nd (l.drop (k + 1))).1.2), (fdL z nd (l.drop (k + 1))).2) else (([], (fd z nd (kd l k)).1), (fd z nd (kd l k)).2) := by
  rw [kd_drop h]; rfl
/-- What the Kids answer, the first of them done. -/
def Rest (L : List α) (ks : List Ex) (R : (List α × α) × Int) : Prop := R = ((L ++ (fdL z nd ks).1.1, (fdL z nd ks).1.2), (fdL z nd ks).2)
theorem Rest.next {L : List α} {l : List Ex} {k : Nat} {R : (List α × α) × Int} (h : Rest z nd L (l.drop k) R) (hk : k < l.length) (h0 : (fd z nd (kd l k)).2 = 0) : Rest z nd (L ++ [(fd z nd (kd l k)).1]) (l.drop (k + 1)) R := by
  unfold Rest at h ⊢
  rw [h, fdL_step z nd hk, if_pos h0]
  simp
theorem Rest.stop {L : List α} {l : List Ex} {k : Nat} {R : (List α × α) × Int} (h : Rest z nd L (l.drop k) R) (hk : k < l.length) (h0 : ¬ (fd z nd (kd l k)).2 = 0) : R.1.2 = (fd z nd (kd l k)).1 ∧ R.2 = (fd z nd (kd l k)).2 := by
  unfold Rest at h
  rw [h, fdL_step z nd hk, if_neg h0]
  exact ⟨rfl, rfl⟩
theorem Rest.done {L : List α} {l : List Ex} {R : (List α × α) × Int} (h : Rest z nd L (l.drop l.length) R) : R = ((L, z), 0) := by
  unfold Rest at h
  rw [h, List.drop_length]
  simp [fdL]
end
/-- The cells of a fold over types: what is done, the last result, the error. -/
def InF (bd br be B0 : Nat) (S : Nat → Prop) (D : List Ty) (y : Ty) (er : Int) (w : World) : Prop :=
  (S bd ∧ S br ∧ S be) ∧ (bd ≠ br ∧ bd ≠ be ∧ br ≠ be) ∧ (bd < B0 ∧ br < B0 ∧ be < B0) ∧ B0 ≤ w.heap.size ∧ ∃ A c, Blk w bd 71 #[.slice A D.length c] ∧ OwnT w B0 (.slice A D.length c) D.length D ∧ (∀ k, (Value.slice A D.length c).ownBlock = some k → S k) ∧ Blk w br 39 #[.bool y.b, .int .i64 y.lo, .int .i64 y.hi] ∧ Blk w be 32 #[.int .i64 er]
theorem OwnT.lt {w : World} {B : Nat} {v : Value} {n : Nat} {l : List Ty} (h : OwnT w B v n l) (k : Nat) (hk : v.ownBlock = some k) : B ≤ k ∧ k < w.heap.size := World.ownsRow.lt h k hk
section
variable {bd br be B0 : Nat} {S S' : Nat → Prop} {D : List Ty} {y : Ty} {er : Int} {w w' : World}
theorem InF.below (h : InF bd br be B0 S D y er w) (hb : Below w.heap.size w w') : InF bd br be B0 S D y er w' := by
  obtain ⟨h1, h2, h3, h4, A, c, h5, h6, h7, h8, h9⟩ := h
  exact ⟨h1, h2, h3, Nat.le_trans h4 hb.size, A, c, h5.below hb h5.lt, h6.kept (S := fun b => w.heap.size ≤ b) (Frm.of_below hb) (fun k hk => by have := h6.lt k hk; omega), h7, h8.below hb h8.lt, h9.below hb h9.lt⟩
theorem InF.narrow (h : InF bd br be B0 S D y er w) {x : Nat} (hx : w.heap.size ≤ x) : InF bd br be B0 (fun b => S b ∧ b ≠ x) D y er w := by
  obtain ⟨⟨a1, a2, a3⟩, h2, h3, h4, A, c, h5, h6, h7, h8, h9⟩ := h
  exact ⟨⟨⟨a1, by omega⟩, ⟨a2, by omega⟩, ⟨a3, by omega⟩⟩, h2, h3, h4, A, c, h5, h6, fun k hk => ⟨h7 k hk, by have := h6.lt k hk; omega⟩, h8, h9⟩
theorem InF.widen (h : InF bd br be B0 S D y er w) (hs : ∀ b, S b → S' b) : InF bd br be B0 S' D y er w := by
  obtain ⟨⟨a1, a2, a3⟩, h2, h3, h4, A, c, h5, h6, h7, h8, h9⟩ := h
  exact ⟨⟨hs _ a1, hs _ a2, hs _ a3⟩, h2, h3, h4, A, c, h5, h6, fun k hk => hs _ (h7 k hk), h8, h9⟩
end
/-- The result and the error are stored. -/
theorem InF.res {bd br be B0 : Nat} {S : Nat → Prop} {D : List Ty} {y : Ty} {er : Int} {w : World} (h : InF bd br be B0 S D y er w) (b : Bool) (l h' e : Int) :
    InF bd br be B0 S D ⟨b, l, h'⟩ e ((((w.setCell ⟨br, 0, none⟩ (.bool b)).setCell ⟨br, 1, none⟩ (.int .i64 l)).setCell ⟨br, 2, none⟩ (.int .i64 h')).setCell ⟨be, 0, none⟩ (.int .i64 e)) ∧ Frm S w ((((w.setCell ⟨br, 0, none⟩ (.bool b)).setCell ⟨br, 1, none⟩ (.int .i64 l)).setCell ⟨br, 2, none⟩ (.int .i64 h')).setCell ⟨be, 0, none⟩ (.int .i64 e)) := by
  obtain ⟨⟨a1, a2, a3⟩, ⟨x1, x2, x3⟩, h3, h4, A, c, h5, h6, h7, h8, h9⟩ := h
  have hf : Frm S w ((((w.setCell ⟨br, 0, none⟩ (.bool b)).setCell ⟨br, 1, none⟩ (.int .i64 l)).setCell ⟨br, 2, none⟩ (.int .i64 h')).setCell ⟨be, 0, none⟩ (.int .i64 e)) := ((((Frm.refl S w).set a2 0 _).set a2 1 _).set a2 2 _).set a3 0 _
  have hf2 : Frm (fun k => k = br ∨ k = be) w ((((w.setCell ⟨br, 0, none⟩ (.bool b)).setCell ⟨br, 1, none⟩ (.int .i64 l)).setCell ⟨br, 2, none⟩ (.int .i64 h')).setCell ⟨be, 0, none⟩ (.int .i64 e)) := ((((Frm.refl _ w).set (.inl rfl) 0 _).set (.inl rfl) 1 _).set (.inl rfl) 2 _).set (.inr rfl) 0 _
  refine ⟨⟨⟨a1, a2, a3⟩, ⟨x1, x2, x3⟩, h3, Nat.le_trans h4 hf.size, A, c, h5.frm hf2 (by omega), h6.kept hf2 (fun k hk => by have := h6.lt k hk; omega), h7, ?_, ?_⟩, hf⟩
  · exact ((((h8.set_ 0 _).set_ 1 _).set_ 2 _).set_other (fun e => x3 e.symm) _ _)
  · exact ((((h9.set_other x3 _ _).set_other x3 _ _).set_other x3 _ _).set_ 0 _)
theorem own_same (A : Option Addr) (n c n' c' : Nat) : (Value.slice A n c).ownBlock = (Value.slice A n' c').ownBlock := by cases A <;> rfl
theorem cells_three (w : World) (t : TypeId) (x y z : Value) : ∀ j u, [x, y, z][j]? = some u → (w.alloc (.cells #[x, y, z] t)).cell? ((⟨w.heap.size, 0, none⟩ : Addr).add j) = some u := by
  intro j u hj
  rw [addr_j, (Blk.new w t #[x, y, z]).cell j]
  simpa using hj
/-- The last result is appended to what is done. -/
theorem InF.app {bd br be B0 : Nat} {S : Nat → Prop} {D : List Ty} {y : Ty} {er : Int} {W w4 : World} {A A' : Option Addr} {n c c' f : Nat} {o : Obj} (hf : D.length = f)
    (h1 : S bd ∧ S br ∧ S be) (h2 : bd ≠ br ∧ bd ≠ be ∧ br ≠ be) (h3 : bd < B0 ∧ br < B0 ∧ be < B0) (h4 : B0 ≤ W.heap.size) (g5 : Blk W bd 71 #[.slice A n c]) (g6 : OwnT W B0 (.slice A f c) f D) (g7 : ∀ k, (Value.slice A n c).ownBlock = some k → S k)
    (g8 : Blk W br 39 #[.bool y.b, .int .i64 y.lo, .int .i64 y.hi]) (g9 : Blk W be 32 #[.int .i64 er]) (hF : ∀ b, W.heap.size ≤ b → S b)
    (ho : OwnT w4 B0 (.slice A' (f + 1) c') (f + 1) (D ++ [y])) (hg : (W.drew.alloc o).grownBy w4 (Value.slice A f c).ownBlock) (hl : ∀ k, (Value.slice A' (f + 1) c').ownBlock = some k → (Value.slice A f c).ownBlock = some k ∨ k = (W.drew.alloc o).heap.size) :
    InF bd br be B0 S (D ++ [y]) y er (w4.setCell ⟨bd, 0, none⟩ (.slice A' (f + 1) c')) ∧ Frm S W (w4.setCell ⟨bd, 0, none⟩ (.slice A' (f + 1) c')) ∧ Blk w4 bd 71 #[.slice A n c] ∧ Blk w4 be 32 #[.int .i64 er] := by
  have hz : (W.drew.alloc o).heap.size = W.heap.size + 1 := by simp
  have hs4 := hg.size
  have hb0 : Below W.heap.size W (W.drew.alloc o) := al ((Below.refl _ _).drew) o
  have own : ∀ k, (Value.slice A f c).ownBlock = some k → B0 ≤ k ∧ k < W.heap.size := fun k hk => g6.lt k hk
  have hfr : Frm S W w4 := ⟨hg.os.trans hb0.os, hg.tape.trans hb0.tape, hg.output.trans hb0.output, by omega, fun k hk hs => (hg.block k (by omega) (fun e => hs (g7 k (by rw [own_same A n c f c]; exact e.symm)))).trans (hb0.block k hk)⟩
  have hfr2 : Frm (fun k => B0 ≤ k) W w4 := ⟨hg.os.trans hb0.os, hg.tape.trans hb0.tape, hg.output.trans hb0.output, by omega, fun k hk hs => (hg.block k (by omega) (fun e => hs (own k e.symm).1)).trans (hb0.block k hk)⟩
  have k5 : Blk w4 bd 71 #[.slice A n c] := g5.frm hfr2 (by omega)
  have k8 := g8.frm hfr2 (by omega)
  have k9 := g9.frm hfr2 (by omega)
  have hset : Frm (fun k => k = bd) w4 (w4.setCell ⟨bd, 0, none⟩ (.slice A' (f + 1) c')) := Frm.set (S := fun k => k = bd) (Frm.refl _ w4) rfl 0 _
  refine ⟨⟨h1, h2, h3, by simp; omega, A', c', ?_, ?_, ?_, k8.set_other h2.1 _ _, k9.set_other h2.2.1 _ _⟩, hfr.set h1.1 0 _, k5, k9⟩
  · rw [List.length_append, hf]
    exact k5.set_ 0 _
  · rw [List.length_append, hf]
    exact ho.kept hset (fun k hk => by have := ho.lt k hk; omega)
  · rw [List.length_append, hf]
    intro k hk
    rcases hl k hk with h | h
    · exact g7 k (by rw [own_same A n c f c]; exact h)
    · exact hF k (by omega)
/-- What a fold's walk leaves. -/
def FoldP (bd br be B0 : Nat) (S : Nat → Prop) (D : List Ty) (R : Ty × Int) (w : World) (e : Ending) (w' : World) : Prop :=
  e = .returned (.bool (R.2 == 0)) ∧ Frm S w w' ∧ (R.2 = 0 → InF bd br be B0 S (D ++ [R.1]) R.1 R.2 w') ∧ ∃ D', InF bd br be B0 S D' R.1 R.2 w'
end Go.Proofs.Ytcdpjodnbegepaa
