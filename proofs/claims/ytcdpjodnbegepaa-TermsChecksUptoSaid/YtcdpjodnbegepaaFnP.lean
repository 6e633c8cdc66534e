/- Own rows of values; what a fold over values leaves, of layer 30 (terms). -/
import Derived.Test.YtcdpjodnbegepaaFnO
import Derived.Test.YtcdpjodnbegepaaFnI
import Derived.Test.YtcdpjodnbegepaaFnJ
namespace Go.Proofs.Ytcdpjodnbegepaa
open Go.RowKit

def OwnV (w : World) (B : Nat) (v : Value) (n : Nat) (l : List Int) : Prop := w.ownsRow B 3 1 v n (l.map (Value.int .i64))
theorem OwnV.len {w : World} {B : Nat} {v : Value} {n : Nat} {l : List Int} (h : OwnV w B v n l) : n = l.length := by
  have := h.1
  rw [List.length_map] at this
  omega
theorem OwnV.nil (w : World) (B : Nat) : OwnV w B (.slice none 0 0) 0 [] := ⟨rfl, .inl ⟨rfl, rfl⟩⟩
theorem OwnV.form {w : World} {B : Nat} {v : Value} {n : Nat} {l : List Int} (h : OwnV w B v n l) : ∃ A c, v = .slice A n c ∧ RI w w.heap.size A l ∧ (A = none → n = 0 ∧ c = 0) ∧ (∀ a, A = some a → ∃ g, a = ⟨g, 0, none⟩ ∧ B ≤ g ∧ g < w.heap.size) := by
  have hn := h.len
  obtain ⟨_, ⟨rfl, h0⟩ | ⟨g, cap, cur, rfl, hg, hh, hnc, hcm, hcs, htk⟩⟩ := h
  · subst h0
    exact ⟨none, 0, rfl, fun hp => by omega, fun _ => ⟨rfl, rfl⟩, fun a e => by cases e⟩
  · have hlt : g < w.heap.size := Blk.lt (t := 3) (cs := cur) hh
    refine ⟨some ⟨g, 0, none⟩, cap, rfl, fun hp => ⟨g, 0, rfl, hlt, fun i hi => ?_⟩, (fun e => by cases e), fun a e => ⟨g, (by cases e; rfl), hg, hlt⟩⟩
    rw [Nat.zero_add, cell_of_row w g i cur 3 (0, 0) hh]
    have h1 : (cur.toList.take (n * 1))[i]? = some (.int .i64 (li l i)) := by rw [htk]; unfold li; simp [hi]
    rw [List.getElem?_take, if_pos (by omega), Array.getElem?_toList] at h1
    exact h1
theorem OwnV.pre {w : World} {B : Nat} {A : Option Addr} {n c : Nat} {l l2 : List Int} (h : OwnV w B (.slice A n c) n (l ++ l2)) : OwnV w B (.slice A l.length c) l.length l := by
  have hn := h.len
  rw [List.length_append] at hn
  obtain ⟨_, ⟨hv, h0⟩ | ⟨g, cap, cur, hv, hg, hh, hnc, hcm, hcs, htk⟩⟩ := h
  · injection hv with e1 e2 e3
    have : l = [] := List.eq_nil_of_length_eq_zero (by omega)
    subst this
    exact ⟨rfl, .inl ⟨by rw [e1, e3]; rfl, rfl⟩⟩
  · injection hv with e1 e2 e3
    refine ⟨by simp, .inr ⟨g, cap, cur, by rw [e1, e3], hg, hh, by omega, hcm, hcs, ?_⟩⟩
    have h3 : (cur.toList.take (n * 1)).take (l.length * 1) = l.map (Value.int .i64) := by
      rw [htk, List.map_append, List.take_append_of_le_length (by simp), List.take_of_length_le (by simp)]
    rw [List.take_take, Nat.min_eq_left (by omega)] at h3
    exact h3
theorem RI.post {B : Nat} {w : World} {g : Nat} {l l2 : List Int} (h : RI w B (some ⟨g, 0, none⟩) (l ++ l2)) : RI w B (some ⟨g, l.length, none⟩) l2 := fun hp => by
  obtain ⟨b, f, e, hB, hc⟩ := h (by rw [List.length_append]; omega)
  have e1 : g = b ∧ 0 = f := by simpa using e
  obtain ⟨rfl, rfl⟩ := e1
  refine ⟨g, l.length, rfl, hB, fun i hi => ?_⟩
  have h1 := hc (l.length + i) (by rw [List.length_append]; omega)
  have e2 : li (l ++ l2) (l.length + i) = li l2 i := by unfold li; simp [List.getD, List.getElem?_append_right]
  rw [e2, Nat.zero_add] at h1
  exact h1
theorem OwnV.cut {w : World} {B : Nat} {A : Option Addr} {n c f : Nat} {l l2 : List Int} (h : OwnV w B (.slice A n c) n (l ++ l2)) (hf : l.length = f) : RI w w.heap.size (if c = f then A else Option.map (fun x => x.add f) A) l2 := by
  subst hf
  intro hp
  have hn := h.len
  rw [List.length_append] at hn
  obtain ⟨A', c', e, hT, _, ha⟩ := h.form
  have e1 : A = A' ∧ c = c' := by injection e with x1 x2 x3; exact ⟨x1, x3⟩
  obtain ⟨rfl, rfl⟩ := e1
  have hc : n ≤ c := by
    obtain ⟨_, ⟨hv, h0⟩ | ⟨g, cap, cur, hv, hg, hh, hnc, _⟩⟩ := h
    · omega
    · injection hv with x1 x2 x3; omega
  rw [if_neg (by omega)]
  obtain ⟨b, f0, e, hb, hx⟩ := hT (by rw [List.length_append]; omega)
  subst e
  obtain ⟨g, e2, _, _⟩ := ha _ rfl
  have e3 : b = g ∧ f0 = 0 := by simpa using e2
  obtain ⟨rfl, rfl⟩ := e3
  rw [Option.map_some, addr_j]
  exact (RI.post hT) hp
theorem OwnV.kept {w w' : World} {B : Nat} {v : Value} {n : Nat} {l : List Int} {S : Nat → Prop} (h : OwnV w B v n l) (hf : Frm S w w') (hs : ∀ k, v.ownBlock = some k → ¬ S k) : OwnV w' B v n l := by
  obtain ⟨h1, ⟨hv, h0⟩ | ⟨g, cap, cur, hv, hg, hh, hr⟩⟩ := h
  · exact ⟨h1, .inl ⟨hv, h0⟩⟩
  · exact ⟨h1, .inr ⟨g, cap, cur, hv, hg, Blk.frm (t := 3) (cs := cur) hh hf (hs g (by rw [hv]; rfl)), hr⟩⟩
theorem val_one (y : Int) : ∀ u ∈ [Value.int .i64 y], u.oneCell' = true := by intro u hu; simp at hu; rw [hu]; rfl
theorem step_app_val {ops : Array Oper} {o : Oper} {a : Act} {w : World} {K : Act → World → Prop} {Q : Exit → Act → World → Prop} {E : Prop} (hgd : o.guard = none) (s x : Operand)
    (ho : o.op = .call { callee := .builtin .append, args := #[s, x], argTypes := #[45, 45] })
    (B : Nat) (A : Option Addr) (n c : Nat) (xs : List Int) (hs : a.eval s = .slice A n c) (hown : OwnV w B (.slice A n c) n xs) (ad : Addr) (y : Int) (hx : a.eval x = .slice (some ad) 1 1) (hc : ∀ j u, [Value.int .i64 y][j]? = some u → w.cell? (ad.add j) = some u)
    (hB : B ≤ w.heap.size) (hlen : n ≤ 1000000000) (hK : ∀ A' c' w', OwnV w' B (.slice A' (n + 1) c') (n + 1) (xs ++ [y]) → w.grownBy w' (Value.slice A n c).ownBlock → (∀ k, (Value.slice A' (n + 1) c').ownBlock = some k → (Value.slice A n c).ownBlock = some k ∨ k = w.heap.size) → K (a.put o.dst (.slice A' (n + 1) c')) w') :
    if Region.wanted o (yielded ops a.tmps) = true then Oper.wp Try.prog o a w K Q else E := by
  obtain ⟨i0, hi0, hz0, hz1, hz2⟩ := info_parts info3
  have hw : Region.wanted o (yielded ops a.tmps) = true := by simp [Region.wanted, hgd]
  rw [if_pos hw]
  obtain ⟨v', w', hr, h2, h3, h4, h5⟩ := run_append_own_at (P := Try.prog) w B 45 o.type 3 i0 _ 1 8 Try.underlying45 hi0 hz0 hz1 hz2 rfl (by decide) (.slice A n c) n (xs.map (Value.int .i64)) hown ad 1 1 [Value.int .i64 y] rfl hc (val_one y) (by unfold maxLen; omega) (by omega) hB
  have ho2 : OwnV w' B v' (n + 1) (xs ++ [y]) := by unfold OwnV; rw [List.map_append]; simpa using h2
  obtain ⟨A', c', rfl, _⟩ := ho2.form
  unfold Oper.wp
  simp [execOp, ho, resolve, invoke, builtin, hs, hx, hr, Result.andThen]
  refine hK A' c' w' ho2 h3 (fun k hk => ?_)
  rcases h5 with h5 | h5
  · exact .inl (h5.symm.trans hk)
  · exact .inr (by rw [hk] at h5; injection h5)
/-- The cells of a fold over values: what is done, the last result, the error. -/
def InG (bd br be B0 : Nat) (S : Nat → Prop) (D : List Int) (y : Int) (er : Int) (w : World) : Prop :=
  (S bd ∧ S br ∧ S be) ∧ (bd ≠ br ∧ bd ≠ be ∧ br ≠ be) ∧ (bd < B0 ∧ br < B0 ∧ be < B0) ∧ B0 ≤ w.heap.size ∧ ∃ A c, Blk w bd 45 #[.slice A D.length c] ∧ OwnV w B0 (.slice A D.length c) D.length D ∧ (∀ k, (Value.slice A D.length c).ownBlock = some k → S k) ∧ Blk w br 3 #[.int .i64 y] ∧ Blk w be 32 #[.int .i64 er]
theorem OwnV.lt {w : World} {B : Nat} {v : Value} {n : Nat} {l : List Int} (h : OwnV w B v n l) (k : Nat) (hk : v.ownBlock = some k) : B ≤ k ∧ k < w.heap.size := World.ownsRow.lt h k hk
section
variable {bd br be B0 : Nat} {S S' : Nat → Prop} {D : List Int} {y : Int} {er : Int} {w w' : World}
theorem InG.below (h : InG bd br be B0 S D y er w) (hb : Below w.heap.size w w') : InG bd br be B0 S D y er w' := by
  obtain ⟨h1, h2, h3, h4, A, c, h5, h6, h7, h8, h9⟩ := h
  exact ⟨h1, h2, h3, Nat.le_trans h4 hb.size, A, c, h5.below hb h5.lt, h6.kept (S := fun b => w.heap.size ≤ b) (Frm.of_below hb) (fun k hk => by have := h6.lt k hk; omega), h7, h8.below hb h8.lt, h9.below hb h9.lt⟩
theorem InG.narrow (h : InG bd br be B0 S D y er w) {x : Nat} (hx : w.heap.size ≤ x) : InG bd br be B0 (fun b => S b ∧ b ≠ x) D y er w := by
  obtain ⟨⟨a1, a2, a3⟩, h2, h3, h4, A, c, h5, h6, h7, h8, h9⟩ := h
  exact ⟨⟨⟨a1, by omega⟩, ⟨a2, by omega⟩, ⟨a3, by omega⟩⟩, h2, h3, h4, A, c, h5, h6, fun k hk => ⟨h7 k hk, by have := h6.lt k hk; omega⟩, h8, h9⟩
theorem InG.widen (h : InG bd br be B0 S D y er w) (hs : ∀ b, S b → S' b) : InG bd br be B0 S' D y er w := by
  obtain ⟨⟨a1, a2, a3⟩, h2, h3, h4, A, c, h5, h6, h7, h8, h9⟩ := h
  exact ⟨⟨hs _ a1, hs _ a2, hs _ a3⟩, h2, h3, h4, A, c, h5, h6, fun k hk => hs _ (h7 k hk), h8, h9⟩
end
/-- The result and the error are stored. -/
theorem InG.res {bd br be B0 : Nat} {S : Nat → Prop} {D : List Int} {y : Int} {er : Int} {w : World} (h : InG bd br be B0 S D y er w) (l e : Int) :
    InG bd br be B0 S D l e ((w.setCell ⟨br, 0, none⟩ (.int .i64 l)).setCell ⟨be, 0, none⟩ (.int .i64 e)) ∧ Frm S w ((w.setCell ⟨br, 0, none⟩ (.int .i64 l)).setCell ⟨be, 0, none⟩ (.int .i64 e)) := by
  obtain ⟨⟨a1, a2, a3⟩, ⟨x1, x2, x3⟩, h3, h4, A, c, h5, h6, h7, h8, h9⟩ := h
  have hf : Frm S w ((w.setCell ⟨br, 0, none⟩ (.int .i64 l)).setCell ⟨be, 0, none⟩ (.int .i64 e)) := ((Frm.refl S w).set a2 0 _).set a3 0 _
  have hf2 : Frm (fun k => k = br ∨ k = be) w ((w.setCell ⟨br, 0, none⟩ (.int .i64 l)).setCell ⟨be, 0, none⟩ (.int .i64 e)) := ((Frm.refl _ w).set (.inl rfl) 0 _).set (.inr rfl) 0 _
  refine ⟨⟨⟨a1, a2, a3⟩, ⟨x1, x2, x3⟩, h3, Nat.le_trans h4 hf.size, A, c, h5.frm hf2 (by omega), h6.kept hf2 (fun k hk => by have := h6.lt k hk; omega), h7, ?_, ?_⟩, hf⟩
  · exact (h8.set_ 0 _).set_other (fun e => x3 e.symm) _ _
  · exact (h9.set_other x3 _ _).set_ 0 _
/-- The last result is appended to what is done. -/
theorem InG.app {bd br be B0 : Nat} {S : Nat → Prop} {D : List Int} {y : Int} {er : Int} {W w4 : World} {A A' : Option Addr} {n c c' f : Nat} {o : Obj} (hf : D.length = f)
    (h1 : S bd ∧ S br ∧ S be) (h2 : bd ≠ br ∧ bd ≠ be ∧ br ≠ be) (h3 : bd < B0 ∧ br < B0 ∧ be < B0) (h4 : B0 ≤ W.heap.size) (g5 : Blk W bd 45 #[.slice A n c]) (g6 : OwnV W B0 (.slice A f c) f D) (g7 : ∀ k, (Value.slice A n c).ownBlock = some k → S k)
    (g8 : Blk W br 3 #[.int .i64 y]) (g9 : Blk W be 32 #[.int .i64 er]) (hF : ∀ b, W.heap.size ≤ b → S b)
    (ho : OwnV w4 B0 (.slice A' (f + 1) c') (f + 1) (D ++ [y])) (hg : (W.drew.alloc o).grownBy w4 (Value.slice A f c).ownBlock) (hl : ∀ k, (Value.slice A' (f + 1) c').ownBlock = some k → (Value.slice A f c).ownBlock = some k ∨ k = (W.drew.alloc o).heap.size) :
    InG bd br be B0 S (D ++ [y]) y er (w4.setCell ⟨bd, 0, none⟩ (.slice A' (f + 1) c')) ∧ Frm S W (w4.setCell ⟨bd, 0, none⟩ (.slice A' (f + 1) c')) ∧ Blk w4 bd 45 #[.slice A n c] ∧ Blk w4 be 32 #[.int .i64 er] := by
  have hz : (W.drew.alloc o).heap.size = W.heap.size + 1 := by simp
  have hs4 := hg.size
  have hb0 : Below W.heap.size W (W.drew.alloc o) := al ((Below.refl _ _).drew) o
  have own : ∀ k, (Value.slice A f c).ownBlock = some k → B0 ≤ k ∧ k < W.heap.size := fun k hk => g6.lt k hk
  have hfr : Frm S W w4 := ⟨hg.os.trans hb0.os, hg.tape.trans hb0.tape, hg.output.trans hb0.output, by omega, fun k hk hs => (hg.block k (by omega) (fun e => hs (g7 k (by rw [own_same A n c f c]; exact e.symm)))).trans (hb0.block k hk)⟩
  have hfr2 : Frm (fun k => B0 ≤ k) W w4 := ⟨hg.os.trans hb0.os, hg.tape.trans hb0.tape, hg.output.trans hb0.output, by omega, fun k hk hs => (hg.block k (by omega) (fun e => hs (own k e.symm).1)).trans (hb0.block k hk)⟩
  have k5 : Blk w4 bd 45 #[.slice A n c] := g5.frm hfr2 (by omega)
  have k8 := g8.frm hfr2 (by omega)
  have k9 := g9.frm hfr2 (by omega)
  have hset : Frm (fun k => k = bd) w4 (w4.setCell ⟨bd, 0, none⟩ (.slice A' (f + 1) c')) := Frm.set (S := fun k => k = bd) (Frm.refl _ w4) rfl 0 _
  refine ⟨⟨h1, h2, h3, by simp; omega, A', c', ?_, ?_, ?_, k8.set_other h2.1 _ _, k9.set_other h2.2.1 _ _⟩, hfr.set h1.1 0 _, k5, k9⟩
  · rw [List.length_append, hf]
    exact k5.set_ 0 _
  · rw [List.length_append, hf]
    exact ho.kept hset (fun k hk => by have := ho.lt k hk; omega)
  · rw [List.length_append, hf]
    intro k hk
    rcases hl k hk with h | h
    · exact g7 k (by rw [own_same A n c f c]; exact h)
    · exact hF k (by omega)
/-- What a fold's walk leaves. -/
def FoldQ (bd br be B0 : Nat) (S : Nat → Prop) (D : List Int) (R : Int × Int) (w : World) (e : Ending) (w' : World) : Prop :=
  e = .returned (.bool (R.2 == 0)) ∧ Frm S w w' ∧ (R.2 = 0 → InG bd br be B0 S (D ++ [R.1]) R.1 R.2 w') ∧ ∃ D', InG bd br be B0 S D' R.1 R.2 w'
end Go.Proofs.Ytcdpjodnbegepaa
