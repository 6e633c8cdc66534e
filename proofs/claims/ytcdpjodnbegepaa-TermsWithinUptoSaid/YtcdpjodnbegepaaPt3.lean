/- The contract of put, of layer 30 (terms). -/
import Derived.Test.YtcdpjodnbegepaaPt2
namespace Go.Proofs.Ytcdpjodnbegepaa
open Go.RowKit

theorem PutW.below {bl : Nat} {t x : Ex} {A B : Option Addr} {c d : Nat} {w W W' : World} (h : PutW bl t x A B c d w W) (hb : Below W.heap.size W W') : PutW bl t x A B c d w W' := by
  have hz := h.hz
  exact ⟨h.hb.trans (Lf.below hb), Nat.le_trans hz hb.size, h.b0.below hb h.b0.lt, h.b1.below hb h.b1.lt, h.b2.below hb h.b2.lt⟩
/-- What lies while put walks over the Kids: i of them are put. -/
structure PutS (m : ByteArray) (x : Ex) (Q : Nat → Prop) (bl : Nat) (t : Ex) (ka0 : Nat → Option Addr) (kc0 : Nat → Nat) (A2 : Option Addr) (c2 : Nat) (B : Option Addr) (d n : Nat) (w : World) (i : Nat) (wr : World) (kk : Int) : Prop where
  lf : Lf bl w wr
  hz : w.heap.size + 1 + 1 + 1 ≤ wr.heap.size
  hbl : bl < w.heap.size
  bb : Blk wr bl 3 #[.int .i64 kk]
  b0 : Blk wr w.heap.size 24 #[.int .i64 t.op, .int .i64 t.vr, .string t.nm, .slice A2 n c2]
  b1 : Blk wr (w.heap.size + 1) 24 #[.int .i64 x.op, .int .i64 x.vr, .string x.nm, .slice B x.ks.length d]
  b2 : Blk wr (w.heap.size + 1 + 1) 24 #[.int .i64 0, .int .i64 0, .string ⟨#[]⟩, .slice none 0 0]
  hn : n = t.ks.length
  row : 0 < n → ∃ g, A2 = some ⟨g, 0, none⟩ ∧ w.heap.size + 1 + 1 < g ∧ g < wr.heap.size ∧ PIn m x Q bl w.heap.size t.ks ka0 kc0 g i wr
theorem csOf_get4 {ks : List Ex} {ka : Nat → Option Addr} {kc : Nat → Nat} {i : Nat} (hi : i < ks.length) : (csOf ks ka kc)[i * 4]? = some (.int .i64 (kd ks i).op) ∧ (csOf ks ka kc)[i * 4 + 1]? = some (.int .i64 (kd ks i).vr) ∧ (csOf ks ka kc)[i * 4 + 2]? = some (.string (kd ks i).nm) ∧ (csOf ks ka kc)[i * 4 + 3]? = some (.slice (ka i) (kd ks i).ks.length (kc i)) :=
  ⟨csOf_at (j := 0) hi (by omega), csOf_at (j := 1) hi (by omega), csOf_at (j := 2) hi (by omega), csOf_at (j := 3) hi (by omega)⟩
section
variable {m : ByteArray} {x : Ex} {Q : Nat → Prop} {bl : Nat} {t : Ex} {ka0 : Nat → Option Addr} {kc0 : Nat → Nat} {A2 : Option Addr} {c2 : Nat} {B : Option Addr} {d n : Nat} {w : World} {i : Nat} {wr : World} {kk : Int}
theorem PutS.lfs (h : PutS m x Q bl t ka0 kc0 A2 c2 B d n w i wr kk) {w' : World} {k' : Int} (hl : Lf bl wr w') (hb : Blk w' bl 3 #[.int .i64 k']) : PutS m x Q bl t ka0 kc0 A2 c2 B d n w i w' k' := by
  have hz := h.hz
  have hbl := h.hbl
  refine ⟨h.lf.trans hl, Nat.le_trans hz hl.size, hbl, hb, hl.blk h.b0 (by omega), hl.blk h.b1 (by omega), hl.blk h.b2 (by omega), h.hn, fun hp => ?_⟩
  obtain ⟨g, e, h1, h2, h3⟩ := h.row hp
  exact ⟨g, e, h1, Nat.lt_of_lt_of_le h2 hl.size, h3.lf hl h2 (by omega)⟩
theorem PutS.below (h : PutS m x Q bl t ka0 kc0 A2 c2 B d n w i wr kk) {w' : World} (hb : Below wr.heap.size wr w') : PutS m x Q bl t ka0 kc0 A2 c2 B d n w i w' kk := h.lfs (Lf.below hb) (h.bb.below hb h.bb.lt)
theorem PutS.box (h : PutS m x Q bl t ka0 kc0 A2 c2 B d n w i wr kk) : wr.cell? ⟨w.heap.size, 0, none⟩ = some (.int .i64 t.op) ∧ wr.cell? ⟨w.heap.size, 1, none⟩ = some (.int .i64 t.vr) ∧ wr.cell? ⟨w.heap.size, 2, none⟩ = some (.string t.nm) ∧ wr.cell? ⟨w.heap.size, 3, none⟩ = some (.slice A2 n c2) ∧ w.heap.size < wr.heap.size := ⟨h.b0.cell 0, h.b0.cell 1, h.b0.cell 2, h.b0.cell 3, h.b0.lt⟩
theorem PutS.boxx (h : PutS m x Q bl t ka0 kc0 A2 c2 B d n w i wr kk) : wr.cell? ⟨w.heap.size + 1, 0, none⟩ = some (.int .i64 x.op) ∧ wr.cell? ⟨w.heap.size + 1, 1, none⟩ = some (.int .i64 x.vr) ∧ wr.cell? ⟨w.heap.size + 1, 2, none⟩ = some (.string x.nm) ∧ wr.cell? ⟨w.heap.size + 1, 3, none⟩ = some (.slice B x.ks.length d) ∧ w.heap.size + 1 < wr.heap.size := ⟨h.b1.cell 0, h.b1.cell 1, h.b1.cell 2, h.b1.cell 3, h.b1.lt⟩
theorem PutS.at (h : PutS m x Q bl t ka0 kc0 A2 c2 B d n w i wr kk) (hi : i < n) : ∃ g, A2 = some ⟨g, 0, none⟩ ∧ w.heap.size + 1 + 1 < g ∧ g < wr.heap.size ∧ wr.cell? ⟨g, i * 4, none⟩ = some (.int .i64 (kd t.ks i).op) ∧ wr.cell? ⟨g, i * 4 + 1, none⟩ = some (.int .i64 (kd t.ks i).vr) ∧ wr.cell? ⟨g, i * 4 + 2, none⟩ = some (.string (kd t.ks i).nm) ∧ wr.cell? ⟨g, i * 4 + 3, none⟩ = some (.slice (ka0 i) (kd t.ks i).ks.length (kc0 i)) ∧ ∀ r, wr.frozen? ⟨g, i * 4 + r, none⟩ = false := by
  obtain ⟨g, e, h1, h2, h3⟩ := h.row (by omega)
  obtain ⟨ka, kc, K, h4, _, h5⟩ := h3
  have hi2 : i < t.ks.length := by have := h.hn; omega
  obtain ⟨⟨c0, c1, c2, c3⟩, fr⟩ := h5 i hi2
  obtain ⟨e1, e2, e3⟩ := h4 i (Nat.le_refl _)
  rw [e3] at c0 c1 c2 c3
  rw [e1, e2] at c3
  exact ⟨g, e, h1, h2, c0, c1, c2, c3, fr⟩
/-- The put Kid is stored. -/
theorem PutS.step (h : PutS m x Q bl t ka0 kc0 A2 c2 B d n w i wr kk) (hi : i < n) {w4 : World} {A' : Option Addr} {c' : Nat} {k' : Int} (wx : World) (hx : Lf bl wr wx) (hl : Lf bl wx w4) (hb : Blk w4 bl 3 #[.int .i64 k']) (hR : RepS (fun y => (Q y ∨ wx.heap.size ≤ y) ∧ y < w4.heap.size ∧ y ≠ bl) w4 A' (putE m x (kd t.ks i))) (hQ : ∀ y, Q y → y < w.heap.size ∧ y ≠ bl) (g : Nat) (hA : A2 = some ⟨g, 0, none⟩) :
    PutS m x Q bl t ka0 kc0 A2 c2 B d n w (i + 1) (S4 w4 g (i * 4) (.int .i64 (putE m x (kd t.ks i)).op) (.int .i64 (putE m x (kd t.ks i)).vr) (.string (putE m x (kd t.ks i)).nm) (.slice A' (putE m x (kd t.ks i)).ks.length c')) k' := by
  have h' := h.lfs (hx.trans hl) hb
  obtain ⟨g', e, g1, g2, g3⟩ := h'.row (by omega)
  rw [hA] at e
  have e2 : g = g' := by simpa using e
  subst e2
  have hbl := h'.hbl
  have hz := h'.hz
  obtain ⟨_, _, _, gw, _⟩ := h.row (by omega)
  have hgx : g < wx.heap.size := by
    obtain ⟨g', e, _, g2, _⟩ := h.row (by omega)
    rw [hA] at e
    have e2 : g = g' := by simpa using e
    subst e2
    exact Nat.lt_of_lt_of_le g2 hx.size
  have hi2 : i < t.ks.length := by have := h.hn; omega
  refine ⟨(((h'.lf.set (by omega) _ _).set (by omega) _ _).set (by omega) _ _).set (by omega) _ _, by rw [set4_size]; exact hz, hbl, (set4_blk _ _ _ _ _ (by omega)).trans h'.bb, (set4_blk _ _ _ _ _ (by omega)).trans h'.b0, (set4_blk _ _ _ _ _ (by omega)).trans h'.b1, (set4_blk _ _ _ _ _ (by omega)).trans h'.b2, h'.hn, fun _ => ⟨g, hA, g1, by rw [set4_size]; exact g2, g3.step hi2 rfl rfl rfl rfl (hR.mono (fun y hy => ?_))⟩⟩
  obtain ⟨q1, q2, q3⟩ := hy
  refine ⟨?_, q2, q3, ?_, ?_, ?_, ?_⟩
  · rcases q1 with q | q
    · exact .inl q
    · exact .inr (by omega)
  all_goals
    rcases q1 with q | q
    · have := (hQ y q).1; omega
    · omega
theorem PutS.done (h : PutS m x Q bl t ka0 kc0 A2 c2 B d n w n wr kk) : RepS (fun y => (Q y ∨ w.heap.size ≤ y) ∧ y < wr.heap.size ∧ y ≠ bl ∧ y ≠ w.heap.size + 1 + 1) wr A2 (.mk t.op t.vr t.nm (putL m x t.ks)) := by
  have hn := h.hn
  have hbl := h.hbl
  rcases Nat.eq_zero_or_pos n with h0 | h0
  · exact RepS.leaf (by show (putL m x t.ks).length = 0; rw [putL_len]; omega)
  · obtain ⟨g, e, g1, g2, g3⟩ := h.row h0
    rw [e]
    rw [hn] at g3
    exact g3.done (by omega) g2 (by omega) (by omega) (by omega) (by omega) _ _ _
theorem PutS.start {A : Option Addr} {c : Nat} {W w2 w3 : World} (hJ : PutW bl t x A B c d w w2) (_hbW : Below W.heap.size W w2) (hzW : w.heap.size + 1 + 1 + 1 ≤ W.heap.size) (_hKK : ∀ j, j < t.ks.length → RepS Q w (ka0 j) (kd t.ks j)) (hg : 0 < n → ∃ g, A2 = some ⟨g, 0, none⟩ ∧ W.heap.size ≤ g ∧ g < w2.heap.size ∧ (∀ j, j < n * 4 → w2.cell? ⟨g, j, none⟩ = (csOf t.ks ka0 kc0)[j]?) ∧ ∀ j, w2.frozen? ⟨g, j, none⟩ = false)
    (hbl : bl < w.heap.size) (hb : Blk w2 bl 3 #[.int .i64 kk]) (hn : n = t.ks.length) (hw : w2.setCell ⟨w.heap.size, 3, none⟩ (.slice A2 n c2) = w3) : PutS m x Q bl t ka0 kc0 A2 c2 B d n w 0 w3 kk := by
  have hz := hJ.hz
  rw [← hw]
  refine ⟨hJ.hb.set (Nat.le_refl _) _ _, by simpa using hz, hbl, (set_blk _ _ _ (by omega)).trans hb, ?_, (set_blk _ _ _ (by omega)).trans hJ.b1, (set_blk _ _ _ (by omega)).trans hJ.b2, hn, fun hp => ?_⟩
  · exact hJ.b0.set_ 3 _
  · obtain ⟨g, e1, e2, e3, e4, e5⟩ := hg hp
    have hgn : g ≠ w.heap.size := by omega
    refine ⟨g, e1, by omega, by simpa using e3, ka0, kc0, kd t.ks, fun j _ => ⟨rfl, rfl, rfl⟩, fun j hj => by omega, fun j hj => ?_⟩
    have hc : ∀ r, (w2.setCell ⟨w.heap.size, 3, none⟩ (.slice A2 n c2)).cell? ⟨g, r, none⟩ = w2.cell? ⟨g, r, none⟩ := fun r => World.cell?_of_block (a := ⟨g, r, none⟩) (set_blk _ _ _ hgn)
    have hf : ∀ r, (w2.setCell ⟨w.heap.size, 3, none⟩ (.slice A2 n c2)).frozen? ⟨g, r, none⟩ = w2.frozen? ⟨g, r, none⟩ := fun r => World.frozen?_of_block (a := ⟨g, r, none⟩) (set_blk _ _ _ hgn)
    obtain ⟨q0, q1, q2, q3⟩ := csOf_get4 (ka := ka0) (kc := kc0) hj
    exact ⟨⟨(hc _).trans ((e4 _ (by omega)).trans q0), (hc _).trans ((e4 _ (by omega)).trans q1), (hc _).trans ((e4 _ (by omega)).trans q2), (hc _).trans ((e4 _ (by omega)).trans q3)⟩, fun r => (hf _).trans (e5 _)⟩
end
end Go.Proofs.Ytcdpjodnbegepaa
