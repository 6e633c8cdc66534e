/- The contract of put, of layer 30 (terms). -/
import Derived.Test.YtcdpjodnbegepaaPt1
import Derived.RegionTactic
import Derived.Deep.RegionHeld3
namespace Go.Proofs.Ytcdpjodnbegepaa
open Go.RowKit

abbrev S4 (w : World) (g f : Nat) (a b c d : Value) : World := (((w.setCell ⟨g, f, none⟩ a).setCell ⟨g, f + 1, none⟩ b).setCell ⟨g, f + 2, none⟩ c).setCell ⟨g, f + 3, none⟩ d
theorem s4_ne (w : World) {g f o : Nat} (a b c d : Value) (h : o < f ∨ f + 4 ≤ o) : (S4 w g f a b c d).cell? ⟨g, o, none⟩ = w.cell? ⟨g, o, none⟩ := by
  rw [sc_ne _ _ (by omega), sc_ne _ _ (by omega), sc_ne _ _ (by omega), sc_ne _ _ (by omega)]
theorem s4_fr (w : World) {g f o : Nat} (a b c d : Value) : (S4 w g f a b c d).frozen? ⟨g, o, none⟩ = w.frozen? ⟨g, o, none⟩ := by
  rw [sc_fr, sc_fr, sc_fr, sc_fr]
theorem s4_eq (w : World) {g f : Nat} (a b c d : Value) (h0 : (w.cell? ⟨g, f, none⟩).isSome = true) (h1 : (w.cell? ⟨g, f + 1, none⟩).isSome = true) (h2 : (w.cell? ⟨g, f + 2, none⟩).isSome = true) (h3 : (w.cell? ⟨g, f + 3, none⟩).isSome = true) :
    (S4 w g f a b c d).cell? ⟨g, f, none⟩ = some a ∧ (S4 w g f a b c d).cell? ⟨g, f + 1, none⟩ = some b ∧ (S4 w g f a b c d).cell? ⟨g, f + 2, none⟩ = some c ∧ (S4 w g f a b c d).cell? ⟨g, f + 3, none⟩ = some d := by
  refine ⟨?_, ?_, ?_, ?_⟩
  · rw [sc_ne _ _ (by omega), sc_ne _ _ (by omega), sc_ne _ _ (by omega), sc_eq _ _ h0]
  · rw [sc_ne _ _ (by omega), sc_ne _ _ (by omega), sc_eq _ _ (by rw [sc_ne _ _ (by omega)]; exact h1)]
  · rw [sc_ne _ _ (by omega), sc_eq _ _ (by rw [sc_ne _ _ (by omega), sc_ne _ _ (by omega)]; exact h2)]
  · rw [sc_eq _ _ (by rw [sc_ne _ _ (by omega), sc_ne _ _ (by omega), sc_ne _ _ (by omega)]; exact h3)]
/-- Blocks in which a put tree lies: not the row's, not the boxes. -/
def PP (Q : Nat → Prop) (bl G g : Nat) (w : World) (y : Nat) : Prop := (Q y ∨ G ≤ y) ∧ y < w.heap.size ∧ y ≠ bl ∧ y ≠ g ∧ y ≠ G ∧ y ≠ G + 1 ∧ y ≠ G + 1 + 1
/-- The row of Kids in block g: the first i are put. -/
def PIn (m : ByteArray) (x : Ex) (Q : Nat → Prop) (bl G : Nat) (ks : List Ex) (ka0 : Nat → Option Addr) (kc0 : Nat → Nat) (g i : Nat) (w : World) : Prop := ∃ (ka : Nat → Option Addr) (kc : Nat → Nat) (K : Nat → Ex), (∀ j, i ≤ j → ka j = ka0 j ∧ kc j = kc0 j ∧ K j = kd ks j) ∧ (∀ j, j < i → K j = putE m x (kd ks j) ∧ RepS (PP Q bl G g w) w (ka j) (K j)) ∧ ∀ j, j < ks.length →
  (w.cell? ⟨g, j * 4, none⟩ = some (.int .i64 (K j).op) ∧ w.cell? ⟨g, j * 4 + 1, none⟩ = some (.int .i64 (K j).vr) ∧ w.cell? ⟨g, j * 4 + 2, none⟩ = some (.string (K j).nm) ∧ w.cell? ⟨g, j * 4 + 3, none⟩ = some (.slice (ka j) (K j).ks.length (kc j))) ∧
  ∀ r, w.frozen? ⟨g, j * 4 + r, none⟩ = false
theorem PIn.lf {m : ByteArray} {x : Ex} {Q : Nat → Prop} {bl G : Nat} {ks : List Ex} {ka0 : Nat → Option Addr} {kc0 : Nat → Nat} {g i : Nat} {w w' : World} (h : PIn m x Q bl G ks ka0 kc0 g i w) (hl : Lf bl w w') (hg : g < w.heap.size) (hne : g ≠ bl) : PIn m x Q bl G ks ka0 kc0 g i w' := by
  obtain ⟨ka, kc, K, h1, h2, h3⟩ := h
  have hb := hl.block g hg hne
  refine ⟨ka, kc, K, h1, fun j hj => ⟨(h2 j hj).1, (hl.rep (h2 j hj).2 (fun y hy => ⟨hy.2.1, hy.2.2.1⟩)).mono (fun y hy => ⟨hy.1, by have := hl.size; have := hy.2.1; omega, hy.2.2⟩)⟩, fun j hj => ?_⟩
  obtain ⟨⟨c0, c1, c2, c3⟩, fr⟩ := h3 j hj
  exact ⟨⟨(World.cell?_of_block (a := ⟨g, _, none⟩) hb).trans c0, (World.cell?_of_block (a := ⟨g, _, none⟩) hb).trans c1, (World.cell?_of_block (a := ⟨g, _, none⟩) hb).trans c2, (World.cell?_of_block (a := ⟨g, _, none⟩) hb).trans c3⟩, fun r => (World.frozen?_of_block (a := ⟨g, _, none⟩) hb).trans (fr r)⟩
theorem PIn.step {m : ByteArray} {x : Ex} {Q : Nat → Prop} {bl G : Nat} {ks : List Ex} {ka0 : Nat → Option Addr} {kc0 : Nat → Nat} {g i : Nat} {w : World} (h : PIn m x Q bl G ks ka0 kc0 g i w) (hi : i < ks.length) {A' : Option Addr} {c' : Nat} {a b c d : Value}
    (ha : a = .int .i64 (putE m x (kd ks i)).op) (hb : b = .int .i64 (putE m x (kd ks i)).vr) (hc : c = .string (putE m x (kd ks i)).nm) (hd : d = .slice A' (putE m x (kd ks i)).ks.length c')
    (hR : RepS (PP Q bl G g w) w A' (putE m x (kd ks i))) : PIn m x Q bl G ks ka0 kc0 g (i + 1) (S4 w g (i * 4) a b c d) := by
  obtain ⟨ka, kc, K, h1, h2, h3⟩ := h
  subst ha; subst hb; subst hc; subst hd
  have keep : ∀ (A : Option Addr) (u : Ex), RepS (PP Q bl G g w) w A u → RepS (PP Q bl G g (S4 w g (i * 4) (.int .i64 (putE m x (kd ks i)).op) (.int .i64 (putE m x (kd ks i)).vr) (.string (putE m x (kd ks i)).nm) (.slice A' (putE m x (kd ks i)).ks.length c'))) (S4 w g (i * 4) (.int .i64 (putE m x (kd ks i)).op) (.int .i64 (putE m x (kd ks i)).vr) (.string (putE m x (kd ks i)).nm) (.slice A' (putE m x (kd ks i)).ks.length c')) A u := fun A u hr =>
    (hr.kept (fun y hy => set4_blk w _ _ _ _ hy.2.2.2.1)).mono (fun y hy => ⟨hy.1, by rw [set4_size]; exact hy.2.1, hy.2.2⟩)
  refine ⟨fun j => if j = i then A' else ka j, fun j => if j = i then c' else kc j, fun j => if j = i then putE m x (kd ks i) else K j, fun j hj => ?_, fun j hj => ?_, fun j hj => ?_⟩
  · have hn : j ≠ i := by omega
    simp only [if_neg hn]
    exact h1 j (by omega)
  · by_cases e : j = i
    · subst e
      simp only [if_pos]
      exact ⟨trivial, keep _ _ hR⟩
    · simp only [if_neg e]
      exact ⟨(h2 j (by omega)).1, keep _ _ (h2 j (by omega)).2⟩
  · obtain ⟨⟨c0, c1, c2, c3⟩, fr⟩ := h3 j hj
    refine ⟨?_, fun r => (s4_fr w _ _ _ _).trans (fr r)⟩
    by_cases e : j = i
    · subst e
      simp only [if_pos]
      exact s4_eq w _ _ _ _ (by rw [c0]; rfl) (by rw [c1]; rfl) (by rw [c2]; rfl) (by rw [c3]; rfl)
    · simp only [if_neg e]
      exact ⟨(s4_ne w _ _ _ _ (by omega)).trans c0, (s4_ne w _ _ _ _ (by omega)).trans c1, (s4_ne w _ _ _ _ (by omega)).trans c2, (s4_ne w _ _ _ _ (by omega)).trans c3⟩
/-- All are put: the row is the tree's. -/
theorem PIn.done {m : ByteArray} {x : Ex} {Q : Nat → Prop} {bl G : Nat} {ks : List Ex} {ka0 : Nat → Option Addr} {kc0 : Nat → Nat} {g : Nat} {w : World} (h : PIn m x Q bl G ks ka0 kc0 g ks.length w) (hg : G ≤ g) (hgs : g < w.heap.size) (hne : g ≠ bl) (_h0 : g ≠ G) (_h1 : g ≠ G + 1) (h2 : g ≠ G + 1 + 1) (o v : Int) (nm : ByteArray) : RepS (fun y => (Q y ∨ G ≤ y) ∧ y < w.heap.size ∧ y ≠ bl ∧ y ≠ G + 1 + 1) w (some ⟨g, 0, none⟩) (.mk o v nm (putL m x ks)) := by
  obtain ⟨ka, kc, K, _, h4, h3⟩ := h
  have hl : (Ex.mk o v nm (putL m x ks)).ks.length = ks.length := putL_len m x ks
  have hK : ∀ i, i < ks.length → kd (Ex.mk o v nm (putL m x ks)).ks i = K i := fun i hi => (putL_kd m x ks i hi).trans (h4 i hi).1.symm
  refine .mk _ _ ka kc (fun _ => ⟨g, 0, rfl, ⟨.inr hg, hgs, hne, h2⟩, fun i hi => ?_⟩) (fun i hi => ?_)
  · rw [hl] at hi
    rw [hK i hi]
    simp only [Nat.zero_add]
    exact (h3 i hi).1
  · rw [hl] at hi
    rw [hK i hi]
    exact (h4 i hi).2.mono (fun y hy => ⟨hy.1, hy.2.1, hy.2.2.1, hy.2.2.2.2.2.2⟩)
end Go.Proofs.Ytcdpjodnbegepaa
