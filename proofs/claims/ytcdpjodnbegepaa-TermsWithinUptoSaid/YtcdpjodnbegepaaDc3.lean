/- The contract of detach; layer 30 (terms). -/
import Derived.Test.YtcdpjodnbegepaaDc2
namespace Go.Proofs.Ytcdpjodnbegepaa
open Go.RowKit

theorem add3 (b f j : Nat) : (⟨b, f, none⟩ : Addr).add j = ⟨b, f + j, none⟩ := by unfold Addr.add; split <;> simp_all
theorem clone_tree {P : Nat → Prop} {w : World} {A : Option Addr} {t : Ex} (c : Nat) (h : RepS P w A t) (hP : ∀ x, P x → x < w.heap.size) (hl : t.ks.length ≤ 1000000000) :
    ∃ ka kc, (∀ i, i < t.ks.length → RepS P w (ka i) (kd t.ks i)) ∧ Calls Try.prog 79 #[.slice A t.ks.length c] w (CloneP w t.ks.length (csOf t.ks ka kc)) := by
  cases h with
  | mk _ _ ka kc hrow hkid =>
    refine ⟨ka, kc, hkid, pr_Clone A t.ks.length c (csOf t.ks ka kc) w hl (csOf_len _ _ _) (csOf_one _ _ _) (fun e => ?_) (fun ad e j u hu => ?_) (fun ad e => ?_)⟩
    · rcases Nat.eq_zero_or_pos t.ks.length with h0 | h0
      · exact h0
      · obtain ⟨b, f, e2, _⟩ := hrow h0
        rw [e] at e2; cases e2
    · have hj : j < (csOf t.ks ka kc).length := (List.getElem?_eq_some_iff.1 hu).1
      rw [csOf_len] at hj
      obtain ⟨b, f, e2, hb, hc⟩ := hrow (by omega)
      rw [e] at e2
      obtain rfl := Option.some.inj e2
      have hi : j / 4 < t.ks.length := by omega
      have hr : j % 4 < 4 := by omega
      have hd : j = j / 4 * 4 + j % 4 := by omega
      have ha : (⟨b, f, none⟩ : Addr).add j = ⟨b, f + j, none⟩ := add3 b f j
      rw [hd, csOf_at hi hr] at hu
      rw [ha]
      obtain ⟨c0, c1, c2, c3⟩ := hc (j / 4) hi
      rcases (show j % 4 = 0 ∨ j % 4 = 1 ∨ j % 4 = 2 ∨ j % 4 = 3 by omega) with h0 | h0 | h0 | h0
      · rw [h0] at hu
        rw [show f + j = f + j / 4 * 4 by omega, c0]
        exact hu
      · rw [h0] at hu
        rw [show f + j = f + j / 4 * 4 + 1 by omega, c1]
        exact hu
      · rw [h0] at hu
        rw [show f + j = f + j / 4 * 4 + 2 by omega, c2]
        exact hu
      · rw [h0] at hu
        rw [show f + j = f + j / 4 * 4 + 3 by omega, c3]
        exact hu
    · rcases Nat.eq_zero_or_pos t.ks.length with h0 | h0
      · exact .inl h0
      · obtain ⟨b, f, e2, hb, _⟩ := hrow h0
        rw [e] at e2
        obtain rfl := Option.some.inj e2
        exact .inr (hP b hb)
/-- The Kids of t lie in block g, and their trees elsewhere. -/
def KidsIn (N : Nat → Prop) (b bl g : Nat) (t : Ex) (w : World) : Prop := ∃ (ka : Nat → Option Addr) (kc : Nat → Nat), ∀ i, i < t.ks.length →
  (w.cell? ⟨g, i * 4, none⟩ = some (.int .i64 (kd t.ks i).op) ∧ w.cell? ⟨g, i * 4 + 1, none⟩ = some (.int .i64 (kd t.ks i).vr) ∧ w.cell? ⟨g, i * 4 + 2, none⟩ = some (.string (kd t.ks i).nm) ∧ w.cell? ⟨g, i * 4 + 3, none⟩ = some (.slice (ka i) (kd t.ks i).ks.length (kc i))) ∧
  w.frozen? ⟨g, i * 4 + 3, none⟩ = false ∧ RepS (Pn (fun x => N x ∨ x = b) g bl w) w (ka i) (kd t.ks i)
def DetP (b f bl : Nat) (t : Ex) (N : Nat → Prop) (w : World) (e : Ending) (w' : World) : Prop := e = .returned (.tuple #[]) ∧ ∃ A' c' k', w'.cell? ⟨b, f, none⟩ = some (.slice A' t.ks.length c') ∧ Blk w' bl 3 #[.int .i64 k'] ∧ RepS (Pn N b bl w') w' A' t ∧ Fd b f bl w w'
theorem KidsIn.step {N : Nat → Prop} {b bl g j : Nat} {t : Ex} {w w' : World} {e : Ending} (h : KidsIn N b bl g t w) (hj : j < t.ks.length) (hd : DetP g (j * 4 + 3) bl (kd t.ks j) (fun x => N x ∨ x = b) w e w') : KidsIn N b bl g t w' := by
  obtain ⟨ka, kc, hk⟩ := h
  obtain ⟨_, A', c', k', hc, _, hr, hf⟩ := hd
  refine ⟨fun i => if i = j then A' else ka i, fun i => if i = j then c' else kc i, fun i hi => ?_⟩
  obtain ⟨⟨d0, d1, d2, d3⟩, hfz, hrep⟩ := hk i hi
  have x0 := (hf.cell (i * 4) (by omega)).trans d0
  have x1 := (hf.cell (i * 4 + 1) (by omega)).trans d1
  have x2 := (hf.cell (i * 4 + 2) (by omega)).trans d2
  by_cases e : i = j
  · subst e
    refine ⟨⟨x0, x1, x2, ?_⟩, hf.frozen _ hfz, ?_⟩
    · dsimp only; rw [if_pos rfl, if_pos rfl]; exact hc
    · dsimp only; rw [if_pos rfl]; exact hr
  · refine ⟨⟨x0, x1, x2, ?_⟩, hf.frozen _ hfz, ?_⟩
    · dsimp only; rw [if_neg e, if_neg e]; exact (hf.cell (i * 4 + 3) (by omega)).trans d3
    · dsimp only; rw [if_neg e]
      exact (hrep.kept (fun x hx => hf.block x hx.2.2.2 hx.2.1 hx.2.2.1)).mono (fun x hx => ⟨hx.1, hx.2.1, hx.2.2.1, Nat.lt_of_lt_of_le hx.2.2.2 hf.size⟩)
theorem Fd.inner {b f bl g f2 : Nat} {w wr w3 : World} (h : Fd b f bl w wr) (h2 : Fd g f2 bl wr w3) (hg : w.heap.size ≤ g) (hb : b < w.heap.size) (hbl : bl ≠ b) : Fd b f bl w w3 := by
  have hbk := h2.block b (Nat.lt_of_lt_of_le hb h.size) (by omega) (fun e => hbl e.symm)
  refine ⟨h2.os.trans h.os, h2.tape.trans h.tape, h2.output.trans h.output, Nat.le_trans h.size h2.size, fun k hk h3 h4 => (h2.block k (Nat.lt_of_lt_of_le hk h.size) (by omega) h4).trans (h.block k hk h3 h4), fun i hi => (World.cell?_of_block (a := ⟨b, i, none⟩) hbk).trans (h.cell i hi), fun i hi => ?_, fun i hi => ?_⟩
  · rw [World.cell?_of_block (a := ⟨b, i, none⟩) hbk]; exact h.some i hi
  · rw [World.frozen?_of_block (a := ⟨b, i, none⟩) hbk]; exact h.frozen i hi
theorem KidsIn.rep {N : Nat → Prop} {b bl g B0 : Nat} {t : Ex} {w : World} (h : KidsIn N b bl g t w) (hN : ∀ x, N x → x < B0) (hg : B0 ≤ g) (hgs : g < w.heap.size) (hgb : g ≠ b) (hgl : g ≠ bl) : RepS (Pn N b bl w) w (some ⟨g, 0, none⟩) t := by
  obtain ⟨ka, kc, hk⟩ := h
  refine .mk _ t ka kc (fun _ => ⟨g, 0, rfl, ⟨fun x => by have := hN g x; omega, hgb, hgl, hgs⟩, fun i hi => ?_⟩) (fun i hi => ?_)
  · obtain ⟨⟨d0, d1, d2, d3⟩, _, _⟩ := hk i hi
    simp only [Nat.zero_add]
    exact ⟨d0, d1, d2, d3⟩
  · exact (hk i hi).2.2.mono (fun x hx => ⟨fun y => hx.1 (.inl y), fun y => hx.1 (.inr y), hx.2.2.1, hx.2.2.2⟩)
theorem RepS.leaf {P : Nat → Prop} {w : World} {A : Option Addr} {t : Ex} (h : t.ks.length = 0) : RepS P w A t :=
  .mk A t (fun _ => none) (fun _ => 0) (fun hp => by omega) (fun i hi => by omega)
end Go.Proofs.Ytcdpjodnbegepaa
