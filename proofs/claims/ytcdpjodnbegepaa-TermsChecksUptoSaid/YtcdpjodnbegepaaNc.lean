/- The contracts of distinct, Names$1 and Names, of layer 30 (terms). -/
import Derived.Test.YtcdpjodnbegepaaNv
import Derived.Test.YtcdpjodnbegepaaNb
namespace Go.Proofs.Ytcdpjodnbegepaa
open Go.RowKit

abbrev St2 := List Bs × List Bs
def stN (s : St2) (t : Ex) (_d : Int) : St2 × Bool := ((if t.op = 3 then s.1 ++ [key t.nm] else s.1, if t.op = 4 then s.2 ++ [key t.nm] else s.2), true)
theorem stN_mu (s : St2) (t : Ex) (d : Int) : (stN s t d).1.1.length + (stN s t d).1.2.length ≤ s.1.length + s.2.length + 1 := by
  show (if t.op = 3 then s.1 ++ [key t.nm] else s.1).length + (if t.op = 4 then s.2 ++ [key t.nm] else s.2).length ≤ _
  split
  · rename_i h
    rw [if_neg (by omega)]
    simp; omega
  · split <;> simp
    omega
mutual
theorem vis_n : ∀ (t : Ex) (d : Int) (s : St2), vis stN t d s = ((s.1 ++ occ 3 t, s.2 ++ occ 4 t), true)
  | .mk o v m ks, d, s => by
    show visL stN ks (d + 1) (if o = 3 then s.1 ++ [key m] else s.1, if o = 4 then s.2 ++ [key m] else s.2) = ((s.1 ++ ((if o = 3 then [key m] else []) ++ occL 3 ks), s.2 ++ ((if o = 4 then [key m] else []) ++ occL 4 ks)), true)
    rw [visL_n]
    by_cases h3 : o = 3
    · rw [if_pos h3, if_pos h3, if_neg (by omega), if_neg (by omega)]; simp
    · rw [if_neg h3, if_neg h3]
      by_cases h4 : o = 4
      · rw [if_pos h4, if_pos h4]; simp
      · rw [if_neg h4, if_neg h4]; simp
theorem visL_n : ∀ (l : List Ex) (d : Int) (s : St2), visL stN l d s = ((s.1 ++ occL 3 l, s.2 ++ occL 4 l), true)
  | [], d, s => by
    show (s, true) = ((s.1 ++ [], s.2 ++ []), true)
    simp
  | t :: r, d, s => by
    show (if (vis stN t d s).2 then visL stN r d (vis stN t d s).1 else ((vis stN t d s).1, false)) = ((s.1 ++ (occ 3 t ++ occL 3 r), s.2 ++ (occ 4 t ++ occL 4 r)), true)
    rw [vis_n t d s]
    show visL stN r d (s.1 ++ occ 3 t, s.2 ++ occ 4 t) = _
    rw [visL_n]
    simp
end
theorem OwnX.eqb {w w' : World} {B : Nat} {v : Value} {l : List Bs} (h : OwnX w B v l) (hb : ∀ k, v.ownBlock = some k → k < w.heap.size → w'.heap[k]? = w.heap[k]?) : OwnX w' B v l := by
  have hl := h.lt
  obtain ⟨h1, h2⟩ := h
  refine ⟨h1, ?_⟩
  rcases h2 with h2 | ⟨g, cap, cur, e, hg, hh, r⟩
  · exact .inl h2
  · have e2 : v.ownBlock = some g := by rw [e]; rfl
    exact .inr ⟨g, cap, cur, e, hg, (hb g e2 (hl g e2)).trans hh, r⟩
theorem set_blk1 (w : World) {g x : Nat} (i : Nat) (v : Value) (h : x ≠ g) : (w.setCell ⟨g, i, none⟩ v).heap[x]? = w.heap[x]? := by
  have h2 : g ≠ x := fun e => h e.symm
  simp [World.setCell, Array.getElem?_modify, h2]
theorem grown_frm {S : Nat → Prop} {w w1 : World} {row : Option Nat} (hg : w.grownBy w1 row) (hr : ∀ k, row = some k → S k) : Frm S w w1 :=
  ⟨hg.os, hg.tape, hg.output, hg.size, fun k hk hs => hg.block k hk (fun e => hs (hr k e.symm))⟩
theorem rowAt {v2 v : Value} {h : Nat} (hat : v2.ownBlock = v.ownBlock ∨ v2.ownBlock = some h) : ∀ k, v2.ownBlock = some k → v.ownBlock = some k ∨ k = h := fun k hk => by
  rcases hat with e | e
  · exact .inl (by rw [← e]; exact hk)
  · exact .inr (by rw [e] at hk; exact (Option.some.inj hk).symm)
structure InD (bp bq : Nat) (S : Nat → Prop) (s : St2) (w : World) : Prop where
  sp : S bp
  sq : S bq
  ne : bp ≠ bq
  rows : ∃ v u, Blk w bp 27 #[v] ∧ Blk w bq 27 #[u] ∧ OwnX w 0 v s.1 ∧ OwnX w 0 u s.2 ∧ (∀ k, v.ownBlock = some k → S k ∧ k ≠ bp ∧ k ≠ bq ∧ u.ownBlock ≠ some k) ∧ (∀ k, u.ownBlock = some k → S k ∧ k ≠ bp ∧ k ≠ bq)
theorem InD.kept (bp bq : Nat) : KeptI (InD bp bq) where
  step := fun S s w w' ⟨h1, h2, h3, v, u, p1, p2, p3, p4, p5, p6⟩ hb => ⟨h1, h2, h3, v, u, p1.below hb p1.lt, p2.below hb p2.lt, p3.keep hb, p4.keep hb, p5, p6⟩
  narrow := fun S s w h ⟨h1, h2, h3, v, u, p1, p2, p3, p4, p5, p6⟩ hh => ⟨⟨h1, fun e => by have := p1.lt; omega⟩, ⟨h2, fun e => by have := p2.lt; omega⟩, h3, v, u, p1, p2, p3, p4, fun k hk => ⟨⟨(p5 k hk).1, fun e => by have := p3.lt k hk; omega⟩, (p5 k hk).2⟩, fun k hk => ⟨⟨(p6 k hk).1, fun e => by have := p4.lt k hk; omega⟩, (p6 k hk).2⟩⟩
  widen := fun S S' s w ⟨h1, h2, h3, v, u, p1, p2, p3, p4, p5, p6⟩ hs => ⟨hs _ h1, hs _ h2, h3, v, u, p1, p2, p3, p4, fun k hk => ⟨hs _ (p5 k hk).1, (p5 k hk).2⟩, fun k hk => ⟨hs _ (p6 k hk).1, (p6 k hk).2⟩⟩
/-- The same with the two rows in each other's place. -/
theorem InD.turn {bp bq : Nat} {S : Nat → Prop} {s : St2} {w : World} (h : InD bp bq S s w) : InD bq bp S (s.2, s.1) w := by
  obtain ⟨h1, h2, h3, v, u, p1, p2, p3, p4, p5, p6⟩ := h
  exact ⟨h2, h1, fun e => h3 e.symm, u, v, p2, p1, p4, p3, fun k hk => ⟨(p6 k hk).1, (p6 k hk).2.2, (p6 k hk).2.1, fun e => (p5 k e).2.2.2 hk⟩, fun k hk => ⟨(p5 k hk).1, (p5 k hk).2.2.1, (p5 k hk).2.1⟩⟩
/-- One row has grown by a text and is stored anew. -/
theorem InD.push {bp bq : Nat} {S : Nat → Prop} {s : St2} {w W w1 : World} {v u v2 : Value} {x : Bs} (hF : ∀ b, w.heap.size ≤ b → S b) (h1 : S bp) (h2 : S bq) (h3 : bp ≠ bq) (p1 : Blk w bp 27 #[v]) (p2 : Blk w bq 27 #[u]) (p4 : OwnX w 0 u s.2)
    (p5 : ∀ k, v.ownBlock = some k → S k ∧ k ≠ bp ∧ k ≠ bq ∧ u.ownBlock ≠ some k) (p6 : ∀ k, u.ownBlock = some k → S k ∧ k ≠ bp ∧ k ≠ bq) (hW : Below w.heap.size w W) (hg : W.grownBy w1 v.ownBlock) (ho : OwnX w1 0 v2 (s.1 ++ [x]))
    (hat : ∀ k, v2.ownBlock = some k → v.ownBlock = some k ∨ k = W.heap.size) : InD bp bq S (s.1 ++ [x], s.2) (w1.setCell ⟨bp, 0, none⟩ v2) ∧ Frm S w (w1.setCell ⟨bp, 0, none⟩ v2) := by
  have hz := hW.size
  have hv2 : ∀ k, v2.ownBlock = some k → S k ∧ k ≠ bp ∧ k ≠ bq ∧ u.ownBlock ≠ some k := fun k hk => by
    rcases hat k hk with e | e
    · exact p5 k e
    · have l1 := p1.lt
      have l2 := p2.lt
      exact ⟨hF k (by omega), by omega, by omega, fun e2 => by have := p4.lt k e2; omega⟩
  have keep : ∀ k, k < w.heap.size → v.ownBlock ≠ some k → w1.heap[k]? = w.heap[k]? := fun k hk hn => (hg.block k (by omega) (fun e => hn e.symm)).trans (hW.block k hk)
  have q1 : Blk w1 bp 27 #[v] := (keep bp p1.lt (fun e => (p5 bp e).2.1 rfl)).trans p1
  have q2 : Blk w1 bq 27 #[u] := (keep bq p2.lt (fun e => (p5 bq e).2.2.1 rfl)).trans p2
  refine ⟨⟨h1, h2, h3, v2, u, q1.set_ 0 v2, (set_blk1 _ _ _ (fun e => h3 e.symm)).trans q2, ho.eqb (fun k hk _ => set_blk1 _ _ _ (hv2 k hk).2.1), p4.eqb (fun k hk hl => (set_blk1 _ _ _ (p6 k hk).2.1).trans (keep k hl (fun e => (p5 k e).2.2.2 hk))), hv2, p6⟩, ?_⟩
  exact (((Frm.of_below hW).trans (grown_frm hg (fun k hk => (p5 k hk).1)))).set h1 _ _
set_option maxRecDepth 100000 in
set_option maxHeartbeats 4000000 in
theorem pr_Names1 (bp bq : Nat) (S : Nat → Prop) (s : St2) (w : World) (t : Ex) (A : Option Addr) (c : Nat) (d : Int) (hI : InD bp bq S s w) (hF : ∀ b, w.heap.size ≤ b → S b) (hm : s.1.length + s.2.length + 1 ≤ 1000000000) :
    Calls Try.prog 34 #[exV t A c, .int .i64 d, .pointer (some ⟨bp, 0, none⟩), .pointer (some ⟨bq, 0, none⟩)] w (VisP (InD bp bq) S w (stN s t d)) := by
  obtain ⟨i0, hi0, hz0, hz1, hz2⟩ := info_parts info9
  have hK := InD.kept bp bq
  have HAL : Hid (∀ ob, Below w.heap.size w (w.alloc ob)) := Lib.hid (fun ob => (Below.refl _ _).alloc (Nat.le_refl _) ob)
  by_cases ho : t.op = 3
  · obtain ⟨R, hR⟩ : ∃ R, stN s t d = R := ⟨_, rfl⟩
    have HR : Hid (R = ((s.1 ++ [key t.nm], s.2), true)) := Lib.hid (by rw [← hR]; unfold stN; rw [if_pos ho, if_neg (by omega)])
    rw [hR]
    have hob : (t.op == 3) = true := by simp [ho]
    have hob2 : (t.op == 3) = true := by simp [ho]
    obtain ⟨h1, h2, h3, v, u, p1, p2, p3, p4, p5, p6⟩ := hI
    show Calls Try.prog 34 #[.agg #[.int .i64 t.op, .int .i64 t.vr, .string t.nm, .slice A t.ks.length c], .int .i64 d, .pointer (some ⟨bp, 0, none⟩), .pointer (some ⟨bq, 0, none⟩)] w (VisP (InD bp bq) S w R)
    have HP : Hid (∀ w1 v2, (((w.alloc (.cells #[.int .i64 t.op, .int .i64 t.vr, .string t.nm, .slice A t.ks.length c] 24)).alloc (.cells #[.string t.nm] 9)).grownBy w1 v.ownBlock) → OwnX w1 0 v2 (s.1 ++ [key t.nm]) → (∀ k, v2.ownBlock = some k → v.ownBlock = some k ∨ k = ((w.alloc (.cells #[.int .i64 t.op, .int .i64 t.vr, .string t.nm, .slice A t.ks.length c] 24)).alloc (.cells #[.string t.nm] 9)).heap.size) → InD bp bq S (s.1 ++ [key t.nm], s.2) (w1.setCell ⟨bp, 0, none⟩ v2) ∧ Frm S w (w1.setCell ⟨bp, 0, none⟩ v2)) := Lib.hid (fun w1 v2 hg ho hat => InD.push hF h1 h2 h3 p1 p2 p4 p5 p6 (al (al (Below.refl _ _) _) _) hg ho hat)
    have HB : Hid (∀ w1, (((w.alloc (.cells #[.int .i64 t.op, .int .i64 t.vr, .string t.nm, .slice A t.ks.length c] 24)).alloc (.cells #[.string t.nm] 9)).grownBy w1 v.ownBlock) → Blk w1 bp 27 #[v]) := Lib.hid (fun w1 hg => by
      have hl := p1.lt
      exact (hg.block bp (by simp; omega) (fun e => (p5 bp e.symm).2.1 rfl)).trans ((al (al (Below.refl _ _) _) _ : Below w.heap.size w _).block _ hl |>.trans p1))
    have HO : Hid (OwnX w 0 v s.1) := Lib.hid p3
    have e0 : w.cell? ⟨bp, 0, none⟩ = some v := p1.cell 0
    have hlt := p1.lt
    clear hR h1 h2 h3 p1 p2 p3 p4 p5 p6 hF ho
    obtain ⟨Av, cv, rfl⟩ : ∃ A c, v = .slice A s.1.length c := by obtain ⟨A, c, h, _⟩ := HO.out.form; exact ⟨A, c, h⟩
    go_enter Try.func34, Try.ntmps34
    go_wp2_with (at_builtin; refine wpList_append_own_at _ rfl _ _ 27 rfl 0 9 i0 _ 1 16 Try.underlying27 hi0 hz0 hz1 hz2 rfl (by decide) _ _ _ rfl (World.ownsRow.alloc (World.ownsRow.alloc HO.out _) _) ⟨w.heap.size + 1, 0, none⟩ 1 1 [.string t.nm] rfl rfl (by have h := cell_one_new (w.alloc (.cells #[.int .i64 t.op, .int .i64 t.vr, .string t.nm, .slice A t.ks.length c] 24)) (.string t.nm) 9; simpa using h) (by simp [Value.oneCell']) (max_ok (by omega)) (by omega) (Nat.zero_le _) ?_; intro v2 w1 hown hg1 _ hat; have ho2 : OwnX w1 0 v2 (s.1 ++ [key t.nm]) := OwnX.push (b := key t.nm) hown; obtain ⟨A2, c2, e2, _⟩ := ho2.form; subst e2; have hkb := HB.out w1 hg1; have f1 := hkb.frozen 0; have f2 : w1.cell? ⟨bp, 0, none⟩ = some (.slice Av s.1.length cv) := hkb.cell 0; have f3 := hkb.lt; have HF := Lib.hid (HP.out w1 _ hg1 ho2 (rowAt hat)); clear hown hg1 hat ho2 hkb)
    go_ret
    rw [HR.out]
    exact ⟨rfl, by have h := HF.out; simpa using h.1, by have h := HF.out; simpa using h.2⟩
  by_cases ho4 : t.op = 4
  · obtain ⟨R, hR⟩ : ∃ R, stN s t d = R := ⟨_, rfl⟩
    have HR : Hid (R = ((s.1, s.2 ++ [key t.nm]), true)) := Lib.hid (by rw [← hR]; unfold stN; rw [if_neg ho, if_pos ho4])
    rw [hR]
    have hob : (t.op == 4) = true := by simp [ho4]
    have hob2 : (t.op == 3) = false := by simp [ho4]
    obtain ⟨h1, h2, h3, v, u, p1, p2, p3, p4, p5, p6⟩ := hI.turn
    show Calls Try.prog 34 #[.agg #[.int .i64 t.op, .int .i64 t.vr, .string t.nm, .slice A t.ks.length c], .int .i64 d, .pointer (some ⟨bp, 0, none⟩), .pointer (some ⟨bq, 0, none⟩)] w (VisP (InD bp bq) S w R)
    have HP : Hid (∀ w1 v2, (((w.alloc (.cells #[.int .i64 t.op, .int .i64 t.vr, .string t.nm, .slice A t.ks.length c] 24)).alloc (.cells #[.string t.nm] 9)).grownBy w1 v.ownBlock) → OwnX w1 0 v2 (s.2 ++ [key t.nm]) → (∀ k, v2.ownBlock = some k → v.ownBlock = some k ∨ k = ((w.alloc (.cells #[.int .i64 t.op, .int .i64 t.vr, .string t.nm, .slice A t.ks.length c] 24)).alloc (.cells #[.string t.nm] 9)).heap.size) → InD bp bq S (s.1, s.2 ++ [key t.nm]) (w1.setCell ⟨bq, 0, none⟩ v2) ∧ Frm S w (w1.setCell ⟨bq, 0, none⟩ v2)) := Lib.hid (fun w1 v2 hg ho hat => by
      have h := InD.push (s := (s.2, s.1)) hF h1 h2 h3 p1 p2 p4 p5 p6 (al (al (Below.refl _ _) _) _) hg ho hat
      exact ⟨h.1.turn, h.2⟩)
    have HB : Hid (∀ w1, (((w.alloc (.cells #[.int .i64 t.op, .int .i64 t.vr, .string t.nm, .slice A t.ks.length c] 24)).alloc (.cells #[.string t.nm] 9)).grownBy w1 v.ownBlock) → Blk w1 bq 27 #[v]) := Lib.hid (fun w1 hg => by
      have hl := p1.lt
      exact (hg.block bq (by simp; omega) (fun e => (p5 bq e.symm).2.1 rfl)).trans ((al (al (Below.refl _ _) _) _ : Below w.heap.size w _).block _ hl |>.trans p1))
    have HO : Hid (OwnX w 0 v s.2) := Lib.hid p3
    have e0 : w.cell? ⟨bq, 0, none⟩ = some v := p1.cell 0
    have hlt := p1.lt
    clear hR h1 h2 h3 p1 p2 p3 p4 p5 p6 hF ho ho4
    obtain ⟨Av, cv, rfl⟩ : ∃ A c, v = .slice A s.2.length c := by obtain ⟨A, c, h, _⟩ := HO.out.form; exact ⟨A, c, h⟩
    go_enter Try.func34, Try.ntmps34
    go_wp2_with (at_builtin; refine wpList_append_own_at _ rfl _ _ 27 rfl 0 9 i0 _ 1 16 Try.underlying27 hi0 hz0 hz1 hz2 rfl (by decide) _ _ _ rfl (World.ownsRow.alloc (World.ownsRow.alloc HO.out _) _) ⟨w.heap.size + 1, 0, none⟩ 1 1 [.string t.nm] rfl rfl (by have h := cell_one_new (w.alloc (.cells #[.int .i64 t.op, .int .i64 t.vr, .string t.nm, .slice A t.ks.length c] 24)) (.string t.nm) 9; simpa using h) (by simp [Value.oneCell']) (max_ok (by omega)) (by omega) (Nat.zero_le _) ?_; intro v2 w1 hown hg1 _ hat; have ho2 : OwnX w1 0 v2 (s.2 ++ [key t.nm]) := OwnX.push (b := key t.nm) hown; obtain ⟨A2, c2, e2, _⟩ := ho2.form; subst e2; have hkb := HB.out w1 hg1; have f1 := hkb.frozen 0; have f2 : w1.cell? ⟨bq, 0, none⟩ = some (.slice Av s.2.length cv) := hkb.cell 0; have f3 := hkb.lt; have HF := Lib.hid (HP.out w1 _ hg1 ho2 (rowAt hat)); clear hown hg1 hat ho2 hkb)
    go_ret
    rw [HR.out]
    exact ⟨rfl, by have h := HF.out; simpa using h.1, by have h := HF.out; simpa using h.2⟩
  · obtain ⟨R, hR⟩ : ∃ R, stN s t d = R := ⟨_, rfl⟩
    have HR : Hid (R = (s, true)) := Lib.hid (by rw [← hR]; unfold stN; rw [if_neg ho, if_neg ho4])
    rw [hR]
    have hob : (t.op == 3) = false := by simp [ho]
    have hob4 : (t.op == 4) = false := by simp [ho4]
    have HI := Lib.hid (hK.step _ _ _ _ hI (HAL.out (.cells (exC t A c) 24)))
    clear hR hI hF hK ho ho4
    go_enter Try.func34, Try.ntmps34
    go_wp2
    go_ret
    rw [HR.out]
    exact ⟨rfl, HI.out, Frm.of_below (HAL.out _)⟩
end Go.Proofs.Ytcdpjodnbegepaa
