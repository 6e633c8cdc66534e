/- Contracts of Vars$1 and Vars, of layer 6 (prop). -/
import Derived.Test.YtakhdlidikbnjaaFnV
import Derived.Test.YtakhdlidikbnjaaFn4
import Derived.Test.YtakhdlidikbnjaaSrt
namespace Go.Proofs.Ytakhdlidikbnjaa
open Go.RowKit

mutual
/-- The variables of an expression, node by node. -/
def vrs : Ex → List Int | .mk o v ks => (if o = 3 then [v] else []) ++ vrsL ks
def vrsL : List Ex → List Int
  | [] => []
  | t :: r => vrs t ++ vrsL r
end
mutual
theorem vrs_le : ∀ t : Ex, (vrs t).length ≤ t.sz
  | .mk o v ks => by
    have := vrsL_le ks
    show ((if o = 3 then [v] else []) ++ vrsL ks).length ≤ 1 + szL ks
    rw [List.length_append]
    split <;> simp <;> omega
theorem vrsL_le : ∀ l : List Ex, (vrsL l).length ≤ szL l
  | [] => Nat.le_refl _
  | t :: r => by
    have := vrs_le t
    have := vrsL_le r
    show (vrs t ++ vrsL r).length ≤ t.sz + szL r
    rw [List.length_append]
    omega
end
def stV (s : List Int) (t : Ex) (_d : Int) : List Int × Bool := (if t.op = 3 then s ++ [t.vr] else s, true)
theorem stV_mu (s : List Int) (t : Ex) (d : Int) : (stV s t d).1.length ≤ s.length + 1 := by
  unfold stV
  show (if t.op = 3 then s ++ [t.vr] else s).length ≤ _
  split <;> simp
mutual
theorem vis_v : ∀ (t : Ex) (d : Int) (s : List Int), vis stV t d s = (s ++ vrs t, true)
  | .mk o v ks, d, s => by
    show visL stV ks (d + 1) (if o = 3 then s ++ [v] else s) = (s ++ ((if o = 3 then [v] else []) ++ vrsL ks), true)
    rw [visL_v]
    split <;> simp
theorem visL_v : ∀ (l : List Ex) (d : Int) (s : List Int), visL stV l d s = (s ++ vrsL l, true)
  | [], d, s => by
    show (s, true) = (s ++ [], true)
    simp
  | t :: r, d, s => by
    show (if (vis stV t d s).2 then visL stV r d (vis stV t d s).1 else ((vis stV t d s).1, false)) = (s ++ (vrs t ++ vrsL r), true)
    rw [vis_v t d s]
    show visL stV r d (s ++ vrs t) = _
    rw [visL_v]
    simp
end
theorem grown_blk {w w1 : World} {row : Option Nat} {b : Nat} {t : TypeId} {cs : Array Value} (h : Blk w b t cs) (hg : w.grownBy w1 row) (hr : ∀ k, row = some k → k ≠ b) : Blk w1 b t cs :=
  (hg.block b h.lt (fun e => hr b e.symm rfl)).trans h
theorem grown_frm {S : Nat → Prop} {w w1 : World} {row : Option Nat} (hg : w.grownBy w1 row) (hr : ∀ k, row = some k → S k) : Frm S w w1 :=
  ⟨hg.os, hg.tape, hg.output, hg.size, fun k hk hs => hg.block k hk (fun e => hs (hr k e.symm))⟩
theorem Own.other2 {w : World} {B : Nat} {v u : Value} {l : List Int} {bl : Nat} {S : Nat → Prop} (h : Own w B v l) (hn : ∀ k, v.ownBlock = some k → S k ∧ k ≠ bl) : Own (w.setCell ⟨bl, 0, none⟩ u) B v l := by
  obtain ⟨h1, h2⟩ := h
  refine ⟨h1, ?_⟩
  rcases h2 with h2 | ⟨g2, cap, cur, e, hg2, hh, r⟩
  · exact .inl h2
  · have hne : bl ≠ g2 := fun e2 => (hn g2 (by rw [e]; rfl)).2 e2.symm
    exact .inr ⟨g2, cap, cur, e, hg2, by simp [World.setCell, Array.getElem?_modify, hne, hh], r⟩
def InV (bl : Nat) (S : Nat → Prop) (s : List Int) (w : World) : Prop := S bl ∧ ∃ v, Blk w bl 33 #[v] ∧ Own w 0 v s ∧ ∀ k, v.ownBlock = some k → S k ∧ k ≠ bl
theorem InV.kept (bl : Nat) : KeptI (InV bl) where
  step := fun S s w w' ⟨h1, v, h2, h3, h4⟩ hb => ⟨h1, v, h2.below hb h2.lt, h3.keep hb, h4⟩
  narrow := fun S s w h ⟨h1, v, h2, h3, h4⟩ hh => ⟨⟨h1, fun e => by have := h2.lt; omega⟩, v, h2, h3, fun k hk => ⟨⟨(h4 k hk).1, fun e => by have := h3.lt k hk; omega⟩, (h4 k hk).2⟩⟩
  widen := fun S S' s w ⟨h1, v, h2, h3, h4⟩ hs => ⟨hs _ h1, v, h2, h3, fun k hk => ⟨hs _ (h4 k hk).1, (h4 k hk).2⟩⟩
set_option maxRecDepth 100000 in
set_option maxHeartbeats 2000000 in
theorem pr_Vars1 (bl : Nat) (S : Nat → Prop) (s : List Int) (w : World) (t : Ex) (A : Option Addr) (c : Nat) (d : Int) (hI : InV bl S s w) (hF : ∀ b, w.heap.size ≤ b → S b) (hm : s.length + 1 ≤ 1000000000) :
    Calls Try.prog 31 #[exV t A c, .int .i64 d, .pointer (some ⟨bl, 0, none⟩)] w (VisP (InV bl) S w (stV s t d)) := by
  obtain ⟨i0, hi0, hz0, hz1, hz2⟩ := info_parts info3
  have hK := InV.kept bl
  have HAL : Hid (∀ ob, Below w.heap.size w (w.alloc ob)) := Lib.hid (fun ob => (Below.refl _ _).alloc (Nat.le_refl _) ob)
  by_cases ho : t.op = 3
  · obtain ⟨R, hR⟩ : ∃ R, stV s t d = R := ⟨_, rfl⟩
    have HR : Hid (R = (s ++ [t.vr], true)) := Lib.hid (by rw [← hR]; unfold stV; rw [if_pos ho])
    rw [hR]
    obtain ⟨h1, v, h2, h3, h4⟩ := hI
    have hob : (t.op == 3) = true := by simp [ho]
    show Calls Try.prog 31 #[.agg #[.int .i64 t.op, .int .i64 t.vr, .slice A t.ks.length c], .int .i64 d, .pointer (some ⟨bl, 0, none⟩)] w (VisP (InV bl) S w R)
    rw [ho]
    have HH := Lib.hid (And.intro h2 (And.intro h3 h4))
    have e0 : w.cell? ⟨bl, 0, none⟩ = some v := h2.cell 0
    have hlt := h2.lt
    have HF := Lib.hid hF
    generalize t.vr = x at *
    clear hR h2 h3 h4 hF hK ho hob
    obtain ⟨Av, cv, hv⟩ : ∃ A c, v = .slice A s.length c := by obtain ⟨A, c, h, _⟩ := HH.out.2.1.form; exact ⟨A, c, h⟩
    subst hv
    go_enter Try.func31, Try.ntmps31
    go_wp2_with (at_builtin; refine wpList_append_own_at _ rfl _ _ 33 rfl 0 3 i0 _ 1 8 Try.underlying33 hi0 hz0 hz1 hz2 rfl (by decide) _ _ _ rfl (World.ownsRow.alloc (World.ownsRow.alloc HH.out.2.1 _) _) ⟨w.heap.size + 1, 0, none⟩ 1 1 [.int .i64 x] rfl rfl (by have h := cell_one_new (w.alloc (.cells #[.int .i64 3, .int .i64 x, .slice A t.ks.length c] 24)) (.int .i64 x) 3; simpa using h) (by simp [Value.oneCell']) (max_ok (by omega)) (by omega) (Nat.zero_le _) ?_; intro v2 w1 hown hg1 _ hat; obtain ⟨A2, c2, e2, _⟩ := (Own.push hown).form; subst e2; have HO : Hid (Own w1 0 _ (s ++ [x])) := Lib.hid (Own.push hown); have HG := Lib.hid hg1; have HA := Lib.hid hat; have k1 := grown_blk (((HH.out.1).alloc _).alloc _) hg1 (fun k hk => (HH.out.2.2 k hk).2); have f1 := k1.frozen 0; have f2 : w1.cell? ⟨bl, 0, none⟩ = some (.slice Av s.length cv) := k1.cell 0; have f3 := k1.lt; have K1 := Lib.hid k1; clear hown hg1 hat k1)
    go_ret
    rw [HR.out]
    have hb2 : Frm S w ((w.alloc (.cells #[.int .i64 3, .int .i64 x, .slice A t.ks.length c] 24)).alloc (.cells #[.int .i64 x] 3)) := ((Frm.refl S w).alloc _).alloc _
    have hz2 : ((w.alloc (.cells #[.int .i64 3, .int .i64 x, .slice A t.ks.length c] 24)).alloc (.cells #[.int .i64 x] 3)).heap.size = w.heap.size + 1 + 1 := by simp
    have hle : (s ++ [x]).length = s.length + 1 := by simp
    have hat := HA.out
    have ho2 := HO.out
    rw [hle] at hat ho2
    have hbl : ∀ k, (Value.slice A2 (s.length + 1) c2).ownBlock = some k → S k ∧ k ≠ bl := fun k hk => by
      rcases hat with h | h
      · rw [h] at hk; exact HH.out.2.2 k hk
      · rw [h] at hk
        obtain rfl := Option.some.inj hk
        exact ⟨HF.out _ (by omega), by omega⟩
    refine ⟨rfl, ⟨h1, _, K1.out.set_ 0 _, ?_, hbl⟩, (hb2.trans (grown_frm HG.out (fun k hk => (HH.out.2.2 k hk).1))).set h1 _ _⟩
    exact ho2.other2 hbl
  · obtain ⟨R, hR⟩ : ∃ R, stV s t d = R := ⟨_, rfl⟩
    have HR : Hid (R = (s, true)) := Lib.hid (by rw [← hR]; unfold stV; rw [if_neg ho])
    rw [hR]
    have hob : (t.op == 3) = false := by simp [ho]
    have HI := Lib.hid (hK.step _ _ _ _ hI (HAL.out (.cells (exC t A c) 24)))
    clear hR hI hF hK ho
    go_enter Try.func31, Try.ntmps31
    go_wp2
    go_ret
    rw [HR.out]
    exact ⟨rfl, HI.out, Frm.of_below (HAL.out _)⟩
end Go.Proofs.Ytakhdlidikbnjaa
