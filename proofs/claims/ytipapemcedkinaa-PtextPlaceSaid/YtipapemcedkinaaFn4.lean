/- Contracts of Check$1 and Check of layer 7 (ptext). -/
import Derived.Test.YtipapemcedkinaaFn2
import Derived.Test.YtipapemcedkinaaFn3
namespace Go.Proofs.Ytipapemcedkinaa
open Go.RowKit

/-- The state of Check: the fault, and how many nodes so far. -/
def stC (s : Int × Int) (t : Ex) (d : Int) : (Int × Int) × Bool := ((flawS t.op t.vr t.ks.length d (wrap64 (s.2 + 1)), wrap64 (s.2 + 1)), flawS t.op t.vr t.ks.length d (wrap64 (s.2 + 1)) == 0)
def InC (bn bf : Nat) (S : Nat → Prop) (s : Int × Int) (w : World) : Prop := S bn ∧ S bf ∧ bn ≠ bf ∧ Blk w bn 3 #[.int .i64 s.2] ∧ Blk w bf 26 #[.int .i64 s.1]
theorem InC.kept (bn bf : Nat) : KeptI (InC bn bf) where
  step := fun S s w w' h hb => ⟨h.1, h.2.1, h.2.2.1, h.2.2.2.1.below hb h.2.2.2.1.lt, h.2.2.2.2.below hb h.2.2.2.2.lt⟩
  narrow := fun S s w h hi hh => ⟨⟨hi.1, fun e => by have := hi.2.2.2.1.lt; omega⟩, ⟨hi.2.1, fun e => by have := hi.2.2.2.2.lt; omega⟩, hi.2.2⟩
  widen := fun S S' s w h hs => ⟨hs _ h.1, hs _ h.2.1, h.2.2⟩
set_option maxHeartbeats 2000000 in
theorem pr_Check1 (bn bf : Nat) (S : Nat → Prop) (s : Int × Int) (w : World) (t : Ex) (A : Option Addr) (c : Nat) (d : Int) (hI : InC bn bf S s w) :
    Calls Try.prog 28 #[exV t A c, .int .i64 d, .pointer (some ⟨bn, 0, none⟩), .pointer (some ⟨bf, 0, none⟩)] w (VisP (InC bn bf) S w (stC s t d)) := by
  obtain ⟨h1, h2, h3, h4, h5⟩ := hI
  obtain ⟨s1, s2⟩ := s
  obtain ⟨k', hk'⟩ : ∃ k', wrap64 (s2 + 1) = k' := ⟨_, rfl⟩
  obtain ⟨R, hR⟩ : ∃ R, stC (s1, s2) t d = R := ⟨_, rfl⟩
  have HR : Hid (R = ((flawS t.op t.vr t.ks.length d k', k'), flawS t.op t.vr t.ks.length d k' == 0)) := Lib.hid (by rw [← hR]; unfold stC; rw [hk'])
  rw [hR]
  clear hR
  have HF := Lib.hid (fun w => pr_flaw t.op t.vr t.ks.length A c d k' w)
  generalize flawS t.op t.vr t.ks.length d k' = f at *
  have e0 : w.cell? ⟨bn, 0, none⟩ = some (.int .i64 s2) := h4.cell 0
  have f0 := h4.frozen 0
  have f1 := h5.frozen 0
  have hl4 := h4.lt
  have hl5 := h5.lt
  have H4 := Lib.hid h4
  have H5 := Lib.hid h5
  clear h4 h5
  have HW : Hid (Blk ((w.setCell ⟨bn, 0, none⟩ (.int .i64 k')).alloc (.cells (exC t A c) 25)) bn 3 #[.int .i64 k'] ∧ Blk ((w.setCell ⟨bn, 0, none⟩ (.int .i64 k')).alloc (.cells (exC t A c) 25)) bf 26 #[.int .i64 s1] ∧ Frm S w ((w.setCell ⟨bn, 0, none⟩ (.int .i64 k')).alloc (.cells (exC t A c) 25))) := Lib.hid (by
    exact ⟨(H4.out.set_ 0 _).alloc _, (H5.out.set_other h3 _ _).alloc _, ((Frm.refl S w).set h1 _ _).alloc _⟩)
  go_enter Try.func28, Try.ntmps28
  go_wp2_with (go_at_call 29; (with_reducible refine (HF.out _).mono ?_); rintro e w1 ⟨rfl, hb1⟩; have g4 := HW.out.1.below hb1 HW.out.1.lt; have g5 := HW.out.2.1.below hb1 HW.out.2.1.lt; have q5 : w1.frozen? ⟨bf, 0, none⟩ = false := g5.frozen 0; have q6 : w1.cell? ⟨bf, 0, none⟩ = some (.int .i64 s1) := g5.cell 0; have q7 := g5.lt; have G4 := Lib.hid g4; have G5 := Lib.hid g5; have GF := Lib.hid (HW.out.2.2.trans (Frm.of_below hb1)); clear g4 g5 hb1)
  go_ret
  rw [HR.out]
  exact ⟨rfl, ⟨h1, h2, h3, G4.out.set_other (fun e => h3 e.symm) _ _, G5.out.set_ 0 _⟩, GF.out.set h2 _ _⟩
mutual
theorem vis_chk : ∀ (t : Ex) (d f k : Int), vis stC t d (f, k) = (chk t d k, (chk t d k).1 == 0)
  | .mk o v ks, d, f, k => by
    rw [vis_eq, chk_eq]
    have e1 : (stC (f, k) (.mk o v ks) d).1 = (flawS o v ks.length d (wrap64 (k + 1)), wrap64 (k + 1)) := rfl
    have e2 : (stC (f, k) (.mk o v ks) d).2 = (flawS o v ks.length d (wrap64 (k + 1)) == 0) := rfl
    rw [e1, e2]
    show (if (flawS o v ks.length d (wrap64 (k + 1)) == 0) = true then _ else _) = _
    by_cases h : flawS o v ks.length d (wrap64 (k + 1)) = 0
    · rw [if_pos (by simp [h])]
      show visL stC ks (d + 1) _ = _
      have e3 : (if flawS (Ex.mk o v ks).op (Ex.mk o v ks).vr (Ex.mk o v ks).ks.length d (wrap64 (k + 1)) = 0 then chkL (Ex.mk o v ks).ks (d + 1) (wrap64 (k + 1)) else (flawS (Ex.mk o v ks).op (Ex.mk o v ks).vr (Ex.mk o v ks).ks.length d (wrap64 (k + 1)), wrap64 (k + 1))) = chkL ks (d + 1) (wrap64 (k + 1)) := if_pos h
      rw [e3, h]
      exact visL_chk ks (d + 1) (wrap64 (k + 1))
    · rw [if_neg (by simp [h])]
      have e3 : (if flawS (Ex.mk o v ks).op (Ex.mk o v ks).vr (Ex.mk o v ks).ks.length d (wrap64 (k + 1)) = 0 then chkL (Ex.mk o v ks).ks (d + 1) (wrap64 (k + 1)) else (flawS (Ex.mk o v ks).op (Ex.mk o v ks).vr (Ex.mk o v ks).ks.length d (wrap64 (k + 1)), wrap64 (k + 1))) = (flawS o v ks.length d (wrap64 (k + 1)), wrap64 (k + 1)) := if_neg h
      rw [e3]
      have : (flawS o v ks.length d (wrap64 (k + 1)) == 0) = false := by simp [h]
      rw [this]
theorem visL_chk : ∀ (l : List Ex) (d k : Int), visL stC l d (0, k) = (chkL l d k, (chkL l d k).1 == 0)
  | [], d, k => rfl
  | t :: r, d, k => by
    show (if (vis stC t d (0, k)).2 then visL stC r d (vis stC t d (0, k)).1 else ((vis stC t d (0, k)).1, false)) = ((if (chk t d k).1 = 0 then chkL r d (chk t d k).2 else chk t d k), (if (chk t d k).1 = 0 then chkL r d (chk t d k).2 else chk t d k).1 == 0)
    rw [vis_chk t d 0 k]
    obtain ⟨e, n⟩ := chk t d k
    by_cases h : e = 0
    · subst h
      exact visL_chk r d n
    · have h2 : (e == 0) = false := by simp [h]
      simp only [h2, h, if_false]
      simp
end
set_option maxHeartbeats 1000000 in
theorem pr_Check (t : Ex) (A : Option Addr) (c : Nat) (w : World) (hs : t.sz ≤ 100000000) (hR : Rep w.heap.size w A t) : Calls Try.prog 16 #[exV t A c] w fun e w' => e = .returned (.int .i64 (chkE t)) ∧ Below w.heap.size w w' := by
  have HV : Hid (∀ (bn bf : Nat) W, InC bn bf (fun b => w.heap.size ≤ b) (0, 0) W → w.heap.size ≤ W.heap.size → Rep w.heap.size W A t → Calls Try.prog 27 #[exV t A c, .int .i64 1, .func (.func 28) #[] #[.pointer (some ⟨bn, 0, none⟩), .pointer (some ⟨bf, 0, none⟩)]] W (VisP (InC bn bf) (fun b => w.heap.size ≤ b) W (vis stC t 1 (0, 0)))) := Lib.hid (fun bn bf W hI hW hR => by
    refine pr_visit 28 _ (InC bn bf) stC w.heap.size (.pointer (some ⟨bn, 0, none⟩)) (.pointer (some ⟨bf, 0, none⟩)) ⟨rfl, rfl⟩ (InC.kept bn bf) ?_ t.sz t (Nat.le_refl _) A c 1 _ _ W hI (fun b hb h => by omega) (fun b hb => by omega) hW hR (by omega) (by omega)
    intro S s w t A c d hI _ _ _ _ _ _
    exact pr_Check1 bn bf S s w t A c d hI)
  have HR := Lib.hid hR
  clear hR
  have HB : Hid (∀ o1 o2 o3, Below w.heap.size w (((w.alloc o1).alloc o2).alloc o3)) := Lib.hid (fun o1 o2 o3 => al (al (al (Below.refl _ _) _) _) _)
  go_enter Try.func16, Try.ntmps16
  have HBX : Hid (∀ o1, InC (w.heap.size + 1 + 1) (w.heap.size + 1) (fun b => w.heap.size ≤ b) (0, 0) (((w.alloc o1).alloc (.cells #[.int .i64 0] 26)).alloc (.cells #[.int .i64 0] 3))) := Lib.hid (fun o1 => by
    have z1 : (w.alloc o1).heap.size = w.heap.size + 1 := by simp
    have z2 : ((w.alloc o1).alloc (.cells #[.int .i64 0] 26)).heap.size = w.heap.size + 1 + 1 := by simp
    have b1 := Blk.new (w.alloc o1) 26 #[.int .i64 0]
    have b2 := Blk.new ((w.alloc o1).alloc (.cells #[.int .i64 0] 26)) 3 #[.int .i64 0]
    rw [z1] at b1
    rw [z2] at b2
    exact ⟨by omega, by omega, by omega, b2, b1.alloc _⟩)
  go_wp2_with (go_at_call 27; (with_reducible refine (HV.out _ _ _ (HBX.out _) (by simp; omega) (HR.out.under (HB.out _ _ _))).mono ?_); rintro e w1 ⟨rfl, hI, hf⟩; have q0 : w1.cell? ⟨w.heap.size + 1, 0, none⟩ = some (.int .i64 (vis stC t 1 (0, 0)).1.1) := hI.2.2.2.2.cell 0; have HF := Lib.hid hf; clear hI hf)
  go_ret
  refine ⟨by rw [vis_chk]; rfl, (HB.out _ _ _).trans (HF.out.below2 (fun k hk h => by omega) (by simp; omega))⟩
end Go.Proofs.Ytipapemcedkinaa
