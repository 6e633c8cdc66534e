/- The contracts of distinct and Names, of layer 30 (terms). -/
import Derived.Test.YtcdpjodnbegepaaNc
import Derived.Deep.RegionWith
namespace Go.Proofs.Ytcdpjodnbegepaa
open Go.RowKit

theorem RT.frm {w w' : World} {B : Nat} {A : Option Addr} {l : List Bs} {S : Nat → Prop} (h : RT w B A l) (hf : Frm S w w') (hB : B ≤ w.heap.size) (hS : ∀ b f, A = some ⟨b, f, none⟩ → ¬ S b) : RT w' B A l := fun hl => by
  obtain ⟨b, off, e, hb, hc⟩ := h hl
  exact ⟨b, off, e, hb, fun i hi => (World.cell?_of_block (a := ⟨b, off + i, none⟩) (hf.block b (by omega) (hS b off e))).trans (hc i hi)⟩
def DisP (v : Value) (l : List Bs) (w : World) (e : Ending) (w' : World) : Prop := ∃ A c, e = .returned (.slice A (setK l).length c) ∧ RT w' w'.heap.size A (setK l) ∧ (∀ b f, A = some ⟨b, f, none⟩ → v.ownBlock = some b) ∧ Frm (fun k => v.ownBlock = some k) w w'
set_option maxRecDepth 100000 in
set_option maxHeartbeats 2000000 in
theorem pr_distinct (v : Value) (l : List Bs) (w : World) (h : OwnX w 0 v l) (hl : l.length ≤ 1000000000) : Calls Try.prog 35 #[v] w (DisP v l w) := by
  rcases h.pre0 with ⟨rfl, rfl⟩ | ⟨g, cap, rfl, hg, hcap, hcm, hP⟩
  · go_enter Try.func35, Try.ntmps35
    go_wp2_with (first | (go_at_call 56; (with_reducible refine (sort_nilT _).mono ?_); rintro e w3 ⟨rfl, rfl⟩) | (go_at_call 57; (with_reducible refine (compact_nilT _).mono ?_); rintro e w3 ⟨rfl, rfl⟩))
    go_ret
    refine ⟨none, 0, ?_, ?_, (fun b f e => by cases e), Frm.refl _ _⟩
    · rw [setK_nil]; rfl
    · rw [setK_nil]; exact RT.nil
  · have HP := Lib.hid hP
    have HG : Hid (∀ l2 c2, (Value.slice (some ⟨g, 0, none⟩) l2 c2).ownBlock = some g) := Lib.hid (fun _ _ => rfl)
    clear h hP hg
    go_enter Try.func35, Try.ntmps35
    go_wp2_with (first
      | (go_at_call 56; (with_reducible refine (sort_preT _ _ _ _ HP.out (by omega)).mono ?_); rintro e w3 ⟨rfl, hP3, hf3⟩; have HP3 := Lib.hid hP3; have HF3 := Lib.hid hf3; clear hP3 hf3)
      | (go_at_call 57; (with_reducible refine (compact_preT _ _ _ _ HP3.out hcap (by omega)).mono ?_); rintro e w4 ⟨rfl, hP4, hf4⟩; have HP4 := Lib.hid hP4; have HF4 := Lib.hid hf4; clear hP4 hf4))
    go_ret
    refine ⟨some ⟨g, 0, none⟩, cap, rfl, HP4.out.ri, fun b f e => ?_, (HF3.out.trans HF4.out).mono (fun k hk => by rw [hk]; exact HG.out _ _)⟩
    cases e
    exact HG.out _ _
def NamP (L M : List Bs) (w : World) (e : Ending) (w' : World) : Prop := ∃ A c B d, e = .returned (.tuple #[.slice A L.length c, .slice B M.length d]) ∧ RT w' w'.heap.size A L ∧ RT w' w'.heap.size B M ∧ Below w.heap.size w w'
set_option maxRecDepth 100000 in
set_option maxHeartbeats 4000000 in
theorem pr_Names (t : Ex) (A : Option Addr) (c : Nat) (w : World) (hs : t.sz ≤ 100000000) (hR : Rep w.heap.size w A t) : Calls Try.prog 11 #[exV t A c] w (NamP (setK (occ 3 t)) (setK (occ 4 t)) w) := by
  have HV : Hid (∀ (bp bq : Nat) W, InD bp bq (fun b => w.heap.size ≤ b) ([], []) W → w.heap.size ≤ W.heap.size → Rep w.heap.size W A t → Calls Try.prog 33 #[exV t A c, .int .i64 1, .func (.func 34) #[] #[.pointer (some ⟨bp, 0, none⟩), .pointer (some ⟨bq, 0, none⟩)]] W (VisP (InD bp bq) (fun b => w.heap.size ≤ b) W ((occ 3 t, occ 4 t), true))) := Lib.hid (fun bp bq W hI hW hR => by
    have h := pr_visitM (InD bp bq) stN w.heap.size (.pointer (some ⟨bp, 0, none⟩)) (.pointer (some ⟨bq, 0, none⟩)) (fun s => s.1.length + s.2.length) 100000000 stN_mu (InD.kept bp bq) (fun S s w t A c d hI _ hF _ _ _ _ hm => pr_Names1 bp bq S s w t A c d hI hF (by omega)) t.sz t (Nat.le_refl _) A c 1 _ _ W hI (fun b hb h => by omega) (fun b hb => by omega) hW hR (by omega) (by omega) (by simpa using hs)
    rw [vis_n t 1 ([], [])] at h
    exact h)
  have HR := Lib.hid hR
  have h3 := occ_le 3 t
  have h4 := occ_le 4 t
  have hl3 : (occ 3 t).length ≤ 1000000000 := by omega
  have hl4 : (occ 4 t).length ≤ 1000000000 := by omega
  clear hR h3 h4
  generalize occ 3 t = L at *
  generalize occ 4 t = M at *
  have HX : Hid (∀ o1, InD (w.heap.size + 1) (w.heap.size + 1 + 1) (fun b => w.heap.size ≤ b) ([], []) (((w.alloc o1).alloc (.cells #[.slice none 0 0] 27)).alloc (.cells #[.slice none 0 0] 27)) ∧ w.heap.size ≤ (((w.alloc o1).alloc (.cells #[.slice none 0 0] 27)).alloc (.cells #[.slice none 0 0] 27)).heap.size ∧ Rep w.heap.size (((w.alloc o1).alloc (.cells #[.slice none 0 0] 27)).alloc (.cells #[.slice none 0 0] 27)) A t ∧ Below w.heap.size w (((w.alloc o1).alloc (.cells #[.slice none 0 0] 27)).alloc (.cells #[.slice none 0 0] 27))) := Lib.hid (fun o1 => by
    have z1 : (w.alloc o1).heap.size = w.heap.size + 1 := by simp
    have b1 := Blk.new (w.alloc o1) 27 #[.slice none 0 0]
    have b2 := Blk.new ((w.alloc o1).alloc (.cells #[.slice none 0 0] 27)) 27 #[.slice none 0 0]
    have z2 : ((w.alloc o1).alloc (.cells #[.slice none 0 0] 27)).heap.size = w.heap.size + 1 + 1 := by simp
    have b3 := b1.alloc (.cells #[.slice none 0 0] 27)
    rw [z1] at b3
    rw [z2] at b2
    have hb : Below w.heap.size w (((w.alloc o1).alloc (.cells #[.slice none 0 0] 27)).alloc (.cells #[.slice none 0 0] 27)) := al (al (al (Below.refl _ _) _) _) _
    exact ⟨⟨by omega, by omega, by omega, _, _, b3, b2, ⟨rfl, .inl ⟨rfl, rfl⟩⟩, ⟨rfl, .inl ⟨rfl, rfl⟩⟩, (fun k hk => by cases hk), (fun k hk => by cases hk)⟩, hb.size, HR.out.under hb, hb⟩)
  go_enter Try.func11, Try.ntmps11
  go_upto_region 2 with (go_at_call 33; (with_reducible refine (HV.out _ _ _ (HX.out _).1 (HX.out _).2.1 (HX.out _).2.2.1).mono ?_); rintro e w1 ⟨rfl, hI, hf⟩; have HI := Lib.hid hI; have HF := Lib.hid ((HX.out _).2.2.2.trans (hf.below2 (fun k hk h => by omega) (HX.out _).2.1)); clear hI hf)
  obtain ⟨s1, s2, hne, v, u, p1, p2, p3, p4, p5, p6⟩ := HI.out
  clear HX HI HV
  generalize w.heap.size + 1 + 1 = bq at *
  generalize w.heap.size + 1 = bp at *
  have e0 : w1.cell? ⟨bp, 0, none⟩ = some v := p1.cell 0
  have e1 : w1.cell? ⟨bq, 0, none⟩ = some u := p2.cell 0
  have HD1 : Hid (Calls Try.prog 35 #[v] w1.drew (DisP v L w1)) := Lib.hid ((pr_distinct v L w1.drew p3 hl3).mono (fun e w2 ⟨A2, c2, h1, h2, h3, h4⟩ => ⟨A2, c2, h1, h2, h3, (Frm.of_below (Below.refl _ _).drew).trans h4⟩))
  have HD2 : Hid (∀ w2, Frm (fun k => v.ownBlock = some k) w1 w2 → (w2.cell? ⟨bp, 0, none⟩ = some v ∧ w2.cell? ⟨bq, 0, none⟩ = some u) ∧ Calls Try.prog 35 #[u] w2 (DisP u M w2)) := Lib.hid (fun w2 hf => ⟨⟨(p1.frm hf (fun e => (p5 _ e).2.1 rfl)).cell 0, (p2.frm hf (fun e => (p5 _ e).2.2.1 rfl)).cell 0⟩, pr_distinct u M w2 (p4.eqb (fun k hk hkl => hf.block k hkl (fun e => (p5 k e).2.2.2 hk))) hl4⟩)
  have HE : Hid (∀ w2 w3 A2 B2, Frm (fun k => v.ownBlock = some k) w1 w2 → Frm (fun k => u.ownBlock = some k) w2 w3 → RT w2 w2.heap.size A2 (setK L) → RT w3 w3.heap.size B2 (setK M) → (∀ b f, A2 = some ⟨b, f, none⟩ → v.ownBlock = some b) → (∀ b f, B2 = some ⟨b, f, none⟩ → u.ownBlock = some b) →
      Blk w3 bp 27 #[v] ∧ Blk w3 bq 27 #[u] ∧ ∀ x y, RT ((w3.setCell ⟨bp, 0, none⟩ x).setCell ⟨bq, 0, none⟩ y) ((w3.setCell ⟨bp, 0, none⟩ x).setCell ⟨bq, 0, none⟩ y).heap.size A2 (setK L) ∧ RT ((w3.setCell ⟨bp, 0, none⟩ x).setCell ⟨bq, 0, none⟩ y) ((w3.setCell ⟨bp, 0, none⟩ x).setCell ⟨bq, 0, none⟩ y).heap.size B2 (setK M) ∧ Below w.heap.size w ((w3.setCell ⟨bp, 0, none⟩ x).setCell ⟨bq, 0, none⟩ y) ∧ ((w3.setCell ⟨bp, 0, none⟩ x).setCell ⟨bq, 0, none⟩ y).cell? ⟨bp, 0, none⟩ = some x ∧ ((w3.setCell ⟨bp, 0, none⟩ x).setCell ⟨bq, 0, none⟩ y).cell? ⟨bq, 0, none⟩ = some y) := Lib.hid (fun w2 w3 A2 B2 hf1 hf2 hA hB hA2 hB2 => by
    have f12 : Frm (fun k => w.heap.size ≤ k) w1 w2 := hf1.mono (fun k hk => (p5 k hk).1)
    have f23 : Frm (fun k => w.heap.size ≤ k) w2 w3 := hf2.mono (fun k hk => (p6 k hk).1)
    have r1 := (p1.frm hf1 (fun e => (p5 _ e).2.1 rfl)).frm hf2 (fun e => (p6 _ e).2.1 rfl)
    have r2 := (p2.frm hf1 (fun e => (p5 _ e).2.2.1 rfl)).frm hf2 (fun e => (p6 _ e).2.2 rfl)
    refine ⟨r1, r2, fun x y => ?_⟩
    have g3 : Frm (fun k => k = bp ∨ k = bq) w3 ((w3.setCell ⟨bp, 0, none⟩ x).setCell ⟨bq, 0, none⟩ y) := ((Frm.refl _ _).set (.inl rfl) _ _).set (.inr rfl) _ _
    have hA3 := hA.frm hf2 (Nat.le_refl _) (fun b f e e2 => (p5 b (hA2 b f e)).2.2.2 e2)
    refine ⟨?_, ?_, HF.out.trans (((f12.trans f23).trans (g3.mono (fun k hk => by rcases hk with rfl | rfl <;> omega))).below2 (fun k hk h => by omega) HF.out.size), ?_, ?_⟩
    · refine ((hA3.more hf2.size).frm g3 (Nat.le_refl _) (fun b f e e2 => ?_)).more g3.size
      have h := p5 b (hA2 b f e)
      rcases e2 with e2 | e2
      · exact h.2.1 e2
      · exact h.2.2.1 e2
    · refine (hB.frm g3 (Nat.le_refl _) (fun b f e e2 => ?_)).more g3.size
      have h := p6 b (hB2 b f e)
      rcases e2 with e2 | e2
      · exact h.2.1 e2
      · exact h.2.2 e2
    · have q1 : Blk ((w3.setCell ⟨bp, 0, none⟩ x).setCell ⟨bq, 0, none⟩ y) bp 27 #[x] := (set_blk1 _ _ _ hne).trans (r1.set_ 0 x)
      exact q1.cell 0
    · have q2 : Blk (w3.setCell ⟨bp, 0, none⟩ x) bq 27 #[u] := (set_blk1 _ _ _ (fun e => hne e.symm)).trans r2
      exact (q2.set_ 0 y).cell 0)
  clear p1 p2 p3 p4 p5 p6 s1 s2 HR
  go_region_with (first
    | (go_at_call 35; first
      | ((with_reducible refine HD1.out.mono ?_); rintro e w2 ⟨A2, c2, rfl, hRA, hA2, hf1⟩; obtain ⟨h2, hc2⟩ := HD2.out w2 hf1; have HC2 := Lib.hid hc2; have HA := Lib.hid hRA; have HA2 := Lib.hid hA2; have HF1 := Lib.hid hf1; clear hc2 hRA hA2 hf1)
      | ((with_reducible refine HC2.out.mono ?_); rintro e w3 ⟨B2, d2, rfl, hRB, hB2, hf2⟩; obtain ⟨k1, k2, hE⟩ := HE.out w2 w3 A2 B2 HF1.out hf2 HA.out hRB HA2.out hB2; have y0 : w3.cell? ⟨bp, 0, none⟩ = some v := k1.cell 0; have y1 := k1.frozen 0; have y2 : w3.cell? ⟨bq, 0, none⟩ = some u := k2.cell 0; have y3 := k2.frozen 0; have y4 := k1.lt; have y5 := k2.lt; have HEE := Lib.hid hE; clear hRB hB2 hf2 k1 k2 hE)))
  all_goals go_wp2
  all_goals obtain ⟨z1, z2, z3, z4, z5⟩ := HEE.out (.slice A2 (setK L).length c2) (.slice B2 (setK M).length d2)
  all_goals refine bodyPost_ret (v := .tuple #[.slice A2 (setK L).length c2, .slice B2 (setK M).length d2]) (by simp [results, Try.results11, go_sem, z4, z5]) rfl ?_
  all_goals exact ⟨A2, c2, B2, d2, rfl, z1, z2, z3⟩
end Go.Proofs.Ytcdpjodnbegepaa
