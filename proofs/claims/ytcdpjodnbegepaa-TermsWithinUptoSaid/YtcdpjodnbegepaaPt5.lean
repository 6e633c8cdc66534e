/- The contract of Put, of layer 30 (terms). -/
import Derived.Test.YtcdpjodnbegepaaPt4
namespace Go.Proofs.Ytcdpjodnbegepaa
open Go.RowKit

/-- What Put answers: the tree, in blocks of Q and in new ones. -/
def GivT (u : Ex) (Q : Nat → Prop) (w : World) (e : Ending) (w' : World) : Prop := ∃ A' c', e = .returned (exV u A' c') ∧ RepS (fun y => (Q y ∨ w.heap.size ≤ y) ∧ y < w'.heap.size) w' A' u ∧ Below w.heap.size w w'
theorem Lf.toBelow {bl B : Nat} {a w w' : World} (h : Lf bl w w') (hb : Below B a w) (h1 : B ≤ bl) (h2 : B ≤ w.heap.size) : Below B a w' :=
  ⟨h.os.trans hb.os, h.tape.trans hb.tape, h.output.trans hb.output, Nat.le_trans hb.size h.size, fun k hk => (h.block k (by omega) (by omega)).trans (hb.block k hk)⟩
set_option maxRecDepth 100000 in
set_option maxHeartbeats 4000000 in
theorem pr_Put (t x : Ex) (m : ByteArray) (A B : Option Addr) (c d : Nat) (Q : Nat → Prop) (w : World) (ht : t.sz ≤ 100000000) (hx : x.sz ≤ 100000000) (hR : RepS Q w A t) (hRx : RepS Q w B x) (hQ : ∀ y, Q y → y < w.heap.size) :
    Calls Try.prog 24 #[exV t A c, .string m, exV x B d] w (GivT (putE m x t) Q w) := by
  obtain ⟨W, hW⟩ : ∃ W, ((w.alloc (.cells #[.int .i64 t.op, .int .i64 t.vr, .string t.nm, .slice A t.ks.length c] 24)).alloc (.cells #[.int .i64 x.op, .int .i64 x.vr, .string x.nm, .slice B x.ks.length d] 24)).alloc (.cells #[.int .i64 0, .int .i64 0, .string ⟨#[]⟩, .slice none 0 0] 24) = W := ⟨_, rfl⟩
  have hJ := putW w.heap.size t x A B c d w
  rw [hW] at hJ
  have hal : Below w.heap.size w W := by rw [← hW]; exact al (al (al (Below.refl _ _) _) _) _
  have hWs : W.heap.size = w.heap.size + 1 + 1 + 1 := by rw [← hW]; simp
  obtain ⟨W1, hW1⟩ : ∃ W1, W.alloc (.cells #[.int .i64 4096] 3) = W1 := ⟨_, rfl⟩
  have hb1 : Below W.heap.size W W1 := by rw [← hW1]; exact al (Below.refl _ _) _
  have hJ1 := hJ.below hb1
  have hbk : Blk W1 W.heap.size 3 #[.int .i64 4096] := by rw [← hW1]; exact Blk.new W 3 _
  have hbw := bt hal hb1
  have HC : Hid (Calls Try.prog 54 #[exV t A c, .string m, exV x B d, .pointer (some ⟨W.heap.size, 0, none⟩)] W1 (PutP W.heap.size (putE m x t) Q W1)) := Lib.hid (by
    have hz := hbw.size
    refine pr_put x m W.heap.size Q hx t.sz t (Nat.le_refl _) ht A B c d 4096 W1 hbk (hR.kept (fun y hy => hbw.block y (hQ y hy))) (hRx.kept (fun y hy => hbw.block y (hQ y hy))) (fun y hy => ?_)
    have := hQ y hy
    omega)
  have HJ1 := Lib.hid hJ1
  have HQ := Lib.hid hQ
  have HWW := Lib.hid hW
  have HW1 := Lib.hid hW1
  have HBW := Lib.hid hbw
  have HWS := Lib.hid hWs
  have HSZ : Hid (W1.heap.size = W.heap.size + 1) := Lib.hid (by rw [← hW1]; simp)
  have s0 := hJ1.b0.cell 0
  have s1 := hJ1.b0.cell 1
  have s2 := hJ1.b0.cell 2
  have s3 := hJ1.b0.cell 3
  have sl := hJ1.b0.lt
  have t0 := hJ1.b1.cell 0
  have t1 := hJ1.b1.cell 1
  have t2 := hJ1.b1.cell 2
  have t3 := hJ1.b1.cell 3
  have tl := hJ1.b1.lt
  show Calls Try.prog 24 #[.agg #[.int .i64 t.op, .int .i64 t.vr, .string t.nm, .slice A t.ks.length c], .string m, .agg #[.int .i64 x.op, .int .i64 x.vr, .string x.nm, .slice B x.ks.length d]] w _
  clear hJ hW hal hW1 hb1 hJ1 hbk hbw hR hRx ht hx hWs hQ
  generalize putE m x t = u at *
  go_enter Try.func24, Try.ntmps24
  go_upto_region 1 with (go_at_call 999)
  rw [HWW.out]
  go_upto_region 2 with (go_at_call 999)
  rw [HW1.out]
  go_wp2_with (go_at_call 54; (with_reducible refine HC.out.mono ?_); rintro e w4 hpp; obtain ⟨A4, c4, k4, rfl, hB4, hR4, hL4⟩ := hpp; have r4 : Blk w4 (w.heap.size + 1 + 1) 24 #[.int .i64 0, .int .i64 0, .string ⟨#[]⟩, .slice none 0 0] := hL4.blk HJ1.out.b2 (by have := HWS.out; omega); have v0 := r4.cell 0; have v1 := r4.cell 1; have v2 := r4.cell 2; have v3 := r4.cell 3; have u0 := r4.frozen 0; have u1 := r4.frozen 1; have u2 := r4.frozen 2; have u3 := r4.frozen 3; have ul := r4.lt; have G4 := Lib.hid r4; have HR4 := Lib.hid hR4; have HL4 := Lib.hid hL4; clear hB4 hR4 hL4 r4)
  have hws := HWS.out
  have hsz := HSZ.out
  have hb4 : Below w.heap.size w w4 := HL4.out.toBelow HBW.out (by omega) (by omega)
  have hne : ∀ y, (Q y ∨ W1.heap.size ≤ y) ∧ y < w4.heap.size ∧ y ≠ W.heap.size → y ≠ w.heap.size + 1 + 1 := fun y hy => by
    rcases hy.1 with h | h
    · have := HQ.out y h; omega
    · omega
  refine bodyPost_ret (res_ex rfl _ _ (w.heap.size + 1 + 1) _ _ _ _ rfl ((((G4.out.set_ 0 _).set_ 1 _).set_ 2 _).set_ 3 _)) rfl ⟨A4, c4, rfl, (HR4.out.kept (fun y hy => set4_blk _ _ _ _ _ (hne y hy))).mono (fun y hy => ⟨?_, by rw [set4_size]; exact hy.2.1⟩), below_set (below_set (below_set (below_set hb4 (by omega) _ _) (by omega) _ _) (by omega) _ _) (by omega) _ _⟩
  rcases hy.1 with h | h
  · exact .inl h
  · exact .inr (by omega)
end Go.Proofs.Ytcdpjodnbegepaa
