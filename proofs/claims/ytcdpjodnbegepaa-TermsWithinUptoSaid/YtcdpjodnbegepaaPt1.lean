/- A tree with another in the place of a name; frames; put at the name; layer 30 (terms). -/
import Derived.Test.YtcdpjodnbegepaaDc4
import Derived.Test.YtcdpjodnbegepaaFnU
namespace Go.Proofs.Ytcdpjodnbegepaa
open Go.RowKit

mutual
/-- The tree with x in the place of every name m. -/
def putE (m : ByteArray) (x : Ex) : Ex → Ex | .mk o v nm ks => if (o == 3 && (nm.toList == m.toList)) = true then x else .mk o v nm (putL m x ks)
def putL (m : ByteArray) (x : Ex) : List Ex → List Ex
  | [] => []
  | t :: r => putE m x t :: putL m x r
end
theorem putE_eq (m : ByteArray) (x t : Ex) : putE m x t = if (t.op == 3 && (t.nm.toList == m.toList)) = true then x else .mk t.op t.vr t.nm (putL m x t.ks) := by cases t; rfl
theorem putL_len (m : ByteArray) (x : Ex) : ∀ l : List Ex, (putL m x l).length = l.length
  | [] => rfl
  | t :: r => by show (putE m x t :: putL m x r).length = _; simp [putL_len m x r]
theorem putL_kd (m : ByteArray) (x : Ex) : ∀ (l : List Ex) (i : Nat), i < l.length → kd (putL m x l) i = putE m x (kd l i)
  | t :: r, 0, _ => rfl
  | t :: r, i + 1, h => by
    have := putL_kd m x r i (by simpa using h)
    simpa [kd, putL] using this
/-- Only block bl has turned, and what is new. -/
structure Lf (bl : Nat) (w w' : World) : Prop where
  os : w'.os = w.os
  tape : w'.tape = w.tape
  output : w'.output = w.output
  size : w.heap.size ≤ w'.heap.size
  block : ∀ k, k < w.heap.size → k ≠ bl → w'.heap[k]? = w.heap[k]?
theorem Lf.refl (bl : Nat) (w : World) : Lf bl w w := ⟨rfl, rfl, rfl, Nat.le_refl _, fun _ _ _ => rfl⟩
theorem Lf.trans {bl : Nat} {u v w : World} (h : Lf bl u v) (h2 : Lf bl v w) : Lf bl u w :=
  ⟨h2.os.trans h.os, h2.tape.trans h.tape, h2.output.trans h.output, Nat.le_trans h.size h2.size, fun k hk h4 => (h2.block k (Nat.lt_of_lt_of_le hk h.size) h4).trans (h.block k hk h4)⟩
theorem Lf.below {bl : Nat} {w w' : World} (h : Below w.heap.size w w') : Lf bl w w' := ⟨h.os, h.tape, h.output, h.size, fun k hk _ => h.block k hk⟩
theorem Lf.set {bl : Nat} {u w : World} (h : Lf bl u w) {g : Nat} (hg : u.heap.size ≤ g) (i : Nat) (v : Value) : Lf bl u (w.setCell ⟨g, i, none⟩ v) :=
  ⟨h.os, h.tape, h.output, by simpa using h.size, fun k hk h4 => by
    have : g ≠ k := by omega
    rw [← h.block k hk h4]
    simp [World.setCell, Array.getElem?_modify, this]⟩
theorem Fd.lf {b f bl : Nat} {u w w' : World} (h : Fd b f bl w w') (h0 : Lf bl u w) (hb : u.heap.size ≤ b) : Lf bl u w' :=
  ⟨h.os.trans h0.os, h.tape.trans h0.tape, h.output.trans h0.output, Nat.le_trans h0.size h.size, fun k hk h4 => (h.block k (Nat.lt_of_lt_of_le hk h0.size) (by omega) h4).trans (h0.block k hk h4)⟩
theorem Lf.cell {bl : Nat} {w w' : World} (h : Lf bl w w') {b i : Nat} (hb : b < w.heap.size) (hne : b ≠ bl) : w'.cell? ⟨b, i, none⟩ = w.cell? ⟨b, i, none⟩ := World.cell?_of_block (a := ⟨b, i, none⟩) (h.block b hb hne)
theorem Lf.blk {bl : Nat} {w w' : World} (h : Lf bl w w') {x : Nat} {t : TypeId} {cs : Array Value} (hx : Blk w x t cs) (h1 : x ≠ bl) : Blk w' x t cs := (h.block x hx.lt h1).trans hx
theorem Lf.rep {bl : Nat} {w w' : World} (h : Lf bl w w') {P : Nat → Prop} {A : Option Addr} {t : Ex} (hr : RepS P w A t) (hP : ∀ y, P y → y < w.heap.size ∧ y ≠ bl) : RepS P w' A t := hr.kept (fun y hy => h.block y (hP y hy).1 (hP y hy).2)
theorem set_blk (w : World) {g x : Nat} (i : Nat) (v : Value) (h : x ≠ g) : (w.setCell ⟨g, i, none⟩ v).heap[x]? = w.heap[x]? := by
  have hn : ¬ g = x := fun e => h e.symm
  simp [World.setCell, Array.getElem?_modify, hn]
theorem set4_blk (w : World) {g x i0 i1 i2 i3 : Nat} (a b c d : Value) (h : x ≠ g) : ((((w.setCell ⟨g, i0, none⟩ a).setCell ⟨g, i1, none⟩ b).setCell ⟨g, i2, none⟩ c).setCell ⟨g, i3, none⟩ d).heap[x]? = w.heap[x]? :=
  (set_blk _ _ _ h).trans ((set_blk _ _ _ h).trans ((set_blk _ _ _ h).trans (set_blk _ _ _ h)))
theorem set4_size (w : World) (g i0 i1 i2 i3 : Nat) (a b c d : Value) : ((((w.setCell ⟨g, i0, none⟩ a).setCell ⟨g, i1, none⟩ b).setCell ⟨g, i2, none⟩ c).setCell ⟨g, i3, none⟩ d).heap.size = w.heap.size := by simp
/-- What put answers. -/
def PutP (bl : Nat) (u : Ex) (Q : Nat → Prop) (w : World) (e : Ending) (w' : World) : Prop :=
  ∃ A' c' k', e = .returned (exV u A' c') ∧ Blk w' bl 3 #[.int .i64 k'] ∧ RepS (fun y => (Q y ∨ w.heap.size ≤ y) ∧ y < w'.heap.size ∧ y ≠ bl) w' A' u ∧ Lf bl w w'
/-- What lies while put runs: the boxes of t and x, the result. -/
structure PutW (bl : Nat) (t x : Ex) (A B : Option Addr) (c d : Nat) (w W : World) : Prop where
  hb : Lf bl w W
  hz : w.heap.size + 1 + 1 + 1 ≤ W.heap.size
  b0 : Blk W w.heap.size 24 #[.int .i64 t.op, .int .i64 t.vr, .string t.nm, .slice A t.ks.length c]
  b1 : Blk W (w.heap.size + 1) 24 #[.int .i64 x.op, .int .i64 x.vr, .string x.nm, .slice B x.ks.length d]
  b2 : Blk W (w.heap.size + 1 + 1) 24 #[.int .i64 0, .int .i64 0, .string ⟨#[]⟩, .slice none 0 0]
theorem putW (bl : Nat) (t x : Ex) (A B : Option Addr) (c d : Nat) (w : World) : PutW bl t x A B c d w (((w.alloc (.cells #[.int .i64 t.op, .int .i64 t.vr, .string t.nm, .slice A t.ks.length c] 24)).alloc (.cells #[.int .i64 x.op, .int .i64 x.vr, .string x.nm, .slice B x.ks.length d] 24)).alloc (.cells #[.int .i64 0, .int .i64 0, .string ⟨#[]⟩, .slice none 0 0] 24)) := by
  have blk : ∀ (w : World) (g : Nat) (ty : TypeId) (cs : Array Value), w.heap.size = g → Blk (w.alloc (.cells cs ty)) g ty cs := fun w g ty cs e => by rw [← e]; exact Blk.new w ty cs
  exact ⟨Lf.below (al (al (al (Below.refl _ _) _) _) _), by simp, ((blk _ _ _ _ rfl).alloc _).alloc _, (blk _ _ _ _ (by simp)).alloc _, blk _ _ _ _ (by simp)⟩
set_option maxRecDepth 100000 in
set_option maxHeartbeats 4000000 in
/-- put at the name itself. -/
theorem pr_put_name (t x : Ex) (m : ByteArray) (hq : (t.nm.toList == m.toList) = true) (ho : t.op = 3) (bl : Nat) (k : Int) (Q : Nat → Prop) (A B : Option Addr) (c d : Nat) (w : World) (hx : x.sz ≤ 100000000) (hbl : Blk w bl 3 #[.int .i64 k]) (hRx : RepS Q w B x) (hQ : ∀ y, Q y → y < w.heap.size ∧ y ≠ bl) :
    Calls Try.prog 54 #[exV t A c, .string m, exV x B d, .pointer (some ⟨bl, 0, none⟩)] w (PutP bl x Q w) := by
  obtain ⟨W, hW⟩ : ∃ W, ((w.alloc (.cells #[.int .i64 t.op, .int .i64 t.vr, .string t.nm, .slice A t.ks.length c] 24)).alloc (.cells #[.int .i64 x.op, .int .i64 x.vr, .string x.nm, .slice B x.ks.length d] 24)).alloc (.cells #[.int .i64 0, .int .i64 0, .string ⟨#[]⟩, .slice none 0 0] 24) = W := ⟨_, rfl⟩
  have hJ := putW bl t x A B c d w
  rw [hW] at hJ
  have hbw : bl < w.heap.size := hbl.lt
  have HD : Hid (Calls Try.prog 78 #[.pointer (some ⟨w.heap.size + 1, 0, none⟩), .pointer (some ⟨bl, 0, none⟩)] W (DetP (w.heap.size + 1) (0 + 3) bl x (fun y => (¬ Q y ∧ y < w.heap.size) ∨ y = w.heap.size ∨ y = w.heap.size + 1 + 1) W)) := Lib.hid (by
    have hz := hJ.hz
    refine pr_detach x.sz x (Nat.le_refl _) hx (w.heap.size + 1) 0 bl B d k _ W (hJ.b1.cell 3) (hJ.b1.frozen 3) hJ.b1.lt (by omega) (hJ.hb.block bl hbw |> fun _ => ?_) ((hJ.hb.rep hRx hQ).mono (fun y hy => ?_)) (fun y hy => ?_)
    · have hal : Below w.heap.size w W := by rw [← hW]; exact al (al (al (Below.refl _ _) _) _) _
      exact hbl.below hal hbw
    · obtain ⟨h1, h2⟩ := hQ y hy
      refine ⟨fun h => ?_, by omega, h2, by omega⟩
      rcases h with h | h | h
      · exact h.1 hy
      · omega
      · omega
    · rcases hy with h | h | h <;> omega)
  have HJ := Lib.hid hJ
  have p0 : W.cell? ⟨w.heap.size, 0, none⟩ = some (.int .i64 t.op) := hJ.b0.cell 0
  have p2 : W.cell? ⟨w.heap.size, 2, none⟩ = some (.string t.nm) := hJ.b0.cell 2
  have pl := hJ.b0.lt
  have HWW := Lib.hid hW
  have HBL := Lib.hid hbw
  rw [ho] at p0
  show Calls Try.prog 54 #[.agg #[.int .i64 t.op, .int .i64 t.vr, .string t.nm, .slice A t.ks.length c], .string m, .agg #[.int .i64 x.op, .int .i64 x.vr, .string x.nm, .slice B x.ks.length d], .pointer (some ⟨bl, 0, none⟩)] w _
  clear hJ hW hbl hRx hbw hx ho
  go_enter Try.func54, Try.ntmps54
  go_upto_region 1 with (go_at_call 999)
  rw [HWW.out]
  go_wp2_with (go_at_call 78; (with_reducible refine HD.out.mono ?_); rintro e w1 hdp; have hrt := hdp.1; subst hrt; obtain ⟨_, A4, c4, k4, s3, hB4, hR4, hF4⟩ := hdp; have s0 := (hF4.cell 0 (by omega)).trans (HJ.out.b1.cell 0); have s1 := (hF4.cell 1 (by omega)).trans (HJ.out.b1.cell 1); have s2 := (hF4.cell 2 (by omega)).trans (HJ.out.b1.cell 2); have r0 := (hF4.block (w.heap.size + 1 + 1) (by have := HJ.out.hz; omega) (by omega) (by have := HBL.out; omega)).trans HJ.out.b2; have r4 : Blk w1 (w.heap.size + 1 + 1) 24 #[.int .i64 0, .int .i64 0, .string ⟨#[]⟩, .slice none 0 0] := r0; have v0 := r4.cell 0; have v1 := r4.cell 1; have v2 := r4.cell 2; have v3 := r4.cell 3; have u0 := r4.frozen 0; have u1 := r4.frozen 1; have u2 := r4.frozen 2; have u3 := r4.frozen 3; have ul := r4.lt; have hl1 : w.heap.size + 1 < w1.heap.size := (by omega); have G4 := Lib.hid r4; have HB4 := Lib.hid hB4; have HR4 := Lib.hid hR4; have HF4 := Lib.hid hF4; clear hB4 hR4 hF4 r0 r4)
  have hz1 := HF4.out.size
  have hjz := HJ.out.hz
  have hb1 := HBL.out
  refine bodyPost_ret (res_ex rfl _ _ (w.heap.size + 1 + 1) _ _ _ _ rfl ((((G4.out.set_ 0 _).set_ 1 _).set_ 2 _).set_ 3 _)) rfl ⟨A4, c4, k4, rfl, (set4_blk _ _ _ _ _ (by omega)).trans HB4.out, (HR4.out.kept (fun y hy => set4_blk _ _ _ _ _ (fun e => hy.1 (.inr (.inr e))))).mono (fun y hy => ⟨?_, by rw [set4_size]; exact hy.2.2.2, hy.2.2.1⟩), ((((HF4.out.lf HJ.out.hb (by omega)).set (by omega) 0 _).set (by omega) 1 _).set (by omega) 2 _).set (by omega) 3 _⟩
  rcases Nat.lt_or_ge y w.heap.size with g | g
  · exact .inl (Classical.byContradiction (fun h => hy.1 (.inl ⟨h, g⟩)))
  · exact .inr g
end Go.Proofs.Ytcdpjodnbegepaa
