/- The parser of layer 7 (ptext): expr, whole. -/
import Derived.Test.YtipapemcedkinaaP6
import Derived.Deep.LoopGhost
namespace Go.Proofs.Ytipapemcedkinaa
open Go.RowKit Go.PlainAid

/-- A way that ends within a region: what is left to go_region_law is nothing. -/
theorem shut_arm {p : Prop} (h : p) (_ : wpAny Try.prog default #[] (fun _ _ _ => True) 0 #[] { tmps := #[], defers := [] } default) : p := h
/-- The loop's state: the node's box at G, its row of Kids. -/
structure LS (pb : Nat) (s : ByteArray) (G : Nat) (o : Int) (W0 : World) (k : Nat) (ts : List Ex) (wr : World) : Prop where
  fr : Frm (fun b => b = pb ∨ b = G) W0 wr
  lo : G < W0.heap.size
  lp : pb < W0.heap.size
  ne : G ≠ pb
  ps : Ps pb s k wr
  row : ∃ v, Blk wr G 25 #[.int .i64 o, .int .i64 0, v] ∧ RowE wr W0.heap.size v ts
theorem frm_at {pb G : Nat} {a b : World} (h : Frm (At pb) a b) : Frm (fun b => b = pb ∨ b = G) a b := h.mono (fun _ hk => .inl hk)
theorem ls_step {pb G k a : Nat} {s : ByteArray} {o : Int} {W0 wr wx w1 w8 : World} {ts : List Ex} {v v8 : Value} {ka : Nat → Option Addr} {kc : Nat → Nat} {t : Ex} {A : Option Addr} {c : Nat} (h : LS pb s G o W0 k ts wr) (hb : Blk wr G 25 #[.int .i64 o, .int .i64 0, v])
    (ho : wr.ownsRow W0.heap.size 25 3 v ts.length (csOf ts ka kc)) (hk : ∀ i, i < ts.length → RepS (fun x => (W0.heap.size ≤ x ∧ x < wr.heap.size) ∧ v.ownBlock ≠ some x) wr (ka i) (kd ts i))
    (hx : Frm (At pb) wr wx) (h1 : Frm (At pb) wx w1) (hp : Ps pb s a w1) (hT : RepS (fun x => wx.heap.size ≤ x ∧ x < w1.heap.size) w1 A t)
    (hg : (w1.alloc (.cells (exC t A c) 25)).grownBy w8 v.ownBlock) (ho8 : w8.ownsRow W0.heap.size 25 3 v8 (ts.length + 1) (csOf ts ka kc ++ (exC t A c).toList))
    (hat : ∀ y, v8.ownBlock = some y → v.ownBlock = some y ∨ y = (w1.alloc (.cells (exC t A c) 25)).heap.size) :
    Blk w8 G 25 #[.int .i64 o, .int .i64 0, v] ∧ LS pb s G o W0 a (ts ++ [t]) (w8.setCell ⟨G, 2, none⟩ v8) := by
  obtain ⟨W, hW⟩ : ∃ W, w1.alloc (.cells (exC t A c) 25) = W := ⟨_, rfl⟩
  have h1W : Below w1.heap.size w1 W := by rw [← hW]; exact balw _ _
  have hWz : W.heap.size = w1.heap.size + 1 := by rw [← hW]; simp
  rw [hW] at hg hat
  have hlo := h.lo
  have hlp := h.lp
  have hne := h.ne
  have hK := h.fr.size
  have hxs := hx.size
  have h1s := h1.size
  have hgs := hg.size
  have hown : ∀ y, v.ownBlock = some y → W0.heap.size ≤ y ∧ y < wr.heap.size := fun y hy => ho.lt y hy
  have hfW : Frm (At pb) wr W := hx.trans (h1.trans (Frm.of_below h1W))
  have b8 : Blk w8 G 25 #[.int .i64 o, .int .i64 0, v] := (hg.block G (by omega) (fun e => by have := hown G e.symm; omega)).trans (hb.frm hfW hne)
  have p8 : Ps pb s a w8 := (hg.block pb (by omega) (fun e => by have := hown pb e.symm; omega)).trans (Blk.below hp h1W hp.lt)
  have r8 : RowE w8 W0.heap.size v8 (ts ++ [t]) := by
    refine RowE.push (w := wr) (W := W) ho hk (fun x h0 h2 => hfW.block x h2 (by show ¬ x = pb; omega)) (by omega) ?_ hg ho8 hat
    refine (hT.kept (fun x hx2 => h1W.block x hx2.2)).mono (fun x hx2 => ⟨⟨by omega, by omega⟩, fun e => ?_⟩)
    have := hown x e
    omega
  have n8 : ∀ y, v8.ownBlock = some y → W0.heap.size ≤ y := fun y hy => (r8.own_lt hy).1
  refine ⟨b8, ⟨?_, hlo, hlp, hne, p8.set_other hne _ _, v8, b8.set_ 2 _, ?_⟩⟩
  · have hf8 : Frm (fun b => b = pb ∨ b = G) W w8 ∨ True := .inr trivial
    have f1 := h.fr.trans (frm_at (G := G) hfW)
    refine ⟨by show (w8.setCell _ _).os = _; rw [← f1.os]; exact hg.os, by show (w8.setCell _ _).tape = _; rw [← f1.tape]; exact hg.tape, by show (w8.setCell _ _).output = _; rw [← f1.output]; exact hg.output, by simp; omega, fun x hx1 hx2 => ?_⟩
    have hxG : ¬ G = x := fun e => hx2 (.inr e.symm)
    simp only [World.setCell, Array.getElem?_modify, hxG, if_false]
    rw [hg.block x (by omega) (fun e => by have := hown x e.symm; omega)]
    exact f1.block x hx1 hx2
  · refine r8.kept (fun x h0 h2 => ?_) (by simp)
    have hxG : ¬ G = x := by omega
    simp only [World.setCell, Array.getElem?_modify, hxG, if_false]
/-- What the node's box holds at the end. -/
theorem ls_done {pb G k : Nat} {s : ByteArray} {o : Int} {W0 wr : World} {ts : List Ex} (h : LS pb s G o W0 k ts wr) : ∃ A c, Blk wr G 25 #[.int .i64 o, .int .i64 0, .slice A ts.length c] ∧ RepS (fun x => W0.heap.size ≤ x ∧ x < wr.heap.size) wr A (.mk o 0 ts) := by
  obtain ⟨v, hb, hr⟩ := h.row
  obtain ⟨A, c, hv⟩ := hr.form
  exact ⟨A, c, by rw [← hv]; exact hb, hr.tree o hv⟩
theorem LS.turn {pb G k j : Nat} {s : ByteArray} {o : Int} {W0 wr w2 : World} {ts : List Ex} (h : LS pb s G o W0 k ts wr) (hf : Frm (At pb) wr w2) (hp : Ps pb s j w2) : LS pb s G o W0 j ts w2 := by
  obtain ⟨v, hb, hr⟩ := h.row
  have hK := h.fr.size
  have hlp := h.lp
  exact ⟨h.fr.trans (frm_at hf), h.lo, h.lp, h.ne, hp, v, hb.frm hf h.ne, hr.kept (fun x h0 h1 => hf.block x h1 (by show ¬ x = pb; omega)) hf.size⟩
theorem frm_out {pb G : Nat} {w W0 wr : World} (h : Frm (At pb) w W0) (h2 : Frm (fun b => b = pb ∨ b = G) W0 wr) (hG : w.heap.size ≤ G) : Frm (At pb) w wr :=
  ⟨h2.os.trans h.os, h2.tape.trans h.tape, h2.output.trans h.output, Nat.le_trans h.size h2.size, fun k hk hs => (h2.block k (Nat.lt_of_lt_of_le hk h.size) (fun e => by
    rcases e with e | e
    · exact hs e
    · omega)).trans (h.block k hk hs)⟩
end Go.Proofs.Ytipapemcedkinaa
