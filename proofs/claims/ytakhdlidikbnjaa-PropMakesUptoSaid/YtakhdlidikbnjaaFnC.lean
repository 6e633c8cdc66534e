/- The value of an expression; contracts of value's closure, of layer 6 (prop). -/
import Derived.Test.YtakhdlidikbnjaaFn2
namespace Go.Proofs.Ytakhdlidikbnjaa
open Go.RowKit

/-- The slice at A reads as the booleans l, below block B. -/
def RB (w : World) (B : Nat) (A : Option Addr) (l : List Bool) : Prop :=
  0 < l.length → ∃ b off, A = some ⟨b, off, none⟩ ∧ b < B ∧ ∀ i, i < l.length → w.cell? ⟨b, off + i, none⟩ = some (.bool (l.getD i false))
section
variable {w w' : World} {B B' : Nat} {A : Option Addr} {l : List Bool}
theorem RB.below (h : RB w B A l) (hb : Below B w w') : RB w' B A l := fun hl => by
  obtain ⟨b, off, e, hB, hc⟩ := h hl
  exact ⟨b, off, e, hB, fun i hi => (hb.cell (p := ⟨b, off + i, none⟩) hB).trans (hc i hi)⟩
theorem RB.more (h : RB w B A l) (hB : B ≤ B') : RB w B' A l := fun hl => by
  obtain ⟨b, off, e, hB, hc⟩ := h hl
  exact ⟨b, off, e, by omega, hc⟩
theorem RB.step (h : RB w w.heap.size A l) (hb : Below w.heap.size w w') : RB w' w'.heap.size A l := (h.below hb).more hb.size
theorem RB.nil : RB w B A [] := fun h => absurd h (by simp)
end
/-- The value of an operator from its variable and its Kids' values. -/
def valO (o v : Int) (bs : List Bool) (l : List Bool) : Bool :=
  if o = 1 then true else if o = 3 then decide (v < (l.length : Int)) && l.getD v.toNat false
  else if o = 4 then !(bs.getD 0 false) else if o = 5 then decide (bs.countP id = bs.length) else if o = 6 then decide (0 < bs.countP id)
  else if o = 7 then decide (bs.countP id % 2 = 1) else if o = 8 then !(bs.getD 0 false) || bs.getD 1 false
  else if o = 9 then bs.getD 0 false == bs.getD 1 false else if o = 10 then (if bs.getD 0 false then bs.getD 1 false else bs.getD 2 false) else false
mutual
def val (l : List Bool) : Ex → Bool | .mk o v ks => valO o v (valL l ks) l
def valL (l : List Bool) : List Ex → List Bool
  | [] => []
  | t :: r => val l t :: valL l r
end
theorem val_eq (l : List Bool) (t : Ex) : val l t = valO t.op t.vr (valL l t.ks) l := by cases t; rfl
theorem valL_map (l : List Bool) : ∀ ks, valL l ks = ks.map (val l)
  | [] => rfl
  | t :: r => by show val l t :: valL l r = _; rw [valL_map l r]; rfl
theorem valL_at (l : List Bool) {ks : List Ex} {i : Nat} (h : i < ks.length) : (valL l ks).getD i false = val l (kd ks i) := by
  rw [valL_map]; unfold kd; simp [List.getD, h]
theorem valL_len (l : List Bool) (ks : List Ex) : (valL l ks).length = ks.length := by rw [valL_map]; simp
mutual
/-- As many Kids as the operators want, all the way down, and no variable below 0. -/
def okT : Ex → Prop | .mk o v ks => kidL o ≤ (ks.length : Int) ∧ 0 ≤ v ∧ okL ks
def okL : List Ex → Prop
  | [] => True
  | t :: r => okT t ∧ okL r
end
theorem okL_mem : ∀ {l : List Ex} {i : Nat}, okL l → i < l.length → okT (kd l i)
  | t :: r, 0, h, _ => h.1
  | t :: r, i + 1, h, hi => okL_mem (l := r) (i := i) h.2 (by simpa using hi)
theorem okT_eq (t : Ex) : okT t ↔ kidL t.op ≤ (t.ks.length : Int) ∧ 0 ≤ t.vr ∧ okL t.ks := by cases t; exact Iff.rfl
mutual
theorem ok_chk : ∀ (t : Ex) (d k : Int), (chk t d k).1 = 0 → okT t
  | .mk o v ks, d, k, h => by
    rw [chk_eq] at h
    by_cases hf : flawS o v ks.length d (wrap64 (k + 1)) = 0
    · have e : (if flawS (Ex.mk o v ks).op (Ex.mk o v ks).vr (Ex.mk o v ks).ks.length d (wrap64 (k + 1)) = 0 then chkL (Ex.mk o v ks).ks (d + 1) (wrap64 (k + 1)) else (flawS (Ex.mk o v ks).op (Ex.mk o v ks).vr (Ex.mk o v ks).ks.length d (wrap64 (k + 1)), wrap64 (k + 1))) = chkL ks (d + 1) (wrap64 (k + 1)) := if_pos hf
      rw [e] at h
      have f := fine_of hf
      refine ⟨by have := f.len1; omega, ?_, okL_chk ks (d + 1) _ h⟩
      rcases f.var with ⟨_, h2, _⟩ | ⟨_, h2⟩ <;> omega
    · have e : (if flawS (Ex.mk o v ks).op (Ex.mk o v ks).vr (Ex.mk o v ks).ks.length d (wrap64 (k + 1)) = 0 then chkL (Ex.mk o v ks).ks (d + 1) (wrap64 (k + 1)) else (flawS (Ex.mk o v ks).op (Ex.mk o v ks).vr (Ex.mk o v ks).ks.length d (wrap64 (k + 1)), wrap64 (k + 1))) = (flawS o v ks.length d (wrap64 (k + 1)), wrap64 (k + 1)) := if_neg hf
      rw [e] at h
      exact absurd h hf
theorem okL_chk : ∀ (l : List Ex) (d k : Int), (chkL l d k).1 = 0 → okL l
  | [], _, _, _ => trivial
  | t :: r, d, k, h => by
    have h2 : (if (chk t d k).1 = 0 then chkL r d (chk t d k).2 else chk t d k).1 = 0 := h
    by_cases hc : (chk t d k).1 = 0
    · rw [if_pos hc] at h2
      exact ⟨ok_chk t d k hc, okL_chk r d _ h2⟩
    · rw [if_neg hc] at h2
      exact absurd h2 hc
end
def ValP (w : World) (b : Bool) (e : Ending) (w' : World) : Prop := e = .returned (.bool b) ∧ Below w.heap.size w w'
set_option maxHeartbeats 1000000 in
theorem pr_kid (t : Ex) (A : Option Addr) (c : Nat) (L : Option Addr) (cl : Nat) (l : List Bool) (h1 h2 i : Nat) (b : Bool) (w : World) (hi : i < t.ks.length) (hkb : t.ks.length ≤ 1000000000)
    (b1 : Blk w h1 24 (exC t A c)) (b2 : Blk w h2 42 #[.slice L l.length cl]) (hR : Rep w.heap.size w A t) (hL : RB w w.heap.size L l)
    (hv : ∀ A c w, Rep w.heap.size w A (kd t.ks i) → RB w w.heap.size L l → Calls Try.prog 39 #[exV (kd t.ks i) A c, .slice L l.length cl] w (ValP w b)) :
    Calls Try.prog 50 #[.int .i64 (i : Int), .pointer (some ⟨h1, 0, none⟩), .pointer (some ⟨h2, 0, none⟩)] w (ValP w b) := by
  obtain ⟨bb, f0, rfl, hbl, hc⟩ := hR.out (by omega)
  obtain ⟨ka, kc, d0, d1, d2, hRk⟩ := hc i hi
  have HC := Lib.hid (hv ka kc w.drew (hRk.step (Below.refl _ _).drew) (hL.step (Below.refl _ _).drew))
  have q2 : w.cell? ⟨h1, 2, none⟩ = some (.slice (some ⟨bb, f0, none⟩) t.ks.length c) := b1.cell 2
  have r0 : w.cell? ⟨h2, 0, none⟩ = some (.slice L l.length cl) := b2.cell 0
  have g1 : (i : Int) < (t.ks.length : Int) := by omega
  have g2 : (0 : Int) ≤ (i : Int) := by omega
  clear hc hRk hL hv b1 b2 hR
  generalize kd t.ks i = u at *
  go_enter Try.func50, Try.ntmps50
  go_wp2_with fail
  go_still_tail 6, (by kernel_rfl)
  go_wp2_with (go_at_call 39; (with_reducible refine HC.out.mono ?_); rintro e w3 ⟨rfl, hb3⟩)
  go_ret
  exact ⟨rfl, (Below.refl _ _).drew.trans (hb3.mono (by simp))⟩
end Go.Proofs.Ytakhdlidikbnjaa
