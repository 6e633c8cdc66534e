/- The law's comparison, what each row asks of a table; layer 10 (uniq). -/
import Derived.Test.YtmnolldomipgiaaFnC
namespace Go.Proofs.Ytmnolldomipgiaa
open Go.RowKit Go.Shelf Go.Maps

theorem below_drewM {B : Nat} {a w : World} (h : Below B a w) (n : Nat) : Below B a (w.drewN n) := ⟨h.os, h.tape, h.output, h.size, h.block⟩
set_option maxHeartbeats 4000000 in
theorem l_same {w : World} {A B : Option Addr} {c d : Nat} {L : List En} (hA : RowE w.heap.size w A L) (hB : RowE w.heap.size w B L) (hl : L.length ≤ 1000000) : Calls Try.prog 14 #[.slice A L.length c, .slice B L.length d] w fun en w' => en = .returned (.bool true) ∧ Below w.heap.size w w' := by
  have HT := Lib.hid hA
  have HU := Lib.hid hB
  have g1 : ((L.length : Int) != (L.length : Int)) = false := by simp
  clear hA hB
  go_enter Try.func14, Try.ntmps14
  go_wp2
  go_loopw [13] (fun i wr => ∃ k : Nat, k ≤ L.length ∧ i = .int .i64 (k : Int) ∧ Hid (Below w.heap.size w wr)) (fun i _ => L.length - (intOf i).toNat)
  case atStart => exact ⟨0, Nat.zero_le _, rfl, Lib.hid (Below.refl _ _)⟩
  case round =>
    obtain ⟨k, hk, rfl, HB⟩ := hrel
    by_cases hlt : k < L.length
    · have l1 : (k : Int) < (L.length : Int) := by omega
      have l0 : (0 : Int) ≤ (k : Int) := by omega
      obtain ⟨b1, f1, rfl, hb1, hc1⟩ := HT.out (by omega)
      obtain ⟨b2, f2, rfl, hb2, hc2⟩ := HU.out (by omega)
      obtain ⟨n0, n1, n2⟩ := hc1 k hlt
      obtain ⟨m0, m1, m2⟩ := hc2 k hlt
      have y0 := (HB.out.cell (p := ⟨b1, f1 + k * 3, none⟩) hb1).trans n0
      have y1 := (HB.out.cell (p := ⟨b1, f1 + k * 3 + 1, none⟩) hb1).trans n1
      have y2 := (HB.out.cell (p := ⟨b1, f1 + k * 3 + 2, none⟩) hb1).trans n2
      have z0 := (HB.out.cell (p := ⟨b2, f2 + k * 3, none⟩) hb2).trans m0
      have z1 := (HB.out.cell (p := ⟨b2, f2 + k * 3 + 1, none⟩) hb2).trans m1
      have z2 := (HB.out.cell (p := ⟨b2, f2 + k * 3 + 2, none⟩) hb2).trans m2
      clear hc1 hc2 n0 n1 n2 m0 m1 m2
      generalize ea L k = x at *
      obtain ⟨x0, x1, x2⟩ := x
      dsimp only at y0 y1 y2 z0 z1 z2
      go_wp2
      go_big_quiet (fail)
      go_wp2
      go_roundw
      case rel => exact ⟨k + 1, by omega, by go_num, Lib.hid (by first | exact below_drewM HB.out _ | exact HB.out.drew | exact HB.out)⟩
      case measure => simp [intOf]; try omega
    · have l1 : ¬ (k : Int) < (L.length : Int) := by omega
      obtain rfl : k = L.length := by omega
      go_wp2
      go_ret
      exact ⟨rfl, HB.out⟩
/-- A table of the call's own, from block Z on. -/
structure Own10 (Z : Nat) (w0 w : World) (T b n : Nat) (M : List En) : Prop where
  t : Tb w T b n M
  bel : Below Z w0 w
  hb : Z ≤ b
  hZ : Z ≤ w.heap.size
theorem Own10.below {Z : Nat} {w0 w w' : World} {T b n : Nat} {M : List En} (h : Own10 Z w0 w T b n M) (hb : Below w.heap.size w w') : Own10 Z w0 w' T b n M :=
  ⟨h.t.below hb, h.bel.trans (hb.mono h.hZ), h.hb, Nat.le_trans h.hZ hb.size⟩
theorem Own10.step {Z : Nat} {w0 w w' : World} {T b n n' : Nat} {M M' : List En} (h : Own10 Z w0 w T b n M) (ht : Tb w' T b n' M') (hg : w.grownBy w' (some b)) : Own10 Z w0 w' T b n' M' :=
  ⟨ht, h.bel.grown hg h.hZ (fun k e => by injection e with e; subst e; exact h.hb), h.hb, Nat.le_trans h.hZ hg.size⟩
theorem p_New (w : World) : Calls Try.prog 6 #[] w fun e w' => ∃ T b, e = .returned (.pointer (some ⟨T, 0, none⟩)) ∧ Own10 w.heap.size w w' T b 0 [] :=
  (e_New w).mono (fun _e _w' ⟨h1, h2, h3⟩ => ⟨_, _, h1, h2, h3, Nat.le_refl _, h3.size⟩)
section
variable {Z : Nat} {w0 w : World} {T b n : Nat} {M : List En}
theorem p_Len (h : Own10 Z w0 w T b n M) : Calls Try.prog 12 #[.pointer (some ⟨T, 0, none⟩)] w fun e w' => e = .returned (.int .i64 M.length) ∧ w = w' := e_Len h.t
theorem p_Find (h : Own10 Z w0 w T b n M) {lo hi : Int} (h1 : In64 lo) (h2 : In64 hi) : Calls Try.prog 11 #[.pointer (some ⟨T, 0, none⟩), .int .i64 lo, .int .i64 hi] w fun e w' => e = .returned (.tuple #[.int .i64 ((lookE M lo hi).getD 0), .bool (lookE M lo hi).isSome]) ∧ w = w' := e_Find h.t h1 h2
theorem p_Put (h : Own10 Z w0 w T b n M) {lo hi id : Int} (hx : (⟨lo, hi, id⟩ : En).ok) (hno : lookE M lo hi = none) (hn : n ≤ 1000000) :
    Calls Try.prog 15 #[.pointer (some ⟨T, 0, none⟩), .int .i64 lo, .int .i64 hi, .int .i64 id] w fun e w' => e = .returned (.int .i64 0) ∧ Own10 Z w0 w' T b (n + 1) (insE M ⟨lo, hi, id⟩) := by
  have hni : (⟨lo, hi, id⟩ : En) ∉ M := fun hm => by
    rw [look_idx] at hno
    have hi' : idxE M lo hi = none := by
      cases q : idxE M lo hi with
      | none => rfl
      | some k => rw [q] at hno; cases hno
    have := idxE_none hi' _ hm
    simp [keyB] at this
  exact (e_Put h.t hx hno (by unfold maxLen; omega) (mem_insE hni) (len_insE hni)).mono (fun e w' ⟨h1, h2, h3⟩ => ⟨h1, h.step h2 h3⟩)
theorem p_Put_no (h : Own10 Z w0 w T b n M) {lo hi id : Int} (h1 : In64 lo) (h2 : In64 hi) (hs : (lookE M lo hi).isSome = true) : Calls Try.prog 15 #[.pointer (some ⟨T, 0, none⟩), .int .i64 lo, .int .i64 hi, .int .i64 id] w fun e w' => e = .returned (.int .i64 6) ∧ w = w' := e_Put_no h.t h1 h2 hs
end
end Go.Proofs.Ytmnolldomipgiaa
