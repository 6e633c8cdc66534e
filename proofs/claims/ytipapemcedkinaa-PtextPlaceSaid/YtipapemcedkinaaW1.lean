/- write of layer 7 (ptext), walked. -/
import Derived.Test.YtipapemcedkinaaSc
import Derived.Test.YtipapemcedkinaaT1
import Derived.Test.YtipapemcedkinaaN3
namespace Go.Proofs.Ytipapemcedkinaa
open Go.RowKit Go.PlainAid

theorem Keep.refl (w : World) : Keep w w := fun _ _ _ _ h _ _ => h
theorem Keep.trans {a b c : World} (h : Keep a b) (h2 : Keep b c) : Keep a c := fun k cs t fr hk h5 h6 => h2 k cs t fr (h k cs t fr hk h5 h6) h5 h6
theorem Keep.alloc {a b : World} (h : Keep a b) (o : Obj) : Keep a (b.alloc o) := fun k cs t fr hk h5 h6 => by
  have h1 := h k cs t fr hk h5 h6
  exact ((balw b o).block k (Array.getElem?_eq_some_iff.1 h1).1).trans h1
theorem Blk.keep {w w' : World} {g : Nat} {cs : Array Value} (h : Blk w g 25 cs) (hk : Keep w w') : Blk w' g 25 cs := hk g cs 25 (0, 0) h (by decide) (by decide)
/-- The builder's bytes are L now. -/
def WrP (B b : Nat) (L : List Int) (w : World) (v : Value) (e : Ending) (w' : World) : Prop := e = .returned v ∧ Bd B b (sC L) w' ∧ Below B w w' ∧ Keep w w' ∧ w.heap.size ≤ w'.heap.size
theorem b_str {B b : Nat} {L M : List Int} {s : ByteArray} {w : World} (h : Bd B b (sC L) w) (hs : s = strOfNums M) (hlen : L.length + M.length ≤ 1000000000) (hB : B ≤ w.heap.size) :
    Calls Try.prog 34 #[.pointer (some ⟨b, 0, none⟩), .string s] w (WrP B b (L ++ M) w (.tuple #[.int .i64 s.size, .nilIface])) := by
  subst hs
  refine (b_Write B b (sC L) (strOfNums M) w h (by rw [sC_len, strOfNums_size]; exact hlen) hB).mono ?_
  rintro e w' ⟨h1, h2, h3, h4⟩
  exact ⟨h1, by rw [sC_app]; exact h2, h3, h4, h3.size⟩
theorem b_chr {B b : Nat} {L : List Int} {x : Int} {w : World} (h : Bd B b (sC L) w) (h0 : 0 ≤ x) (h1 : x ≤ 255) (hlen : L.length ≤ 1000000000) (hB : B ≤ w.heap.size) :
    Calls Try.prog 36 #[.pointer (some ⟨b, 0, none⟩), .int .u8 x] w (WrP B b (L ++ [x]) w .nilIface) := by
  refine (b_Byte B b (sC L) x w h (by rw [sC_len]; exact hlen) hB).mono ?_
  rintro e w' ⟨h2, h3, h4, h5⟩
  exact ⟨h2, by rw [sC_app, sC_one h0 h1]; exact h3, h4, h5, h4.size⟩
theorem sgn_bt {m : Nat} (hm : m < 7) : Go.PlainAid.bt ⟨#[33, 38, 124, 94, 62, 61, 63]⟩ m = sgn (4 + (m : Int)) := by
  have : m = 0 ∨ m = 1 ∨ m = 2 ∨ m = 3 ∨ m = 4 ∨ m = 5 ∨ m = 6 := by omega
  rcases this with rfl | rfl | rfl | rfl | rfl | rfl | rfl <;> rfl
theorem sgn_in (o : Int) : 0 ≤ sgn o ∧ sgn o ≤ 255 := by unfold sgn; (repeat' split) <;> simp
/-- The parameter's box, made at the start. -/
structure EntW (B b : Nat) (L : List Int) (t : Ex) (A : Option Addr) (c : Nat) (w W : World) : Prop where
  bd : Bd B b (sC L) W
  bx : Blk W w.heap.size 25 (exC t A c)
  be : Below B w W
  kp : Keep w W
  hB : B ≤ W.heap.size
theorem EntW.mk' {B b : Nat} {L : List Int} {t : Ex} {A : Option Addr} {c : Nat} {w : World} (h : Bd B b (sC L) w) (hB : B ≤ w.heap.size) : EntW B b L t A c w (w.alloc (.cells (exC t A c) 25)) :=
  ⟨h.below (balw _ _), Blk.new _ _ _, (balw _ _).mono hB, (Keep.refl w).alloc _, by simp; omega⟩
theorem EntW.done {B b : Nat} {L M : List Int} {t : Ex} {A : Option Addr} {c : Nat} {w W w2 : World} (h : EntW B b L t A c w W) (h1 : Bd B b (sC M) w2) (h2 : Below B W w2) (h3 : Keep W w2) : WrP B b M w (.tuple #[]) (.returned (.tuple #[])) w2 :=
  ⟨rfl, h1, h.be.trans h2, h.kp.trans h3, (h.be.trans h2).size⟩
set_option maxRecDepth 100000 in
set_option maxHeartbeats 2000000 in
theorem p_write_leaf (B b : Nat) (t : Ex) (L : List Int) (A : Option Addr) (c : Nat) (w : World) (hs : shp t) (hL : L.length ≤ 100000000) (hd : Bd B b (sC L) w) (hB : B ≤ w.heap.size) (ho : t.op = 1 ∨ t.op = 2 ∨ t.op = 3) :
    Calls Try.prog 19 #[.pointer (some ⟨b, 0, none⟩), exV t A c] w (WrP B b (L ++ txt t) w (.tuple #[])) := by
  have hen := EntW.mk' (t := t) (A := A) (c := c) hd hB
  have HX := Lib.hid (txt_eq t)
  have hv := ((shp_eq t).1 hs).1.2.1
  obtain ⟨W0, hW0⟩ : ∃ W, w.alloc (.cells (exC t A c) 25) = W := ⟨_, rfl⟩
  rw [hW0] at hen
  have HEN := Lib.hid hen
  have hW1 : w.alloc (.cells #[.int .i64 t.op, .int .i64 t.vr, .slice A t.ks.length c] 25) = W0 := hW0
  have y0 := hen.bx.cell 0
  have y1 := hen.bx.cell 1
  rcases ho with ho | ho | ho
  · have HW := Lib.hid (b_str (M := [116, 114, 117, 101]) (s := ⟨#[116, 114, 117, 101]⟩) hen.bd rfl (by simp; omega) hen.hB)
    have e1 : (t.op == 1) = true := by simp [ho]
    have HT : Hid (txt t = [116, 114, 117, 101]) := Lib.hid (by rw [HX.out, if_pos ho])
    clear hen hW0 ho hv hs
    go_enter Try.func19, Try.ntmps19
    go_wp2_with (go_at_call 34; (refine HW.out.mono ?_); rintro e w2 ⟨rfl, h1, h2, h3, h4⟩)
    go_end0
    rw [HT.out]
    exact HEN.out.done h1 h2 h3
  · have HW := Lib.hid (b_str (M := [102, 97, 108, 115, 101]) (s := ⟨#[102, 97, 108, 115, 101]⟩) hen.bd rfl (by simp; omega) hen.hB)
    have e1 : (t.op == 1) = false := by simp [ho]
    have e2 : (t.op == 2) = true := by simp [ho]
    have HT : Hid (txt t = [102, 97, 108, 115, 101]) := Lib.hid (by rw [HX.out, if_neg (by omega), if_pos ho])
    clear hen hW0 ho hv hs
    go_enter Try.func19, Try.ntmps19
    go_wp2_with (go_at_call 34; (refine HW.out.mono ?_); rintro e w2 ⟨rfl, h1, h2, h3, h4⟩)
    go_end0
    rw [HT.out]
    exact HEN.out.done h1 h2 h3
  · have hvm : t.vr ≤ 63 := by have := hv.2; unfold varM at this; rw [if_pos ho] at this; exact this
    have hv0 := hv.1
    have e1 : (t.op == 1) = false := by simp [ho]
    have e2 : (t.op == 2) = false := by simp [ho]
    have e3 : (t.op == 3) = true := by simp [ho]
    have hlen := text_short hv0 hvm
    have HN := Lib.hid (num_Text t.vr W0 (by omega) (by omega))
    have HT : Hid (txt t = 118 :: textF t.vr) := Lib.hid (by rw [HX.out, if_neg (by omega), if_neg (by omega), if_pos ho])
    have HCT : ∀ W : World, (Op.stringOp .add ⟨#[118]⟩ (strOfNums (textF t.vr))).run Try.prog W = .ok (.string (strOfNums (118 :: textF t.vr))) W := fun W => by
      have h := run_string_add_sum (P := Try.prog) (w := W) ⟨#[118]⟩ (strOfNums (textF t.vr)) (by rw [strOfNums_size]; show 1 + _ ≤ _; omega)
      rw [show (⟨#[118]⟩ : ByteArray) = strOfNums [118] from rfl, str_app] at h
      exact h
    have HW := Lib.hid (fun W2 (h : Below W0.heap.size W0 W2) => b_str (w := W2) (M := 118 :: textF t.vr) (s := strOfNums (118 :: textF t.vr)) (hen.bd.below h) rfl (by simp; omega) (by have := hen.hB; have := h.size; omega))
    have HBW := Lib.hid (fun W2 (h : Below W0.heap.size W0 W2) => (⟨h.mono hen.hB, fun k cs tt fr hk _ _ => (h.block k (Array.getElem?_eq_some_iff.1 hk).1).trans hk⟩ : Below B W0 W2 ∧ Keep W0 W2))
    clear hen hW0 ho hv hs hlen
    generalize textF t.vr = X at *
    go_enter Try.func19, Try.ntmps19
    go_wp2_with (first
      | (go_at_call 34; (refine (HW.out _ HB2.out).mono ?_); rintro e w3 ⟨rfl, h1, h2, h3, h4⟩)
      | (go_at_call 35; (refine HN.out.mono ?_); rintro e w2 ⟨rfl, hb2⟩; have HB2 := Lib.hid hb2; clear hb2))
    go_end0
    rw [HT.out]
    exact HEN.out.done h1 ((HBW.out _ HB2.out).1.trans h2) ((HBW.out _ HB2.out).2.trans h3)
end Go.Proofs.Ytipapemcedkinaa
