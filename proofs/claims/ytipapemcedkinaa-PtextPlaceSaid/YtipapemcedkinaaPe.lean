/- The specification's parser of layer 7 (ptext): expr, without parentheses. -/
import Derived.Test.YtipapemcedkinaaPd
namespace Go.Proofs.Ytipapemcedkinaa
open Go.RowKit Go.PlainAid

/-- What the specification's expr leaves. -/
def GX (w : World) : XR → Ending → World → Prop
  | .bad a, e, w' => ∃ (o v : Int) (A : Option Addr) (m c : Nat), e = .returned (.agg #[.int .i64 o, .int .i64 v, .slice A m c, .int .i64 (a : Int), .bool false]) ∧ Below w.heap.size w w'
  | .ok t a, e, w' => ∃ (A : Option Addr) (c : Nat), e = .returned (.agg #[.int .i64 t.op, .int .i64 t.vr, .slice A t.ks.length c, .int .i64 (a : Int), .bool true]) ∧ Below w.heap.size w w' ∧ RepS (fun x => w.heap.size ≤ x ∧ x < w'.heap.size) w' A t
/-- The result's box of the specification. -/
structure EntG (w W : World) : Prop where
  bw : Below w.heap.size w W
  bx : Blk W w.heap.size 47 gotZ
  sz : W.heap.size = w.heap.size + 1
theorem EntG.mk' (w : World) : EntG w (w.alloc (.cells gotZ 47)) := ⟨balw _ _, Blk.new _ _ _, by simp⟩
theorem EntG.box {w W w2 : World} (h : EntG w W) (hf : Below W.heap.size W w2) : Blk w2 w.heap.size 47 gotZ := h.bx.below hf (by have := h.sz; omega)
theorem EntG.bad {w W w2 : World} (h : EntG w W) (hf : Below W.heap.size W w2) (o v : Int) (A : Option Addr) (m c a : Nat) :
    GX w (.bad a) (.returned (.agg #[.int .i64 o, .int .i64 v, .slice A m c, .int .i64 (a : Int), .bool false])) (((((w2.setCell ⟨w.heap.size, 0, none⟩ (.int .i64 o)).setCell ⟨w.heap.size, 1, none⟩ (.int .i64 v)).setCell ⟨w.heap.size, 2, none⟩ (.slice A m c)).setCell ⟨w.heap.size, 3, none⟩ (.int .i64 (a : Int))).setCell ⟨w.heap.size, 4, none⟩ (.bool false)) :=
  ⟨o, v, A, m, c, rfl, below5 (h.bw.trans (hf.mono (by have := h.sz; omega))) (Nat.le_refl _) _ _ _ _ _⟩
theorem EntG.leaf {w W w2 : World} (h : EntG w W) (hf : Below W.heap.size W w2) (o v : Int) (a : Nat) :
    GX w (.ok (.mk o v []) a) (.returned (.agg #[.int .i64 o, .int .i64 v, .slice none 0 0, .int .i64 (a : Int), .bool true])) (((((w2.setCell ⟨w.heap.size, 0, none⟩ (.int .i64 o)).setCell ⟨w.heap.size, 1, none⟩ (.int .i64 v)).setCell ⟨w.heap.size, 2, none⟩ (.slice none 0 0)).setCell ⟨w.heap.size, 3, none⟩ (.int .i64 (a : Int))).setCell ⟨w.heap.size, 4, none⟩ (.bool true)) :=
  ⟨none, 0, rfl, below5 (h.bw.trans (hf.mono (by have := h.sz; omega))) (Nat.le_refl _) _ _ _ _ _, .mk _ _ (fun _ => none) (fun _ => 0) (fun q => absurd q (by simp [Ex.ks])) (fun i hi => absurd hi (by simp [Ex.ks]))⟩
/-- word, its bytes as a list. -/
theorem word_is {s wd : ByteArray} {L : List Int} {k : Nat} (hw : intsOf wd = L) (hL : ∀ c ∈ L, c ≠ 0) (hl : L.length ≤ 8) (w : World) (hk : k ≤ s.size) (hs : s.size ≤ 65536) :
    Calls Try.prog 30 #[.string s, .int .i64 (k : Int), .string wd] w fun e w' => e = .returned (.tuple #[.int .i64 ((wordL s L k).1 : Int), .bool (wordL s L k).2]) ∧ Below w.heap.size w w' := by
  have h1 := r_word s wd k w hk hs (by rw [← intsOf_len, hw]; exact hl) (nz_of hw hL)
  rw [hw] at h1
  exact h1.mono fun e w' ⟨h2, m, h3⟩ => ⟨h2, by rw [h3]; exact below_drewN (Below.refl _ _) m⟩
set_option maxRecDepth 100000 in
set_option maxHeartbeats 2000000 in
theorem r_true (s : ByteArray) (k : Nat) (w : World) (hk : k < s.size) (hs : s.size ≤ 65536) (hc : Go.PlainAid.bt s k = 116) :
    Calls Try.prog 17 #[.string s, .int .i64 (k : Int)] w (GX w (ofWord (.mk 1 0 []) (wordL s [116, 114, 117, 101] k))) := by
  have hb := get_bt s
  obtain ⟨W0, hW0⟩ : ∃ W, w.alloc (.cells gotZ 47) = W := ⟨_, rfl⟩
  have he := EntG.mk' w
  rw [hW0] at he
  have HE := Lib.hid he
  have HW := Lib.hid (word_is (s := s) (k := k) true_ints (by simp) (by simp) W0 (by omega) hs)
  generalize wordL s [116, 114, 117, 101] k = R at *
  obtain ⟨a, b⟩ := R
  have g1 : (k : Int) < (s.size : Int) := by omega
  have e1 : (Go.PlainAid.bt s k == 116) = true := by simp [hc]
  clear he hc
  go_enter Try.func17, Try.ntmps17
  go_wp2_with (go_at_call 30; (refine HW.out.mono ?_); rintro e w2 ⟨rfl, hf⟩; have hbx := HE.out.box hf; obtain ⟨z0, ⟨x0, x1, x2, x3, x4⟩, q0, q1, q2, q3, q4⟩ := got_cells hbx; have HBX := Lib.hid hbx; have HF := Lib.hid hf; clear hf hbx)
  refine bodyPost_ret (res_got rfl _ _ w.heap.size _ _ _ _ _ rfl (put5 HBX.out)) rfl ?_
  cases b
  · exact HE.out.bad HF.out 1 0 none 0 0 a
  · exact HE.out.leaf HF.out 1 0 a
set_option maxRecDepth 100000 in
set_option maxHeartbeats 2000000 in
theorem r_false (s : ByteArray) (k : Nat) (w : World) (hk : k < s.size) (hs : s.size ≤ 65536) (hc : Go.PlainAid.bt s k = 102) :
    Calls Try.prog 17 #[.string s, .int .i64 (k : Int)] w (GX w (ofWord (.mk 2 0 []) (wordL s [102, 97, 108, 115, 101] k))) := by
  have hb := get_bt s
  obtain ⟨W0, hW0⟩ : ∃ W, w.alloc (.cells gotZ 47) = W := ⟨_, rfl⟩
  have he := EntG.mk' w
  rw [hW0] at he
  have HE := Lib.hid he
  have HW := Lib.hid (word_is (s := s) (k := k) false_ints (by simp) (by simp) W0 (by omega) hs)
  generalize wordL s [102, 97, 108, 115, 101] k = R at *
  obtain ⟨a, b⟩ := R
  have g1 : (k : Int) < (s.size : Int) := by omega
  have e1 : (Go.PlainAid.bt s k == 116) = false := by simp [hc]
  have e2 : (Go.PlainAid.bt s k == 102) = true := by simp [hc]
  clear he hc
  go_enter Try.func17, Try.ntmps17
  go_wp2_with (go_at_call 30; (refine HW.out.mono ?_); rintro e w2 ⟨rfl, hf⟩; have hbx := HE.out.box hf; obtain ⟨z0, ⟨x0, x1, x2, x3, x4⟩, q0, q1, q2, q3, q4⟩ := got_cells hbx; have HBX := Lib.hid hbx; have HF := Lib.hid hf; clear hf hbx)
  refine bodyPost_ret (res_got rfl _ _ w.heap.size _ _ _ _ _ rfl (put5 HBX.out)) rfl ?_
  cases b
  · exact HE.out.bad HF.out 2 0 none 0 0 a
  · exact HE.out.leaf HF.out 2 0 a
set_option maxRecDepth 100000 in
set_option maxHeartbeats 2000000 in
theorem r_var (s : ByteArray) (k : Nat) (w : World) (hk : k < s.size) (hs : s.size ≤ 65536) (hc : Go.PlainAid.bt s k = 118) :
    Calls Try.prog 17 #[.string s, .int .i64 (k : Int)] w (GX w (ofNum (numR s (k + 1)))) := by
  have hb := get_bt s
  obtain ⟨W0, hW0⟩ : ∃ W, w.alloc (.cells gotZ 47) = W := ⟨_, rfl⟩
  have he := EntG.mk' w
  rw [hW0] at he
  have HE := Lib.hid he
  have HW := Lib.hid (r_named s (k + 1) W0 hk hs)
  rw [show ((k + 1 : Nat) : Int) = (k : Int) + 1 by omega] at HW
  have HX1 : Hid (nlen s (k + 1) = 0 → numR s (k + 1) = .bad (k + 1)) := Lib.hid (fun h => by unfold numR; rw [if_pos h])
  have HX2 : Hid (nlen s (k + 1) ≠ 0 → numR s (k + 1) = .ok (nval s (k + 1) (nlen s (k + 1))) (k + 1 + nlen s (k + 1))) := Lib.hid (fun h => by unfold numR; rw [if_neg h])
  generalize nval s (k + 1) (nlen s (k + 1)) = x at *
  generalize nlen s (k + 1) = n at *
  generalize numR s (k + 1) = R at *
  obtain ⟨a, ha⟩ : ∃ a, k + 1 + n = a := ⟨_, rfl⟩
  rw [ha] at HW HX2
  have HA := Lib.hid ha
  have g1 : (k : Int) < (s.size : Int) := by omega
  have e1 : (Go.PlainAid.bt s k == 116) = false := by simp [hc]
  have e2 : (Go.PlainAid.bt s k == 102) = false := by simp [hc]
  have e3 : (Go.PlainAid.bt s k == 118) = true := by simp [hc]
  clear he hc ha
  by_cases hn : n = 0
  · have HX := Lib.hid (HX1.out hn)
    have HAK : Hid (a = k + 1) := Lib.hid (by have := HA.out; omega)
    have hd : decide (0 < n) = false := by simp [hn]
    rw [hd] at HW
    clear HX1 HX2 hd hn HA
    go_enter Try.func17, Try.ntmps17
    go_wp2_with (go_at_call 31; (refine HW.out.mono ?_); rintro e w2 ⟨rfl, hf⟩; have hbx := HE.out.box hf; obtain ⟨z0, ⟨x0, x1, x2, x3, x4⟩, q0, q1, q2, q3, q4⟩ := got_cells hbx; have HBX := Lib.hid hbx; have HF := Lib.hid hf; clear hf hbx)
    refine bodyPost_ret (res_got rfl _ _ w.heap.size _ _ _ _ _ rfl (put5 HBX.out)) rfl ?_
    rw [HX.out, ← HAK.out]
    exact HE.out.bad HF.out 3 x none 0 0 a
  · have HX := Lib.hid (HX2.out hn)
    have hd : decide (0 < n) = true := by simp; omega
    rw [hd] at HW
    clear HX1 HX2 hd hn HA
    go_enter Try.func17, Try.ntmps17
    go_wp2_with (go_at_call 31; (refine HW.out.mono ?_); rintro e w2 ⟨rfl, hf⟩; have hbx := HE.out.box hf; obtain ⟨z0, ⟨x0, x1, x2, x3, x4⟩, q0, q1, q2, q3, q4⟩ := got_cells hbx; have HBX := Lib.hid hbx; have HF := Lib.hid hf; clear hf hbx)
    refine bodyPost_ret (res_got rfl _ _ w.heap.size _ _ _ _ _ rfl (put5 HBX.out)) rfl ?_
    rw [HX.out]
    exact HE.out.leaf HF.out 3 x a
theorem EntG.bad0 {w W : World} (h : EntG w W) (a : Nat) : GX w (.bad a) (.returned (.agg #[.int .i64 0, .int .i64 0, .slice none 0 0, .int .i64 (a : Int), .bool false])) (((((W.setCell ⟨w.heap.size, 0, none⟩ (.int .i64 0)).setCell ⟨w.heap.size, 1, none⟩ (.int .i64 0)).setCell ⟨w.heap.size, 2, none⟩ (.slice none 0 0)).setCell ⟨w.heap.size, 3, none⟩ (.int .i64 (a : Int))).setCell ⟨w.heap.size, 4, none⟩ (.bool false)) := h.bad (Below.refl _ _) 0 0 none 0 0 a
set_option maxRecDepth 100000 in
set_option maxHeartbeats 2000000 in
theorem r_none (s : ByteArray) (k : Nat) (w : World) (hk : k ≤ s.size) (_hs : s.size ≤ 65536) (h1 : Go.PlainAid.bt s k ≠ 116) (h2 : Go.PlainAid.bt s k ≠ 102) (h3 : Go.PlainAid.bt s k ≠ 118) (h4 : Go.PlainAid.bt s k ≠ 40) :
    Calls Try.prog 17 #[.string s, .int .i64 (k : Int)] w (GX w (.bad k)) := by
  have hb := get_bt s
  obtain ⟨W0, hW0⟩ : ∃ W, w.alloc (.cells gotZ 47) = W := ⟨_, rfl⟩
  have he := EntG.mk' w
  rw [hW0] at he
  have HE := Lib.hid he
  have hbx := HE.out.bx
  obtain ⟨z0, ⟨x0, x1, x2, x3, x4⟩, q0, q1, q2, q3, q4⟩ := got_cells hbx
  have HBX := Lib.hid hbx
  have e1 : (Go.PlainAid.bt s k == 116) = false := by simp [h1]
  have e2 : (Go.PlainAid.bt s k == 102) = false := by simp [h2]
  have e3 : (Go.PlainAid.bt s k == 118) = false := by simp [h3]
  have e4 : (Go.PlainAid.bt s k != 40) = true := by simp [h4]
  clear he hbx h1 h2 h3 h4
  by_cases hl : k < s.size
  · have g1 : (k : Int) < (s.size : Int) := by omega
    have g2 : ¬ (s.size : Int) ≤ (k : Int) := by omega
    go_enter Try.func17, Try.ntmps17
    go_wp2
    refine bodyPost_ret (res_got rfl _ _ w.heap.size _ _ _ _ _ rfl (put5 HBX.out)) rfl ?_
    exact HE.out.bad0 k
  · have g1 : ¬ (k : Int) < (s.size : Int) := by omega
    have g2 : (s.size : Int) ≤ (k : Int) := by omega
    clear e1 e2 e3 e4
    go_enter Try.func17, Try.ntmps17
    go_wp2
    refine bodyPost_ret (res_got rfl _ _ w.heap.size _ _ _ _ _ rfl (put5 HBX.out)) rfl ?_
    exact HE.out.bad0 k
end Go.Proofs.Ytipapemcedkinaa
