/- Parse of layer 7 (ptext), the program's, walked. -/
import Derived.Test.YtipapemcedkinaaPa
namespace Go.Proofs.Ytipapemcedkinaa
open Go.RowKit Go.PlainAid

set_option maxRecDepth 100000 in
set_option maxHeartbeats 4000000 in
theorem p_Parse_bad (s : ByteArray) (w : World) (hs : s.size ≤ 65536) (a : Nat) (hX : exprF s (2 * s.size + 2) 0 = .bad a) : Calls Try.prog 8 #[.string s] w (PR3 (ex0, (a : Int), 3) w) := by
  have hmf : ∀ (fn : Fn) (first cap : Array Value) (w : World), (Instr.makeFunc fn first cap).run Try.prog w = .ok (.func fn first cap) w := fun _ _ _ _ => rfl
  have hB0 := BX.start w (.int .i64 0) (.int .i64 0) (.slice none 0 0) (.int .i64 0) (.int .i64 0)
  obtain ⟨W0, hW0⟩ : ∃ W, ((w.alloc (.cells #[.int .i64 0, .int .i64 0, .slice none 0 0] 25)).alloc (.cells #[.int .i64 0] 3)).alloc (.cells #[.int .i64 0] 26) = W := ⟨_, rfl⟩
  have hz : W0.heap.size = w.heap.size + 1 + 1 + 1 := by rw [← hW0]; simp
  rw [hW0] at hB0
  have hP0 : Ps W0.heap.size s 0 (W0.alloc (.cells #[.string s, .int .i64 0] 43)) := Blk.new W0 43 _
  have hB1 : BX w (W0.alloc (.cells #[.string s, .int .i64 0] 43)) (.int .i64 0) (.int .i64 0) (.slice none 0 0) (.int .i64 0) (.int .i64 0) := ⟨hB0.b0.alloc _, hB0.b1.alloc _, hB0.b2.alloc _, al hB0.be _⟩
  have HB1 := Lib.hid hB1
  have HC := Lib.hid (p_expr s hs (2 * s.size + 2) W0.heap.size (2 * s.size + 2) 0 _ (Nat.le_refl _) hP0 (Nat.zero_le _) (by omega))
  rw [hX] at HC
  have HZ := Lib.hid hz
  have h1 : ¬ (65536 : Int) < (s.size : Int) := by omega
  clear hB0 hB1 hP0 hX hz
  go_enter_defers Try.func8, Try.ntmps8
  go_upto_region 4 with (fail)
  clear hW0
  go_wp2_with (go_at_call 15; (refine HC.out.mono ?_); rintro e w2 ⟨rfl, hf⟩)
  refine door_fault (HB1.out.turn hf (by rw [HZ.out]; omega)) rfl rfl rfl
set_option maxRecDepth 100000 in
set_option maxHeartbeats 8000000 in
theorem p_Parse_ok (s : ByteArray) (w : World) (hs : s.size ≤ 65536) (t : Ex) (a : Nat) (hX : exprF s (2 * s.size + 2) 0 = .ok t a) : Calls Try.prog 8 #[.string s] w (PR3 (if a < s.size then (ex0, a, 3) else if chkE t = 0 then (t, s.size, 0) else (ex0, 0, chkE t)) w) := by
  have hmf : ∀ (fn : Fn) (first cap : Array Value) (w : World), (Instr.makeFunc fn first cap).run Try.prog w = .ok (.func fn first cap) w := fun _ _ _ _ => rfl
  have hB0 := BX.start w (.int .i64 0) (.int .i64 0) (.slice none 0 0) (.int .i64 0) (.int .i64 0)
  obtain ⟨W0, hW0⟩ : ∃ W, ((w.alloc (.cells #[.int .i64 0, .int .i64 0, .slice none 0 0] 25)).alloc (.cells #[.int .i64 0] 3)).alloc (.cells #[.int .i64 0] 26) = W := ⟨_, rfl⟩
  have hz : W0.heap.size = w.heap.size + 1 + 1 + 1 := by rw [← hW0]; simp
  rw [hW0] at hB0
  have hP0 : Ps W0.heap.size s 0 (W0.alloc (.cells #[.string s, .int .i64 0] 43)) := Blk.new W0 43 _
  have hB1 : BX w (W0.alloc (.cells #[.string s, .int .i64 0] 43)) (.int .i64 0) (.int .i64 0) (.slice none 0 0) (.int .i64 0) (.int .i64 0) := ⟨hB0.b0.alloc _, hB0.b1.alloc _, hB0.b2.alloc _, al hB0.be _⟩
  have HB1 := Lib.hid hB1
  have HC := Lib.hid (p_expr s hs (2 * s.size + 2) W0.heap.size (2 * s.size + 2) 0 _ (Nat.le_refl _) hP0 (Nat.zero_le _) (by omega))
  have hin := (xr_in s (2 * s.size + 2)).1 0 (Nat.zero_le _)
  obtain ⟨R, hR⟩ : ∃ R : Ex × Int × Int, (if a < s.size then (ex0, (a : Int), (3 : Int)) else if chkE t = 0 then (t, (s.size : Int), 0) else (ex0, 0, chkE t)) = R := ⟨_, rfl⟩
  rw [hR]
  have HR := Lib.hid hR
  clear hR
  rw [hX] at HC hin
  have hsz : t.sz ≤ 100000000 := by have := hin.2.2; have := hin.2.1; omega
  have hal : a ≤ s.size := hin.2.1
  have HZ := Lib.hid hz
  have hne : w.heap.size ≠ W0.heap.size := by omega
  have h1 : ¬ (65536 : Int) < (s.size : Int) := by omega
  clear hB0 hB1 hP0 hX hz hin
  have HAF : Hid (∀ w2 A c, Frm (At W0.heap.size) (W0.alloc (.cells #[.string s, .int .i64 0] 43)) w2 → Ps W0.heap.size s a w2 → RepS (fun x => (W0.alloc (.cells #[.string s, .int .i64 0] 43)).heap.size ≤ x ∧ x < w2.heap.size) w2 A t →
      BX w w2 (.int .i64 0) (.int .i64 0) (.slice none 0 0) (.int .i64 0) (.int .i64 0) ∧ ∀ w3, w3 = (((w2.setCell ⟨w.heap.size, 0, none⟩ (.int .i64 t.op)).setCell ⟨w.heap.size, 1, none⟩ (.int .i64 t.vr)).setCell ⟨w.heap.size, 2, none⟩ (.slice A t.ks.length c)) → BX w w3 (.int .i64 t.op) (.int .i64 t.vr) (.slice A t.ks.length c) (.int .i64 0) (.int .i64 0) ∧ Ps W0.heap.size s a w3 ∧ RepS (fun x => w.heap.size + 1 + 1 < x ∧ x < w3.heap.size) w3 A t) := Lib.hid (fun w2 A c hf hp hT => by
    have hb2 := HB1.out.turn hf (by rw [HZ.out]; omega)
    refine ⟨hb2, fun w3 e3 => ?_⟩
    subst e3
    refine ⟨hb2.put0, ps3 hp hne _ _ _, (hT.kept (fun x hx => ?_)).mono (fun x hx => ⟨?_, by simpa using hx.2⟩)⟩
    · have hxx : ¬ w.heap.size = x := by have := hx.1; rw [show (W0.alloc (.cells #[.string s, .int .i64 0] 43)).heap.size = W0.heap.size + 1 by simp] at this; have := HZ.out; omega
      simp only [World.setCell, Array.getElem?_modify, hxx, if_false]
    · have := hx.1
      rw [show (W0.alloc (.cells #[.string s, .int .i64 0] 43)).heap.size = W0.heap.size + 1 by simp] at this
      have := HZ.out
      omega)
  have HCK := Lib.hid (fun w3 A c (h : Rep w3.heap.size w3 A t) => pr_Check t A c w3 hsz h)
  clear hsz
  go_enter_defers Try.func8, Try.ntmps8
  go_upto_region 4 with (fail)
  clear hW0
  go_upto_region 6 with (go_at_call 15; (refine HC.out.mono ?_); rintro e w2 ⟨A, c, rfl, hf, hp, hT⟩; obtain ⟨hb2, h3⟩ := HAF.out w2 A c hf hp hT; obtain ⟨⟨x0, x1, x2, x3, x4⟩, q0, q1, q2, q3, q4⟩ := hb2.cells; have H3 := Lib.hid h3; clear hf hp hT hb2 h3)
  clear HC HB1 HAF x0 x1 x2 x3 x4 q0 q1 q2 q3 q4
  obtain ⟨hb3, hp3, hT3⟩ := H3.out _ rfl
  generalize ((w2.setCell ⟨w.heap.size, 0, none⟩ (.int .i64 t.op)).setCell ⟨w.heap.size, 1, none⟩ (.int .i64 t.vr)).setCell ⟨w.heap.size, 2, none⟩ (.slice A t.ks.length c) = w3 at *
  have HB3 := Lib.hid hb3
  have HT3 := Lib.hid hT3
  have x5 : w3.cell? ⟨W0.heap.size, 1, none⟩ = some (.int .i64 (a : Int)) := hp3.cell 1
  obtain ⟨⟨x0, x1, x2, _, _⟩, _⟩ := hb3.cells
  have HC3 := Lib.hid (HCK.out w3 A c (hT3.toR (fun x hx => hx.2)))
  clear H3 hb3 hp3 hT3 HCK
  by_cases hlt : a < s.size
  · have HX : Hid (R = (ex0, (a : Int), 3)) := Lib.hid (by rw [← HR.out, if_pos hlt])
    have g1 : (a : Int) < (s.size : Int) := by omega
    clear HR
    go_wp2_with fail
    rw [HX.out]
    exact door_fault HB3.out rfl rfl rfl
  · have g1 : ¬ (a : Int) < (s.size : Int) := by omega
    have hR := HR.out
    rw [if_neg hlt] at hR
    have HRn : Hid (chkE t ≠ 0 → R = (ex0, 0, chkE t)) := Lib.hid (fun h => by rw [← hR, if_neg h])
    have HRz : Hid (chkE t = 0 → R = (t, (s.size : Int), 0)) := Lib.hid (fun h => by rw [← hR, if_pos h])
    clear HR hR
    generalize chkE t = ck at *
    by_cases hck : ck = 0
    · subst hck
      have HX := Lib.hid (HRz.out rfl)
      clear HRn HRz
      go_upto_region 11 with (go_at_call 16; (refine HC3.out.mono ?_); rintro e w4 ⟨rfl, hb4⟩; have hbx : BX w w4 (.int .i64 t.op) (.int .i64 t.vr) (.slice A t.ks.length c) (.int .i64 0) (.int .i64 0) := ⟨HB3.out.b0.below hb4 HB3.out.b0.lt, HB3.out.b1.below hb4 HB3.out.b1.lt, HB3.out.b2.below hb4 HB3.out.b2.lt, HB3.out.be.trans (hb4.mono HB3.out.be.size)⟩; have HB4 := Lib.hid hbx; have HT4 := Lib.hid ((HT3.out.kept (fun x hx => hb4.block x hx.2)).mono (P' := fun x => w.heap.size + 1 + 1 < x ∧ x < w4.heap.size) (fun x hx => ⟨hx.1, Nat.lt_of_lt_of_le hx.2 hb4.size⟩)); clear hb4 hbx)
      clear x0 x1 x2 x5
      obtain ⟨⟨x0, x1, x2, x3, x4⟩, q0, q1, q2, q3, q4⟩ := HB4.out.cells
      go_wp2_with fail
      rw [HX.out]
      have hB := HB4.out.all (u0 := .int .i64 t.op) (u1 := .int .i64 t.vr) (u2 := .slice A t.ks.length c) (u3 := .int .i64 (s.size : Int)) (u4 := .int .i64 0)
      refine door_ret hB ((HT4.out.kept (fun x hx => ?_)).toR (fun x hx => by simpa using hx.2)) rfl rfl rfl
      have n0 : ¬ w.heap.size = x := by omega
      have n1 : ¬ w.heap.size + 1 = x := by omega
      have n2 : ¬ w.heap.size + 1 + 1 = x := by omega
      simp only [World.setCell, Array.getElem?_modify, n0, n1, n2, if_false]
    · have hckb : (ck != 0) = true := by simp [hck]
      have HX := Lib.hid (HRn.out hck)
      clear HRn HRz
      go_upto_region 10 with (go_at_call 16; (refine HC3.out.mono ?_); rintro e w4 ⟨rfl, hb4⟩; have hbx : BX w w4 (.int .i64 t.op) (.int .i64 t.vr) (.slice A t.ks.length c) (.int .i64 0) (.int .i64 0) := ⟨HB3.out.b0.below hb4 HB3.out.b0.lt, HB3.out.b1.below hb4 HB3.out.b1.lt, HB3.out.b2.below hb4 HB3.out.b2.lt, HB3.out.be.trans (hb4.mono HB3.out.be.size)⟩; have HB4 := Lib.hid hbx; clear hb4 hbx)
      clear x0 x1 x2 x5
      obtain ⟨⟨x0, x1, x2, x3, x4⟩, q0, q1, q2, q3, q4⟩ := HB4.out.cells
      go_wp2_with fail
      rw [HX.out]
      have hB := HB4.out.all (u0 := .int .i64 0) (u1 := .int .i64 0) (u2 := .slice none 0 0) (u3 := .int .i64 0) (u4 := .int .i64 ck)
      exact door_ret (t := ex0) hB (Rep.leaf rfl) rfl rfl rfl
/-- Parse answers what parsR says. -/
theorem p_Parse (s : ByteArray) (w : World) (hs : s.size ≤ 9223372036854775807) : Calls Try.prog 8 #[.string s] w (PR3 (parsR s) w) := by
  unfold parsR
  by_cases h : 65536 < s.size
  · rw [if_pos h]; exact p_Parse_long s w h hs
  · rw [if_neg h]
    cases hX : exprF s (2 * s.size + 2) 0 with
    | bad a => exact p_Parse_bad s w (by omega) a hX
    | ok t a => exact p_Parse_ok s w (by omega) t a hX
end Go.Proofs.Ytipapemcedkinaa
