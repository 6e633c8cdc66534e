/- Parse of the specification; layer 7 (ptext). -/
import Derived.Test.YtipapemcedkinaaPg
namespace Go.Proofs.Ytipapemcedkinaa
open Go.RowKit Go.PlainAid

theorem res_r9 (tmps : Array Value) (w : World) (g : Nat) (a b c : Value) (hp : tmps.getD 2 undef = .pointer (some ⟨g, 0, none⟩)) (hg : Blk w g 25 #[a, b, c]) :
    (results Try.f9 tmps).run Try.prog w = .ok (.tuple #[.agg #[a, b, c], tmps.getD 3 undef, tmps.getD 4 undef]) w := by
  have l1 := run_loadVar_row (P := Try.prog) w g 25 25 #[a, b, c] (0, 0) _ hg Try.underlying25 rfl size25
  have e : Try.f9.results = #[.cell 2 25, .tmp 3, .tmp 4] := rfl
  simp only [Array.getD_eq_getD_getElem?] at hp
  simp [results, hp, asAddr, l1, Result.andThen]
theorem below3 {B : Nat} {w w1 : World} (h : Below B w w1) {g : Nat} (hg : B ≤ g) (b0 b1 b2 : Value) : Below B w (((w1.setCell ⟨g, 0, none⟩ b0).setCell ⟨g, 1, none⟩ b1).setCell ⟨g, 2, none⟩ b2) :=
  ((h.setCell (p := ⟨g, 0, none⟩) hg _).setCell (p := ⟨g, 1, none⟩) hg _).setCell (p := ⟨g, 2, none⟩) hg _
abbrev exZ : Array Value := #[.int .i64 0, .int .i64 0, .slice none 0 0]
set_option maxRecDepth 100000 in
set_option maxHeartbeats 4000000 in
theorem r_Parse_long (s : ByteArray) (w : World) (h : 65536 < s.size) (hs : s.size ≤ 9223372036854775807) : Calls Try.prog 9 #[.string s] w (PR3 (ex0, 0, 4) w) := by
  have h1 : (65536 : Int) < (s.size : Int) := by omega
  go_enter Try.func9, Try.ntmps9
  go_wp2
  have hB := Blk.new w 25 exZ
  refine bodyPost_ret (res_r9 _ _ w.heap.size _ _ _ rfl hB) rfl ?_
  exact ⟨none, 0, rfl, balw _ _, Rep.leaf rfl⟩
set_option maxRecDepth 100000 in
set_option maxHeartbeats 4000000 in
theorem r_Parse_bad (s : ByteArray) (w : World) (hs : s.size ≤ 65536) (a : Nat) (hX : exprF s (2 * s.size + 2) 0 = .bad a) : Calls Try.prog 9 #[.string s] w (PR3 (ex0, (a : Int), 3) w) := by
  obtain ⟨W0, hW0⟩ : ∃ W, w.alloc (.cells exZ 25) = W := ⟨_, rfl⟩
  have HB0 : Hid (Blk W0 w.heap.size 25 exZ) := Lib.hid (by rw [← hW0]; exact Blk.new _ _ _)
  have HW0 : Hid (Below w.heap.size w W0) := Lib.hid (by rw [← hW0]; exact balw _ _)
  have HZ : Hid (W0.heap.size = w.heap.size + 1) := Lib.hid (by rw [← hW0]; simp)
  have HC := Lib.hid (r_expr s hs (2 * s.size + 2) (2 * s.size + 2) 0 W0 (Nat.le_refl _) (Nat.zero_le _) (by omega))
  rw [hX] at HC
  have h1 : ¬ (65536 : Int) < (s.size : Int) := by omega
  clear hX
  go_enter Try.func9, Try.ntmps9
  go_upto_region 4 with (go_at_call 17; (refine HC.out.mono ?_); rintro e w2 ⟨o2, v2, A2, m2, c2, rfl, hb2⟩; have HF2 := Lib.hid hb2; clear hb2)
  clear hW0
  obtain ⟨W3, hW3⟩ : ∃ W, w2.alloc (.cells #[.int .i64 o2, .int .i64 v2, .slice A2 m2 c2, .int .i64 (a : Int), .bool false] 47) = W := ⟨_, rfl⟩
  have hf3 : Below W0.heap.size W0 W3 := by rw [← hW3]; exact al HF2.out _
  have hbx := HB0.out.below hf3 HB0.out.lt
  have hby : Blk W3 w2.heap.size 47 #[.int .i64 o2, .int .i64 v2, .slice A2 m2 c2, .int .i64 (a : Int), .bool false] := by rw [← hW3]; exact Blk.new _ _ _
  obtain ⟨z0, x0, x1, x2, q0, q1, q2⟩ := box_cells hbx
  obtain ⟨z5, ⟨y0, y1, y2, y3, y4⟩, _⟩ := got_cells hby
  have HBX := Lib.hid hbx
  have HF3 := Lib.hid (HW0.out.trans (hf3.mono HW0.out.size))
  try rw [hW3]
  clear hW3 hf3 hbx hby
  have hne : w.heap.size ≠ w2.heap.size := by have := HZ.out; have := HF2.out.size; omega
  go_wp2_with fail
  go_region
  all_goals go_wp2
  all_goals
    refine bodyPost_ret (res_r9 _ _ w.heap.size _ _ _ rfl (put3 (Blk.drewN HBX.out 1))) rfl ?_
    exact ⟨none, 0, rfl, below3 (HF3.out.trans ((below_drewN (Below.refl _ W3) 1).mono HF3.out.size)) (Nat.le_refl _) _ _ _, Rep.leaf rfl⟩
set_option maxRecDepth 100000 in
set_option maxHeartbeats 4000000 in
theorem r_Parse_ok (s : ByteArray) (w : World) (hs : s.size ≤ 65536) (t : Ex) (a : Nat) (hX : exprF s (2 * s.size + 2) 0 = .ok t a) (R : Ex × Int × Int) (hR1 : a < s.size → R = (ex0, (a : Int), 3)) (hR2 : ¬ a < s.size → chkE t = 0 → R = (t, (s.size : Int), 0)) (hR3 : ¬ a < s.size → chkE t ≠ 0 → R = (ex0, 0, chkE t)) : Calls Try.prog 9 #[.string s] w (PR3 R w) := by
  have hin := (xr_in s (2 * s.size + 2)).1 0 (Nat.zero_le _)
  obtain ⟨W0, hW0⟩ : ∃ W, w.alloc (.cells exZ 25) = W := ⟨_, rfl⟩
  have HB0 : Hid (Blk W0 w.heap.size 25 exZ) := Lib.hid (by rw [← hW0]; exact Blk.new _ _ _)
  have HW0 : Hid (Below w.heap.size w W0) := Lib.hid (by rw [← hW0]; exact balw _ _)
  have HZ : Hid (W0.heap.size = w.heap.size + 1) := Lib.hid (by rw [← hW0]; simp)
  have HC := Lib.hid (r_expr s hs (2 * s.size + 2) (2 * s.size + 2) 0 W0 (Nat.le_refl _) (Nat.zero_le _) (by omega))
  rw [hX] at HC hin
  have hsz : t.sz ≤ 100000000 := by have := hin.2.2; have := hin.2.1; omega
  have hal : a ≤ s.size := hin.2.1
  have HCK := Lib.hid (fun w3 A c (h : Rep w3.heap.size w3 A t) => rf_Check t A c w3 hsz h)
  have HR1 := Lib.hid hR1
  have HR2 := Lib.hid hR2
  have HR3 := Lib.hid hR3
  have h1 : ¬ (65536 : Int) < (s.size : Int) := by omega
  clear hX hin hsz hR1 hR2 hR3
  go_enter Try.func9, Try.ntmps9
  go_upto_region 4 with (go_at_call 17; (refine HC.out.mono ?_); rintro e w2 ⟨A, c, rfl, hb2, hT⟩; have HF2 := Lib.hid hb2; have HT2 := Lib.hid hT; clear hb2 hT)
  clear hW0
  obtain ⟨W3, hW3⟩ : ∃ W, w2.alloc (.cells #[.int .i64 t.op, .int .i64 t.vr, .slice A t.ks.length c, .int .i64 (a : Int), .bool true] 47) = W := ⟨_, rfl⟩
  have hf3 : Below W0.heap.size W0 W3 := by rw [← hW3]; exact al HF2.out _
  have h23 : Below w2.heap.size w2 W3 := by rw [← hW3]; exact balw _ _
  have hbx := HB0.out.below hf3 HB0.out.lt
  have hby : Blk W3 w2.heap.size 47 #[.int .i64 t.op, .int .i64 t.vr, .slice A t.ks.length c, .int .i64 (a : Int), .bool true] := by rw [← hW3]; exact Blk.new _ _ _
  obtain ⟨z0, x0, x1, x2, q0, q1, q2⟩ := box_cells hbx
  obtain ⟨z5, ⟨y0, y1, y2, y3, y4⟩, _⟩ := got_cells hby
  have HBX := Lib.hid hbx
  have HBY := Lib.hid hby
  have HF3 := Lib.hid (HW0.out.trans (hf3.mono HW0.out.size))
  have HT3 : Hid (RepS (fun x => w.heap.size < x ∧ x < W3.heap.size) W3 A t) := Lib.hid ((HT2.out.kept (fun x hx => h23.block x hx.2)).mono (fun x hx => ⟨by have := HZ.out; omega, Nat.lt_of_lt_of_le hx.2 h23.size⟩))
  have hne : w.heap.size ≠ w2.heap.size := by have := HZ.out; have := HF2.out.size; omega
  try rw [hW3]
  clear hW3 hf3 hbx hby h23 HT2 HC
  by_cases hlt : a < s.size
  · have g1 : (a : Int) < (s.size : Int) := by omega
    have HX := Lib.hid (HR1.out hlt)
    clear HR1 HR2 HR3 hlt
    go_wp2_with fail
    go_region
    all_goals go_wp2
    all_goals
      refine bodyPost_ret (res_r9 _ _ w.heap.size _ _ _ rfl (put3 (Blk.drewN HBX.out 1))) rfl ?_
      rw [HX.out]
      exact ⟨none, 0, rfl, below3 (HF3.out.trans ((below_drewN (Below.refl _ W3) 1).mono HF3.out.size)) (Nat.le_refl _) _ _ _, Rep.leaf rfl⟩
  · have g1 : ¬ (a : Int) < (s.size : Int) := by omega
    have HC3 := Lib.hid (HCK.out W3 A c (HT3.out.toR (fun x hx => hx.2)))
    have HX2 := Lib.hid (HR2.out hlt)
    have HX3 := Lib.hid (HR3.out hlt)
    clear HR1 HR2 HR3 hlt HCK
    generalize chkE t = ck at *
    have HK4 : Hid (∀ w4, Below W3.heap.size W3 w4 → Blk w4 w.heap.size 25 exZ ∧ Blk w4 w2.heap.size 47 #[.int .i64 t.op, .int .i64 t.vr, .slice A t.ks.length c, .int .i64 (a : Int), .bool true] ∧ Below w.heap.size w w4 ∧ RepS (fun x => w.heap.size < x ∧ x < w4.heap.size) w4 A t) := Lib.hid (fun w4 h4 =>
      ⟨HBX.out.below h4 HBX.out.lt, HBY.out.below h4 HBY.out.lt, HF3.out.trans (h4.mono HF3.out.size), (HT3.out.kept (fun x hx => h4.block x hx.2)).mono (fun x hx => ⟨hx.1, Nat.lt_of_lt_of_le hx.2 h4.size⟩)⟩)
    by_cases hck : ck = 0
    · subst hck
      have HX := Lib.hid (HX2.out rfl)
      clear HX2 HX3
      go_upto_region 9 with (go_at_call 18; (refine HC3.out.mono ?_); rintro e w4 ⟨rfl, hb4⟩; obtain ⟨k0, k1, k2, k3⟩ := HK4.out w4 hb4; have HK0 := Lib.hid k0; have HK1 := Lib.hid k1; have HK2 := Lib.hid k2; have HK3 := Lib.hid k3; clear hb4 k0 k1 k2 k3)
      clear x0 x1 x2 q0 q1 q2 y0 y1 y2 y3 y4 z0 z5
      obtain ⟨z0, x0, x1, x2, q0, q1, q2⟩ := box_cells HK0.out
      obtain ⟨z5, ⟨y0, y1, y2, y3, y4⟩, _⟩ := got_cells HK1.out
      go_wp2
      refine bodyPost_ret (res_r9 _ _ w.heap.size _ _ _ rfl (put3 HK0.out)) rfl ?_
      rw [HX.out]
      refine ⟨A, c, rfl, below3 HK2.out (Nat.le_refl _) _ _ _, (HK3.out.kept (fun x hx => ?_)).toR (fun x hx => by simpa using hx.2)⟩
      have hxx : ¬ w.heap.size = x := by have := hx.1; omega
      simp only [World.setCell, Array.getElem?_modify, hxx, if_false]
    · have hckb : (ck != 0) = true := by simp [hck]
      have HX := Lib.hid (HX3.out hck)
      clear HX2 HX3
      go_upto_region 8 with (go_at_call 18; (refine HC3.out.mono ?_); rintro e w4 ⟨rfl, hb4⟩; obtain ⟨k0, k1, k2, k3⟩ := HK4.out w4 hb4; have HK0 := Lib.hid k0; have HK2 := Lib.hid k2; clear hb4 k0 k1 k2 k3)
      clear x0 x1 x2 q0 q1 q2 y0 y1 y2 y3 y4 z0 z5
      obtain ⟨z0, x0, x1, x2, q0, q1, q2⟩ := box_cells HK0.out
      go_wp2
      refine bodyPost_ret (res_r9 _ _ w.heap.size _ _ _ rfl (put3 HK0.out)) rfl ?_
      rw [HX.out]
      exact ⟨none, 0, rfl, below3 HK2.out (Nat.le_refl _) _ _ _, Rep.leaf rfl⟩
/-- The specification's Parse answers what parsR says. -/
theorem r_Parse (s : ByteArray) (w : World) (hs : s.size ≤ 9223372036854775807) : Calls Try.prog 9 #[.string s] w (PR3 (parsR s) w) := by
  unfold parsR
  by_cases h : 65536 < s.size
  · rw [if_pos h]; exact r_Parse_long s w h hs
  · rw [if_neg h]
    cases hX : exprF s (2 * s.size + 2) 0 with
    | bad a => exact r_Parse_bad s w (by omega) a hX
    | ok t a => exact r_Parse_ok s w (by omega) t a hX _ (fun h => by simp only [if_pos h]) (fun h h2 => by simp only [if_neg h, if_pos h2]) (fun h h2 => by simp only [if_neg h, if_neg h2])
end Go.Proofs.Ytipapemcedkinaa
