/- The walk of LexiNext of layer 29 (lexi), over the translation. -/
import Derived.Test.YtnmofkngengoeaaDoorFnc
namespace Go.Proofs.YtnmofkngengoeaaDoor
open Go.RowKit Go.PlainAid

abbrev tkA (t : Tk) : Value := .agg #[.int .i64 t.1, .int .i64 t.2.1, .string t.2.2.1, .int .i64 (t.2.2.2 : Int)]
abbrev tkO (t : Tk) (ty : TypeId) : Obj := .cells #[.int .i64 t.1, .int .i64 t.2.1, .string t.2.2.1, .int .i64 (t.2.2.2 : Int)] ty
theorem next_any (s : ByteArray) (i : Int) (hs : s.size ≤ 1500) : ∃ (t : Tk) (nx c : Int),
    (∀ w, Glob w → Calls Tryd.prog 9 #[.string s, .int .i64 i] w fun e w' => e = .returned (.tuple #[tkA t, .int .i64 nx, .int .i64 c]) ∧ Below w.heap.size w w') ∧
    (∀ w, Calls Tryd.prog 10 #[.string s, .int .i64 i] w fun e w' => e = .returned (.tuple #[tkA t, .int .i64 nx, .int .i64 c]) ∧ Below w.heap.size w w') := by
  by_cases h : i < 0 ∨ (s.size : Int) < i
  · exact ⟨(0, 0, emp, 0), 0, 2, fun w _ => out_next s i w h, fun w => rf_out_next s i w h⟩
  · obtain ⟨j, rfl⟩ := Int.eq_ofNat_of_zero_le (show 0 ≤ i by omega)
    have hj : j ≤ s.size := by omega
    have h1 := fun w hG => lx_Next s j w hG (by omega) hj
    have h2 := fun w => rf_Next s j w (by omega) hj
    cases hn : nextS s j with
    | ok k n x a nx =>
      rw [hn] at h1 h2
      exact ⟨(k, n, x, a), nx, 0, h1, h2⟩
    | er a c =>
      rw [hn] at h1 h2
      exact ⟨(0, 0, emp, 0), a, c, h1, h2⟩
theorem to1 {A : Option Addr} {c : Nat} {w : World} {t : Tk} (h : RT w A [t]) : Calls Tryd.prog 12 #[.slice A 1 c] w fun e w' => ∃ B d, e = .returned (.slice B 1 d) ∧ RT w' B [t] ∧ Below w.heap.size w w' := to_rt (l := [t]) h (by simp)
theorem same1 {A B : Option Addr} {c d : Nat} {w : World} {t : Tk} (h : RT w A [t]) (h2 : RT w B [t]) : Calls Tryd.prog 11 #[.slice A 1 c, .slice B 1 d, .bool true] w fun e w' => e = .returned (.bool true) ∧ Below w.heap.size w w' := rf_Same A B c d [t] w h h2 (by simp)
theorem rt_new (w : World) (t : Tk) (ty : TypeId) : RT (w.alloc (tkO t ty)) (some ⟨w.heap.size, 0, none⟩) [t] := RT.of_blk (l := [t]) (Blk.new w ty _) rfl
theorem rt_new2 (w : World) (o : Obj) (t : Tk) (ty : TypeId) : RT ((w.alloc o).alloc (tkO t ty)) (some ⟨w.heap.size + 1, 0, none⟩) [t] := by
  have h := rt_new (w.alloc o) t ty
  rwa [show (w.alloc o).heap.size = w.heap.size + 1 by simp] at h
theorem rt_old (w : World) (o : Obj) (t : Tk) (ty : TypeId) : RT ((w.alloc (tkO t ty)).alloc o) (some ⟨w.heap.size, 0, none⟩) [t] := (rt_new w t ty).step ((Below.refl _ _).alloc (Nat.le_refl _) _)
theorem bt {w w1 w2 : World} (h : Below w.heap.size w w1) (h2 : Below w1.heap.size w1 w2) : Below w.heap.size w w2 := h.trans (h2.mono h.size)
theorem al {w w1 : World} (h : Below w.heap.size w w1) (o : Obj) : Below w.heap.size w (w1.alloc o) := h.alloc h.size o
def Eight (g1 g2 : Nat) (t : Tk) (w : World) : Prop :=
  ((w.cell? ⟨g1, 0, none⟩ = some (.int .i64 t.1) ∧ w.cell? ⟨g1, 1, none⟩ = some (.int .i64 t.2.1) ∧ w.cell? ⟨g1, 2, none⟩ = some (.string t.2.2.1) ∧ w.cell? ⟨g1, 3, none⟩ = some (.int .i64 (t.2.2.2 : Int)))) ∧
  (w.cell? ⟨g2, 0, none⟩ = some (.int .i64 t.1) ∧ w.cell? ⟨g2, 1, none⟩ = some (.int .i64 t.2.1) ∧ w.cell? ⟨g2, 2, none⟩ = some (.string t.2.2.1) ∧ w.cell? ⟨g2, 3, none⟩ = some (.int .i64 (t.2.2.2 : Int)))
theorem Eight.of {g1 g2 t1 t2 : Nat} {t : Tk} {w w' : World} (h1 : Blk w g1 t1 #[.int .i64 t.1, .int .i64 t.2.1, .string t.2.2.1, .int .i64 (t.2.2.2 : Int)]) (h2 : Blk w g2 t2 #[.int .i64 t.1, .int .i64 t.2.1, .string t.2.2.1, .int .i64 (t.2.2.2 : Int)]) (hb : Below w.heap.size w w') : Eight g1 g2 t w' :=
  ⟨(h1.below hb h1.lt).four.1, (h2.below hb h2.lt).four.1⟩
set_option maxRecDepth 100000 in
set_option maxHeartbeats 8000000 in
theorem lexiNext_walk (s : ByteArray) (i : Int) (w : World) (hG : Glob w) : Calls Tryd.prog 3 #[.string s, .int .i64 i] w fun e w' => e = .returned (.bool true) ∧ Below w.heap.size w w' := by
  have HG := Lib.hid hG
  clear hG
  by_cases hl : 1500 < s.size
  · have hl' : (1500 : Int) < (s.size : Int) := by omega
    go_enter Tryd.func3, Tryd.ntmps3
    go_wp2_with (go_at_call 8; refine (law_lives w HG.out).mono ?_; rintro e w2 ⟨rfl, hb2⟩)
    go_ret
    exact ⟨rfl, hb2⟩
  · have hl' : ¬ (1500 : Int) < (s.size : Int) := by omega
    obtain ⟨t, nx, c, h9, h10⟩ := next_any s i (by omega)
    have H9 := Lib.hid h9
    have H10 := Lib.hid h10
    clear h9 h10
    go_enter Tryd.func3, Tryd.ntmps3
    go_upto_region 4 with (go_at_call 9; refine (H9.out w HG.out).mono ?_; rintro e w2 ⟨rfl, hb2⟩)
    go_upto_region 5 with (go_at_call 10; refine (H10.out _).mono ?_; rintro e w3 ⟨rfl, hb3⟩)
    have hk2 : Below w.heap.size w (w2.alloc (tkO t 24)) := hb2.alloc hb2.size _
    have hk3 : Below w.heap.size w w3 := hk2.trans (hb3.mono hk2.size)
    have hkz : Below w.heap.size w (w3.alloc (tkO t 28)) := hk3.alloc hk3.size _
    have hB1 : Blk (w3.alloc (tkO t 28)) w2.heap.size 24 #[.int .i64 t.1, .int .i64 t.2.1, .string t.2.2.1, .int .i64 (t.2.2.2 : Int)] := by
      have h1 := (Blk.new w2 24 #[.int .i64 t.1, .int .i64 t.2.1, .string t.2.2.1, .int .i64 (t.2.2.2 : Int)])
      have h2 := h1.below hb3 h1.lt
      exact h2.below ((Below.refl _ w3).alloc (Nat.le_refl _) _) h2.lt
    have hB2 : Blk (w3.alloc (tkO t 28)) w3.heap.size 28 #[.int .i64 t.1, .int .i64 t.2.1, .string t.2.2.1, .int .i64 (t.2.2.2 : Int)] := Blk.new _ _ _
    obtain ⟨g1, hg1⟩ : ∃ g, w2.heap.size = g := ⟨_, rfl⟩
    obtain ⟨g2, hg2⟩ : ∃ g, w3.heap.size = g := ⟨_, rfl⟩
    obtain ⟨wz, hwz⟩ : ∃ wz, w3.alloc (tkO t 28) = wz := ⟨_, rfl⟩
    rw [hg1, hwz] at hB1
    rw [hg2, hwz] at hB2
    rw [hwz] at hkz
    have HZ := Lib.hid hkz
    have HEI := Lib.hid (fun w' (hb : Below wz.heap.size wz w') => Eight.of hB1 hB2 hb)
    rw [hg1, hg2, hwz]
    clear hB1 hB2 hkz hwz hg1 hg2 hk2 hk3 hb2 hb3
    have hB0 : Below wz.heap.size wz wz.drew := (Below.refl _ _).drew
    have HB0 := Lib.hid hB0
    have HGZ : Hid (∀ w', Below wz.heap.size wz w' → Glob w') := Lib.hid (fun w' hb => HG.out.step (bt HZ.out hb))
    clear hB0
    obtain ⟨t1, t2, t3, t4⟩ := t
    go_region_held3 (fun wx => (wx.cell? ⟨g1, 0, none⟩ = some (.int .i64 t1) ∧ wx.cell? ⟨g1, 1, none⟩ = some (.int .i64 t2) ∧ wx.cell? ⟨g1, 2, none⟩ = some (.string t3) ∧ wx.cell? ⟨g1, 3, none⟩ = some (.int .i64 (t4 : Int))) ∧ (wx.cell? ⟨g2, 0, none⟩ = some (.int .i64 t1) ∧ wx.cell? ⟨g2, 1, none⟩ = some (.int .i64 t2) ∧ wx.cell? ⟨g2, 2, none⟩ = some (.string t3) ∧ wx.cell? ⟨g2, 3, none⟩ = some (.int .i64 (t4 : Int)))) (first
        | exact HEI.out _ HB6.out
        | exact HEI.out _ HB5.out
        | exact HEI.out _ (al HB4.out _)
        | exact HEI.out _ HB4.out
        | exact HEI.out _ (al (al HB0.out _) _)
        | exact HEI.out _ (al HB0.out _)
        | exact HEI.out _ HB0.out) (first
        | (go_at_call 12; refine (to1 (t := (t1, t2, t3, t4)) (by first | exact rt_new _ _ _ | exact rt_old _ _ _ _ | exact rt_new2 _ _ _ _)).mono ?_; rintro e w4 ⟨A4, c4, rfl, hR4, hb4⟩; have HR4 := Lib.hid hR4; have HX4 := Lib.hid hb4; have HB4 := Lib.hid (bt (by first | exact al HB0.out _ | exact al (al HB0.out _) _) hb4); clear hR4 hb4)
        | (go_at_call 8; refine (law_lives _ (HGZ.out _ HB5.out)).mono ?_; rintro e w6 ⟨rfl, hb6⟩; have HB6 := Lib.hid (bt HB5.out hb6); clear hb6)
        | (go_at_call 11; refine (same1 (t := (t1, t2, t3, t4)) (by first | exact HR4.out | exact HR4.out.step (al (Below.refl _ _) _)) (by first | exact ((rt_new2 wz _ _ _).step (Below.refl _ _).drew).step HX4.out | exact ((rt_old wz _ _ _).step (Below.refl _ _).drew).step HX4.out | exact rt_new _ _ _)).mono ?_; rintro e w5 ⟨rfl, hb5⟩; have HB5 := Lib.hid (bt (by first | exact HB4.out | exact al HB4.out _) hb5); clear hb5))
    all_goals go_wp2
    all_goals (go_ret; exact ⟨rfl, bt HZ.out HB6.out⟩)
end Go.Proofs.YtnmofkngengoeaaDoor
