/- The specification's Take, from the released slots; layer 9 (pool). -/
import Derived.Test.YtljclikholchmaaRh
namespace Go.Proofs.Ytljclikholchmaa
open Go.RowKit

theorem cell_set1 (w : World) {g b : Nat} (h : b ≠ g) (i j : Nat) (v : Value) : (w.setCell ⟨g, i, none⟩ v).cell? ⟨b, j, none⟩ = w.cell? ⟨b, j, none⟩ :=
  World.cell?_of_block (a := ⟨b, j, none⟩) (set_blk1 w i v h)
theorem cell_set4 (w : World) {g b : Nat} (h : b ≠ g) (j : Nat) (v0 v1 v2 v3 : Value) : ((((w.setCell ⟨g, 0, none⟩ v0).setCell ⟨g, 1, none⟩ v1).setCell ⟨g, 2, none⟩ v2).setCell ⟨g, 3, none⟩ v3).cell? ⟨b, j, none⟩ = w.cell? ⟨b, j, none⟩ := by
  rw [cell_set1 _ h, cell_set1 _ h, cell_set1 _ h, cell_set1 _ h]
theorem own_some {w : World} {base n cap i : Nat} {A : Option Addr} {e : TypeId} {size : Nat} {xs : List Value} (h : w.ownsRow base e size (.slice A n cap) n xs) (hi : i < n) : ∃ g, A = some ⟨g, 0, none⟩ := by
  rcases h.2 with ⟨_, h0⟩ | ⟨g, cap, cur, hv, _⟩
  · omega
  · cases hv; exact ⟨g, rfl⟩
section
variable {w w' : World} {B : Nat} {A D C : Option Addr} {c d e : Nat} {M : List Nd} {T : List Bool} {F : List Int}
set_option maxRecDepth 100000 in
set_option maxHeartbeats 8000000 in
theorem r_Take_free (room : Int) (x0 x1 x2 x3 x4 : Int) (i : Nat) (h : RPool w B A c M D d T C e (F ++ [(i : Int) + 1])) {Pr : Nat → Prop} (hq : Own3 Pr A D C) (hpl : ∀ b, Pr b → b < w.heap.size) (hB : B ≤ w.heap.size) (hl : T.length ≤ 1000000) (k n : Nat) (hkF : F.length = k) (hn : n = k + 1) (hfl : k < 1000000) (hm : M.length = T.length) (hi : i < T.length) (hr : ¬ room ≤ (cntT T : Nat)) :
    Calls Try.prog 24 #[.agg (rpC room A c M.length D d T.length C e n), ndV ⟨x0, x1, x2, x3, x4⟩] w (GivR3 w Pr room (M.set i ⟨(i : Int) + 1, x1, x2, x3, x4⟩) (T.set i true) F ((i : Int) + 1) 0) := by
  obtain ⟨i4, hi4, hy0, hy1, hy2⟩ := info_parts info4
  obtain ⟨i3, hi3, hx0, hx1, hx2⟩ := info_parts info3
  obtain ⟨W, hW⟩ : ∃ W, ((w.alloc (.cells #[.int .i64 room, .slice A M.length c, .slice D T.length d, .slice C n e] 32)).alloc (.cells #[.int .i64 x0, .int .i64 x1, .int .i64 x2, .int .i64 x3, .int .i64 x4] 38)).alloc (.cells #[.int .i64 0, .slice none 0 0, .slice none 0 0, .slice none 0 0] 32) = W := ⟨_, rfl⟩
  obtain ⟨hws, hX⟩ := box3 w _ _ hW
  have HX := Lib.hid hX
  have HWS := Lib.hid hws
  have HWW := Lib.hid hW
  have b0 := hX W (Below.refl _ _)
  have HBW := Lib.hid b0.b
  have b0p := b0.p; have b0x := b0.x
  have p0 : W.cell? ⟨w.heap.size, 0, none⟩ = some (.int .i64 room) := b0p.cell 0; have p1 : W.cell? ⟨w.heap.size, 1, none⟩ = some (.slice A M.length c) := b0p.cell 1; have p2 : W.cell? ⟨w.heap.size, 2, none⟩ = some (.slice D T.length d) := b0p.cell 2; have p3 : W.cell? ⟨w.heap.size, 3, none⟩ = some (.slice C n e) := b0p.cell 3; have pl := b0p.lt; have x_0 : W.cell? ⟨w.heap.size + 1, 0, none⟩ = some (.int .i64 x0) := b0x.cell 0; have x_1 : W.cell? ⟨w.heap.size + 1, 1, none⟩ = some (.int .i64 x1) := b0x.cell 1; have x_2 : W.cell? ⟨w.heap.size + 1, 2, none⟩ = some (.int .i64 x2) := b0x.cell 2; have x_3 : W.cell? ⟨w.heap.size + 1, 3, none⟩ = some (.int .i64 x3) := b0x.cell 3; have x_4 : W.cell? ⟨w.heap.size + 1, 4, none⟩ = some (.int .i64 x4) := b0x.cell 4; have x_l := b0x.lt
  have HL : Hid (∀ wx, Below w.heap.size w wx → Calls Try.prog 14 #[.agg #[.int .i64 room, .slice A M.length c, .slice D T.length d, .slice C n e]] wx fun en w' => en = .returned (.int .i64 (cntT T : Nat)) ∧ Below wx.heap.size wx w') := Lib.hid (fun wx hb => by have := r_Len room ((h.more hB).step hb) hl; rw [List.length_append, hkF] at this; rw [hn]; exact this)
  have HRP : Hid (∀ wx, Below w.heap.size w wx → RPool wx wx.heap.size A c M D d T C e (F ++ [(i : Int) + 1])) := Lib.hid (fun wx hb => (h.more hB).step hb)
  have HF : Hid (∀ n, Fresh Pr n A ∧ Fresh Pr n D ∧ Fresh Pr n C) := Lib.hid (fun n => ⟨fun b f e => .inl (hq.1 b f e), fun b f e => .inl (hq.2.1 b f e), fun b f e => .inl (hq.2.2 b f e)⟩)
  have HPL := Lib.hid hpl
  have HBB := Lib.hid hB
  show Calls Try.prog 24 #[.agg #[.int .i64 room, .slice A M.length c, .slice D T.length d, .slice C n e], .agg #[.int .i64 x0, .int .i64 x1, .int .i64 x2, .int .i64 x3, .int .i64 x4]] w _
  have HM := Lib.hid hm
  have hB2 := hB
  have HCAP : Hid (k + 1 ≤ e) := Lib.hid (by have := h.cap; rw [List.length_append, hkF] at this; exact this)
  obtain ⟨fb, fo, rfl, hfb, hfc⟩ := h.free.out (by rw [inC_len, List.length_append]; exact Nat.succ_pos _)
  have HFC : Hid (∀ wx, Below w.heap.size w wx → wx.cell? ⟨fb, fo + k, none⟩ = some (.int .i64 ((i : Int) + 1))) := Lib.hid (fun wx hb => (hb.cell (p := ⟨fb, fo + k, none⟩) (by show fb < w.heap.size; omega)).trans (hfc k _ (by rw [← hkF]; unfold inC; simp)))
  have hiM : i < M.length := by omega
  have HP : Hid (∀ wx A' c' D' d' C' e', RowG wx wx.heap.size A' c' (ndCells M) → Calls Try.prog 28 #[.agg #[.int .i64 room, .slice A' M.length c', .slice D' T.length d', .slice C' k e'], .agg #[.int .i64 ((i : Int) + 1), .int .i64 x1, .int .i64 x2, .int .i64 x3, .int .i64 x4]] wx (PutG wx room (M.set i ⟨(i : Int) + 1, x1, x2, x3, x4⟩) D' d' T.length C' e' k)) := Lib.hid (fun wx A' c' D' d' C' e' hR => r_put room T.length k hR (by omega) i hiM x1 x2 x3 x4)
  have HI := Lib.hid hi
  have h0 : (0 : Int) ≤ (i : Int) := by omega
  have h1 : (i : Int) < (T.length : Int) := by omega
  obtain ⟨g0, g1⟩ := wr_small hi hl
  obtain ⟨g2, g3⟩ : wrap64 ((n : Int) - 1) = (k : Int) ∧ IntKind.i64.wrap ((n : Int) - 1) = (k : Int) := by
    have e1 : (n : Int) - 1 = (k : Int) := by omega
    rw [e1]; exact wr_small (Nat.lt_succ_self k) (n := k + 1) (by omega)
  have c1 : (k : Int) ≤ (e : Int) := by have := HCAP.out; omega
  have c3 : (0 : Int) ≤ (k : Int) := by omega
  have c4' : (k : Int) < (n : Int) := by omega
  have HFL : Hid (k ≤ 1000000) := Lib.hid (by omega)
  have HKF := Lib.hid hkF
  clear hpl hq h hB hW hX hws b0 b0p b0x hi hm hiM hfc hkF hn hfl hB2 hfb
  go_enter Try.func24, Try.ntmps24
  go_upto_region 1 with (go_at_call 999)
  rw [HWW.out]
  have HBD : Hid (Below w.heap.size w W.drew) := Lib.hid HBW.out.drew
  go_region_held3 (fun wx => wx.cell? ⟨w.heap.size, 0, none⟩ = some (.int .i64 room) ∧ wx.cell? ⟨w.heap.size, 1, none⟩ = some (.slice A M.length c) ∧ wx.cell? ⟨w.heap.size, 2, none⟩ = some (.slice D T.length d) ∧ wx.cell? ⟨w.heap.size, 3, none⟩ = some (.slice (some ⟨fb, fo, none⟩) n e)) (first
      | exact ⟨q0, q1, q2, q3⟩
      | exact ⟨p0, p1, p2, p3⟩
      | go_keep) (first
      | (go_at_call 14; (with_reducible refine (HL.out _ HBD.out).mono ?_); rintro en w1 ⟨rfl, hb1⟩; have hb1 := ((Below.refl W.heap.size W).drew).trans hb1; have b1 := HX.out _ hb1; have b1p := b1.p; have q0 : w1.cell? ⟨w.heap.size, 0, none⟩ = some (.int .i64 room) := b1p.cell 0; have q1 : w1.cell? ⟨w.heap.size, 1, none⟩ = some (.slice A M.length c) := b1p.cell 1; have q2 : w1.cell? ⟨w.heap.size, 2, none⟩ = some (.slice D T.length d) := b1p.cell 2; have q3 : w1.cell? ⟨w.heap.size, 3, none⟩ = some (.slice (some ⟨fb, fo, none⟩) n e) := b1p.cell 3; have ql := b1p.lt; have HB1 := Lib.hid hb1; clear hb1 b1 b1p))
  all_goals
    have HE : Hid ((w1.alloc (.cells #[] 4)).ownsRow w1.heap.size 4 1 (.slice (some ⟨w1.heap.size, 0, none⟩) 0 0) 0 []) := Lib.hid (World.ownsRow_made w1 #[] 0 (Nat.le_refl _) (Nat.zero_le _) rfl)
    have HT : Hid (RowG (w1.alloc (.cells #[] 4)) (w1.alloc (.cells #[] 4)).heap.size D d (tkC T)) := Lib.hid ((HRP.out w1 (HX.out _ HB1.out).b).taken.step (bal _ _))
    clear p0 p1 p2 p3 pl x_0 x_1 x_2 x_3 x_4 x_l
    go_upto_region 4 with (at_builtin; (refine wpList_app_row rfl (.tmp 15) (.tmp 17) 29 rfl w1.heap.size 4 i4 _ 1 1 Try.underlying29 hi4 hy0 hy1 hy2 rfl (by decide) _ _ 0 [] rfl HE.out D T.length d _ (tkC T) rfl HT.out (by rw [tkC_len, Nat.mul_one]) (tkC_one _) (max_fits1 (by omega)).1 (max_fits1 (by omega)).2.1 (by simp) ?_); intro v4 w4 hO4 hb4; rw [Nat.zero_add, List.nil_append] at hO4; obtain ⟨A4, c4, e4, _⟩ := RowG.own (by decide) hO4; subst e4; have HO4 := Lib.hid hO4; have HB4 := Lib.hid (HB1.out.trans (((bal w1 (.cells #[] 4)).trans hb4).mono HB1.out.size)); have HZ4 := Lib.hid HB1.out.size; clear hO4 hb4)
    have hO := HO4.out
    obtain ⟨g, rfl⟩ := own_some hO HI.out
    have hgl := World.ownsRow.lt hO g rfl
    have HG1 := Lib.hid hgl.1
    have b4 := HX.out w4 HB4.out
    have b4p := b4.p; have b4x := b4.x
    have hsz4 := b4.b
    have r3 : w4.cell? ⟨w.heap.size, 3, none⟩ = some (.slice (some ⟨fb, fo, none⟩) n e) := b4p.cell 3
    have rl := b4p.lt
    have rf := HFC.out w4 hsz4
    have rx := b4x.frozen 0
    have rx0 : w4.cell? ⟨w.heap.size + 1, 0, none⟩ = some (.int .i64 x0) := b4x.cell 0
    have rxl := b4x.lt
    clear q0 q1 q2 q3 ql hO hgl b4 b4p b4x hsz4
    go_upto_region 7 with (fail)
    obtain ⟨w5, hw5⟩ : ∃ w5, w4.setCell ⟨w.heap.size + 1, 0, none⟩ (.int .i64 ((i : Int) + 1)) = w5 := ⟨_, rfl⟩
    rw [hw5]
    have b4 := HX.out w4 HB4.out
    have k5x : Blk w5 (w.heap.size + 1) 38 #[.int .i64 ((i : Int) + 1), .int .i64 x1, .int .i64 x2, .int .i64 x3, .int .i64 x4] := by rw [← hw5]; exact b4.x.set_ 0 _
    have k5p : Blk w5 w.heap.size 32 #[.int .i64 room, .slice A M.length c, .slice D T.length d, .slice (some ⟨fb, fo, none⟩) n e] := by rw [← hw5]; exact (set_blk1 _ _ _ (by omega)).trans b4.p
    have k5z : Blk w5 (w.heap.size + 1 + 1) 32 #[.int .i64 0, .slice none 0 0, .slice none 0 0, .slice none 0 0] := by rw [← hw5]; exact (set_blk1 _ _ _ (by omega)).trans b4.z
    have hb5 : Below w.heap.size w w5 := by rw [← hw5]; exact b4.b.setCell (by show w.heap.size ≤ w.heap.size + 1; omega) _
    have hO5 := own_set_other HO4.out (g := w.heap.size + 1) (fun e => by have h3 := (own_row HO4.out _ e).1; have h4 := HZ4.out; have h5 := HWS.out; omega) 0 (.int .i64 ((i : Int) + 1))
    rw [hw5] at hO5
    obtain ⟨⟨x, _, z0⟩, f0, ⟨_, hg2⟩, hO6⟩ := own_set1 hO5 HI.out (.bool true)
    rw [tkC_set] at hO6
    obtain ⟨w6, hw6⟩ : ∃ w6, w5.setCell ⟨g, i, none⟩ (.bool true) = w6 := ⟨_, rfl⟩
    rw [hw6] at hO6
    have hgw : w.heap.size + 1 + 1 < g := by have h3 := HG1.out; have h4 := HZ4.out; have h5 := HWS.out; omega
    have HGW := Lib.hid hgw
    have HG2 := Lib.hid hg2
    have k6x : Blk w6 (w.heap.size + 1) 38 #[.int .i64 ((i : Int) + 1), .int .i64 x1, .int .i64 x2, .int .i64 x3, .int .i64 x4] := by rw [← hw6]; exact (set_blk1 _ _ _ (by omega)).trans k5x
    have k6p : Blk w6 w.heap.size 32 #[.int .i64 room, .slice A M.length c, .slice D T.length d, .slice (some ⟨fb, fo, none⟩) n e] := by rw [← hw6]; exact (set_blk1 _ _ _ (by omega)).trans k5p
    have k6z : Blk w6 (w.heap.size + 1 + 1) 32 #[.int .i64 0, .slice none 0 0, .slice none 0 0, .slice none 0 0] := by rw [← hw6]; exact (set_blk1 _ _ _ (by omega)).trans k5z
    have hb6 : Below w.heap.size w w6 := by rw [← hw6]; exact hb5.setCell (by show w.heap.size ≤ g; omega) _
    have y0 : w5.cell? ⟨w.heap.size + 1, 0, none⟩ = some (.int .i64 ((i : Int) + 1)) := k5x.cell 0
    have yl := k5x.lt
    have HW5 := Lib.hid hw5
    have HW6 := Lib.hid hw6
    have HO6 := Lib.hid hO6
    have K6X := Lib.hid k6x
    have K6P := Lib.hid k6p
    have K6Z := Lib.hid k6z
    have HB6 := Lib.hid hb6
    clear b4 k5x k5p k5z hb5 hO5 hO6 hw5 hw6 hgw k6x k6p k6z hb6 r3 rl rf rx rx0 rxl
    go_upto_region 8 with (fail)
    rw [HW6.out]
    clear y0 yl z0 f0 hg2
    have s2 : w6.cell? ⟨w.heap.size, 2, none⟩ = some (.slice D T.length d) := K6P.out.cell 2
    have s2f := K6P.out.frozen 2
    have s2l := K6P.out.lt
    go_upto_region 9 with (fail)
    obtain ⟨w7, hw7⟩ : ∃ w7, w6.setCell ⟨w.heap.size, 2, none⟩ (.slice (some ⟨g, 0, none⟩) T.length c4) = w7 := ⟨_, rfl⟩
    rw [hw7]
    have k7p : Blk w7 w.heap.size 32 #[.int .i64 room, .slice A M.length c, .slice (some ⟨g, 0, none⟩) T.length c4, .slice (some ⟨fb, fo, none⟩) n e] := by rw [← hw7]; exact K6P.out.set_ 2 _
    have k7x : Blk w7 (w.heap.size + 1) 38 #[.int .i64 ((i : Int) + 1), .int .i64 x1, .int .i64 x2, .int .i64 x3, .int .i64 x4] := by rw [← hw7]; exact (set_blk1 _ _ _ (by omega)).trans K6X.out
    have k7z : Blk w7 (w.heap.size + 1 + 1) 32 #[.int .i64 0, .slice none 0 0, .slice none 0 0, .slice none 0 0] := by rw [← hw7]; exact (set_blk1 _ _ _ (by omega)).trans K6Z.out
    have hb7 : Below w.heap.size w w7 := by rw [← hw7]; exact HB6.out.setCell (Nat.le_refl _) _
    have hs7 : w7.heap.size = w6.heap.size := by rw [← hw7]; simp
    have HR7 : Hid (RowG w7 w7.heap.size (some ⟨g, 0, none⟩) c4 (tkC (T.set i true))) := Lib.hid (by
      obtain ⟨A5, c5, e5, hR5⟩ := RowG.own (by decide) HO6.out
      cases e5
      exact (hR5.blocks (fun b f e => by cases e; rw [← hw7]; exact set_blk1 _ _ _ (by have := HGW.out; omega))).more (by omega))
    have HE7 : Hid ((w7.alloc (.cells #[] 3)).ownsRow w7.heap.size 3 1 (.slice (some ⟨w7.heap.size, 0, none⟩) 0 0) 0 []) := Lib.hid (World.ownsRow_made w7 #[] 0 (Nat.le_refl _) (Nat.zero_le _) rfl)
    have HT7 : Hid (RowG (w7.alloc (.cells #[] 3)) (w7.alloc (.cells #[] 3)).heap.size (some ⟨fb, fo, none⟩) e (inC F)) := Lib.hid (by
      have h3 := ((HRP.out w7 hb7).free.step (bal w7 (.cells #[] 3))).take (by rw [inC_len, List.length_append]; exact Nat.succ_pos _) k
      have h4 : (inC (F ++ [(i : Int) + 1])).take k = inC F := by unfold inC; rw [List.map_append]; exact List.take_left' (by simp [HKF.out])
      rw [h4] at h3; exact h3)
    have t3 : w7.cell? ⟨w.heap.size, 3, none⟩ = some (.slice (some ⟨fb, fo, none⟩) n e) := k7p.cell 3
    have tl := k7p.lt
    have K7P := Lib.hid k7p
    have K7X := Lib.hid k7x
    have K7Z := Lib.hid k7z
    have HB7 := Lib.hid hb7
    clear s2 s2f s2l hw7 k7p k7x k7z hb7 hs7
    go_upto_region 10 with (at_builtin; (refine wpList_app_row rfl (.tmp 38) (.tmp 42) 30 rfl w7.heap.size 3 i3 _ 1 8 Try.underlying30 hi3 hx0 hx1 hx2 rfl (by decide) _ _ 0 [] rfl HE7.out (some ⟨fb, fo, none⟩) k e _ (inC F) rfl HT7.out (by rw [inC_len, Nat.mul_one]; exact HKF.out) (inC_one _) (max_fits1 (by have := HFL.out; omega)).1 (max_fits1 (by have := HFL.out; omega)).2.2 (by simp) ?_); intro v8 w8 hO8 hb8; rw [Nat.zero_add, List.nil_append] at hO8; obtain ⟨A8, c8, e8, _⟩ := RowG.own (by decide) hO8; subst e8; have hb87 := (bal w7 (.cells #[] 3)).trans hb8; have b8 := K7P.out.below hb87 K7P.out.lt; have u3 : w8.cell? ⟨w.heap.size, 3, none⟩ = some (.slice (some ⟨fb, fo, none⟩) n e) := b8.cell 3; have u3f := b8.frozen 3; have u3l := b8.lt; have K8P := Lib.hid b8; have HO8 := Lib.hid hO8; have HB8 := Lib.hid hb87; clear hO8 hb8 hb87 b8)
    obtain ⟨w9, hw9⟩ : ∃ w9, w8.setCell ⟨w.heap.size, 3, none⟩ (.slice A8 k c8) = w9 := ⟨_, rfl⟩
    rw [hw9]
    have k9p : Blk w9 w.heap.size 32 #[.int .i64 room, .slice A M.length c, .slice (some ⟨g, 0, none⟩) T.length c4, .slice A8 k c8] := by rw [← hw9]; exact K8P.out.set_ 3 _
    have k9x : Blk w9 (w.heap.size + 1) 38 #[.int .i64 ((i : Int) + 1), .int .i64 x1, .int .i64 x2, .int .i64 x3, .int .i64 x4] := by rw [← hw9]; exact (set_blk1 _ _ _ (by omega)).trans (K7X.out.below HB8.out K7X.out.lt)
    have k9z : Blk w9 (w.heap.size + 1 + 1) 32 #[.int .i64 0, .slice none 0 0, .slice none 0 0, .slice none 0 0] := by rw [← hw9]; exact (set_blk1 _ _ _ (by omega)).trans (K7Z.out.below HB8.out K7Z.out.lt)
    have hb9 : Below w.heap.size w w9 := by rw [← hw9]; exact (HB7.out.trans (HB8.out.mono HB7.out.size)).setCell (Nat.le_refl _) _
    have hs9 : w9.heap.size = w8.heap.size := by rw [← hw9]; simp
    have HR9 : Hid (RowG w9 w9.heap.size (some ⟨g, 0, none⟩) c4 (tkC (T.set i true))) := Lib.hid (((HR7.out.step HB8.out).blocks (fun b f e => by cases e; rw [← hw9]; exact set_blk1 _ _ _ (by have := HGW.out; omega))).more (by omega))
    have HQ8 : Hid (∀ b f, A8 = some ⟨b, f, none⟩ → w7.heap.size ≤ b) := Lib.hid (fun b f e => (World.ownsRow.lt HO8.out b (by rw [e]; rfl)).1)
    have HF9 : Hid (RowG w9 w9.heap.size A8 c8 (inC F)) := Lib.hid (by
      obtain ⟨A5, c5, e5, hR5⟩ := RowG.own (by decide) HO8.out
      cases e5
      exact (hR5.blocks (fun b f e => by have h3 := HQ8.out b f e; have h4 := K7P.out.lt; rw [← hw9]; exact set_blk1 _ _ _ (by omega))).more (by omega))
    have HC9 : Hid (F.length ≤ c8) := Lib.hid (by have := own_cap HO8.out; have := HKF.out; omega)
    have HS9 : Hid (w.heap.size + 1 + 1 < w9.heap.size ∧ w.heap.size + 1 + 1 < w7.heap.size) := Lib.hid ⟨k9z.lt, K7Z.out.lt⟩
    have HX9 : Hid (∀ wx, Below w9.heap.size w9 wx → Blk wx w.heap.size 32 #[.int .i64 room, .slice A M.length c, .slice (some ⟨g, 0, none⟩) T.length c4, .slice A8 k c8] ∧ Blk wx (w.heap.size + 1) 38 #[.int .i64 ((i : Int) + 1), .int .i64 x1, .int .i64 x2, .int .i64 x3, .int .i64 x4] ∧ Blk wx (w.heap.size + 1 + 1) 32 #[.int .i64 0, .slice none 0 0, .slice none 0 0, .slice none 0 0] ∧ Below w.heap.size w wx) := Lib.hid (fun wx h => ⟨k9p.below h k9p.lt, k9x.below h k9x.lt, k9z.below h k9z.lt, bt hb9 h⟩)
    have HPC : Hid (Calls Try.prog 28 #[.agg #[.int .i64 room, .slice A M.length c, .slice (some ⟨g, 0, none⟩) T.length c4, .slice A8 k c8], .agg #[.int .i64 ((i : Int) + 1), .int .i64 x1, .int .i64 x2, .int .i64 x3, .int .i64 x4]] w9.drew (PutG w9.drew room (M.set i ⟨(i : Int) + 1, x1, x2, x3, x4⟩) (some ⟨g, 0, none⟩) c4 T.length A8 c8 k)) := Lib.hid (HP.out w9.drew A c (some ⟨g, 0, none⟩) c4 A8 c8 (HRP.out _ hb9.drew).nodes)
    have pn0 : w9.cell? ⟨w.heap.size, 0, none⟩ = some (.int .i64 room) := k9p.cell 0; have pn1 : w9.cell? ⟨w.heap.size, 1, none⟩ = some (.slice A M.length c) := k9p.cell 1; have pn2 : w9.cell? ⟨w.heap.size, 2, none⟩ = some (.slice (some ⟨g, 0, none⟩) T.length c4) := k9p.cell 2; have pn3 : w9.cell? ⟨w.heap.size, 3, none⟩ = some (.slice A8 k c8) := k9p.cell 3; have pnl := k9p.lt; have xn0 : w9.cell? ⟨w.heap.size + 1, 0, none⟩ = some (.int .i64 ((i : Int) + 1)) := k9x.cell 0; have xn1 : w9.cell? ⟨w.heap.size + 1, 1, none⟩ = some (.int .i64 x1) := k9x.cell 1; have xn2 : w9.cell? ⟨w.heap.size + 1, 2, none⟩ = some (.int .i64 x2) := k9x.cell 2; have xn3 : w9.cell? ⟨w.heap.size + 1, 3, none⟩ = some (.int .i64 x3) := k9x.cell 3; have xn4 : w9.cell? ⟨w.heap.size + 1, 4, none⟩ = some (.int .i64 x4) := k9x.cell 4; have xnl := k9x.lt
    have hne : w.heap.size ≠ w.heap.size + 1 + 1 := by omega
    have hnx : w.heap.size + 1 ≠ w.heap.size + 1 + 1 := by omega
    clear u3 u3f u3l t3 tl hw9 k9p k9x k9z hb9 hs9
    go_region_held3 (fun wx => wx.cell? ⟨w.heap.size, 0, none⟩ = some (.int .i64 room) ∧ wx.cell? ⟨w.heap.size, 1, none⟩ = some (.slice A M.length c) ∧ wx.cell? ⟨w.heap.size, 2, none⟩ = some (.slice (some ⟨g, 0, none⟩) T.length c4) ∧ wx.cell? ⟨w.heap.size, 3, none⟩ = some (.slice A8 k c8) ∧ wx.cell? ⟨w.heap.size + 1, 0, none⟩ = some (.int .i64 ((i : Int) + 1)) ∧ wx.cell? ⟨w.heap.size + 1, 1, none⟩ = some (.int .i64 x1) ∧ wx.cell? ⟨w.heap.size + 1, 2, none⟩ = some (.int .i64 x2) ∧ wx.cell? ⟨w.heap.size + 1, 3, none⟩ = some (.int .i64 x3) ∧ wx.cell? ⟨w.heap.size + 1, 4, none⟩ = some (.int .i64 x4)) (first
      | exact ⟨n0, n1, n2, n3, m0, m1, m2, m3, m4⟩
      | exact ⟨pn0, pn1, pn2, pn3, xn0, xn1, xn2, xn3, xn4⟩
      | exact ⟨(cell_set4 _ hne _ _ _ _ _).trans n0, (cell_set4 _ hne _ _ _ _ _).trans n1, (cell_set4 _ hne _ _ _ _ _).trans n2, (cell_set4 _ hne _ _ _ _ _).trans n3, (cell_set4 _ hnx _ _ _ _ _).trans m0, (cell_set4 _ hnx _ _ _ _ _).trans m1, (cell_set4 _ hnx _ _ _ _ _).trans m2, (cell_set4 _ hnx _ _ _ _ _).trans m3, (cell_set4 _ hnx _ _ _ _ _).trans m4⟩
      | go_keep) (first
      | (go_at_call 28; (with_reducible refine HPC.out.mono ?_); rintro en w10 ⟨A2, cc2, rfl, hR2, hF2, hb2⟩; have hb2 := ((Below.refl w9.heap.size w9).drew).trans hb2; obtain ⟨v10p, v10x, v10z, hb10⟩ := HX9.out _ hb2; have n0 : w10.cell? ⟨w.heap.size, 0, none⟩ = some (.int .i64 room) := v10p.cell 0; have n1 : w10.cell? ⟨w.heap.size, 1, none⟩ = some (.slice A M.length c) := v10p.cell 1; have n2 : w10.cell? ⟨w.heap.size, 2, none⟩ = some (.slice (some ⟨g, 0, none⟩) T.length c4) := v10p.cell 2; have n3 : w10.cell? ⟨w.heap.size, 3, none⟩ = some (.slice A8 k c8) := v10p.cell 3; have nl := v10p.lt; have m0 : w10.cell? ⟨w.heap.size + 1, 0, none⟩ = some (.int .i64 ((i : Int) + 1)) := v10x.cell 0; have m1 : w10.cell? ⟨w.heap.size + 1, 1, none⟩ = some (.int .i64 x1) := v10x.cell 1; have m2 : w10.cell? ⟨w.heap.size + 1, 2, none⟩ = some (.int .i64 x2) := v10x.cell 2; have m3 : w10.cell? ⟨w.heap.size + 1, 3, none⟩ = some (.int .i64 x3) := v10x.cell 3; have m4 : w10.cell? ⟨w.heap.size + 1, 4, none⟩ = some (.int .i64 x4) := v10x.cell 4; have ml := v10x.lt; have zz0 : w10.cell? ⟨w.heap.size + 1 + 1, 0, none⟩ = some (.int .i64 0) := v10z.cell 0; have zzf0 := v10z.frozen 0; have zz1 : w10.cell? ⟨w.heap.size + 1 + 1, 1, none⟩ = some (.slice none 0 0) := v10z.cell 1; have zzf1 := v10z.frozen 1; have zz2 : w10.cell? ⟨w.heap.size + 1 + 1, 2, none⟩ = some (.slice none 0 0) := v10z.cell 2; have zzf2 := v10z.frozen 2; have zz3 : w10.cell? ⟨w.heap.size + 1 + 1, 3, none⟩ = some (.slice none 0 0) := v10z.cell 3; have zzf3 := v10z.frozen 3; have zzl := v10z.lt; have V10 := Lib.hid v10z; have HR2 := Lib.hid hR2; have HF2 := Lib.hid hF2; have HB2 := Lib.hid hb2; have HB10 := Lib.hid hb10; clear v10p v10x v10z hR2 hF2 hb2 hb10))
  all_goals go_wp2
  all_goals
    have h3 := HS9.out
    have h4 := HBB.out
    have h7 := HGW.out
    refine bodyPost_ret (res_rp3 rfl _ _ (w.heap.size + 1 + 1) _ _ _ _ rfl ((((V10.out.set_ 0 _).set_ 1 _).set_ 2 _).set_ 3 _)) rfl ⟨A2, cc2, some ⟨g, 0, none⟩, c4, A8, c8, by rw [List.length_set, List.length_set, HKF.out]; rfl, ⟨HR2.out.put (Pr := Pr) (n := w9.heap.size) (fun b f e => .inr (HF2.out b f e)) (fun b hb => by have := HPL.out b hb; omega) (by omega) _ _ _ _, (HR9.out.step HB2.out).put (Pr := Pr) (n := w.heap.size + 1 + 1 + 1) (fun b f e => .inr (by cases e; omega)) (fun b hb => by have := HPL.out b hb; omega) (by omega) _ _ _ _, (HF9.out.step HB2.out).put (Pr := Pr) (n := w.heap.size + 1 + 1 + 1) (fun b f e => .inr (by have := HQ8.out b f e; omega)) (fun b hb => by have := HPL.out b hb; omega) (by omega) _ _ _ _, HC9.out⟩, ⟨fun b f e => .inr (by have := HF2.out b f e; have h8 : w9.drew.heap.size = w9.heap.size := rfl; omega), fun b f e => .inr (by cases e; omega), fun b f e => .inr (by have := HQ8.out b f e; omega)⟩, below_set4 HB10.out (by omega) _ _ _ _⟩
end
end Go.Proofs.Ytljclikholchmaa
