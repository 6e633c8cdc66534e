/- The specification's Give; layer 9 (pool). -/
import Derived.Test.YtljclikholchmaaRf
namespace Go.Proofs.Ytljclikholchmaa
open Go.RowKit

theorem own_set1 {w : World} {base g n cap : Nat} {e : TypeId} {xs : List Value} (h : w.ownsRow base e 1 (.slice (some ⟨g, 0, none⟩) n cap) n xs) {i : Nat} (hi : i < n) (u : Value) :
    (∃ x, xs[i]? = some x ∧ w.cell? ⟨g, i, none⟩ = some x) ∧ w.frozen? ⟨g, i, none⟩ = false ∧ (base ≤ g ∧ g < w.heap.size) ∧ (w.setCell ⟨g, i, none⟩ u).ownsRow base e 1 (.slice (some ⟨g, 0, none⟩) n cap) n (xs.set i u) := by
  have hlt := World.ownsRow.lt h g rfl
  obtain ⟨h1, h2⟩ := h
  rcases h2 with ⟨hv, _⟩ | ⟨g2, cap2, cur, hv, hg, hh, hn, hc, hsz, htk⟩
  · cases hv
  · simp only [Value.slice.injEq, Option.some.injEq, Addr.mk.injEq, and_true] at hv
    obtain ⟨rfl, _, rfl⟩ := hv
    have hB : Blk w g e cur := hh
    have hxi : i < xs.length := by omega
    refine ⟨⟨xs[i], List.getElem?_eq_getElem hxi, ?_⟩, hB.frozen i, hlt, ?_⟩
    · rw [hB.cell, ← Array.getElem?_toList]
      have h3 : xs[i]? = some xs[i] := List.getElem?_eq_getElem hxi
      conv at h3 => lhs; rw [← htk]
      rw [List.getElem?_take_of_lt (by omega)] at h3
      exact h3
    · have hB2 := hB.set_ i u
      refine ⟨by simpa using h1, .inr ⟨g, cap, _, rfl, hg, hB2, hn, hc, by simpa using hsz, ?_⟩⟩
      simp only [Array.toList_setIfInBounds]
      rw [List.take_set, htk]
theorem own_cap {w : World} {base n cap : Nat} {A : Option Addr} {e : TypeId} {size : Nat} {xs : List Value} (h : w.ownsRow base e size (.slice A n cap) n xs) : n ≤ cap := by
  rcases h.2 with ⟨hv, _⟩ | ⟨g2, cap2, cur, hv, hg, hh, hn, hc, hsz, htk⟩
  · cases hv; omega
  · cases hv; exact hn
theorem wr_small {i n : Nat} (h : i < n) (hn : n ≤ 1000000) : wrap64 (i : Int) = (i : Int) ∧ IntKind.i64.wrap (i : Int) = (i : Int) :=
  ⟨by unfold wrap64; omega, IntWalk.i64_in _ (by omega)⟩
theorem tkC_set (T : List Bool) (i : Nat) (b : Bool) : (tkC T).set i (.bool b) = tkC (T.set i b) := by unfold tkC; simp
theorem inC_app (F : List Int) (x : Int) : inC F ++ [.int .i64 x] = inC (F ++ [x]) := by unfold inC; simp
theorem max_fits1 {n m : Nat} (h : n + m ≤ 3000000) : n + m ≤ maxLen ∧ (n + m) * 1 ≤ 140737488355328 ∧ (n + m) * 8 ≤ 140737488355328 := by
  unfold maxLen; omega
/-- The two boxes with which Give begins. -/
structure Box2 (w : World) (p : Array Value) (wx : World) : Prop where
  p : Blk wx w.heap.size 32 p
  z : Blk wx (w.heap.size + 1) 32 #[.int .i64 0, .slice none 0 0, .slice none 0 0, .slice none 0 0]
  b : Below w.heap.size w wx
theorem box2 (w : World) (p : Array Value) {W : World} (hW : (w.alloc (.cells p 32)).alloc (.cells #[.int .i64 0, .slice none 0 0, .slice none 0 0, .slice none 0 0] 32) = W) : W.heap.size = w.heap.size + 1 + 1 ∧ ∀ wx, Below W.heap.size W wx → Box2 w p wx := by
  have blk : ∀ (w : World) (g : Nat) (ty : TypeId) (cs : Array Value), w.heap.size = g → Blk (w.alloc (.cells cs ty)) g ty cs := fun w g ty cs e => by rw [← e]; exact Blk.new w ty cs
  have hb : Below w.heap.size w W := by rw [← hW]; exact al (bal _ _) _
  have k1 : Blk W w.heap.size 32 p := by rw [← hW]; exact (blk _ _ _ _ rfl).alloc _
  have k3 : Blk W (w.heap.size + 1) 32 #[.int .i64 0, .slice none 0 0, .slice none 0 0, .slice none 0 0] := by rw [← hW]; exact blk _ _ _ _ (by simp)
  exact ⟨by rw [← hW]; simp, fun wx h => ⟨k1.below h k1.lt, k3.below h k3.lt, bt hb h⟩⟩
section
variable {w w' : World} {B : Nat} {A D C : Option Addr} {c d e : Nat} {M : List Nd} {T : List Bool} {F : List Int}
set_option maxRecDepth 100000 in
set_option maxHeartbeats 4000000 in
theorem r_Give (room id : Int) (h : RPool w B A c M D d T C e F) {Pr : Nat → Prop} (hq : Own3 Pr A D C) (hpl : ∀ b, Pr b → b < w.heap.size) (hB : B ≤ w.heap.size) (hl : T.length ≤ 1000000) (hf : F.length ≤ 1000000) :
    Calls Try.prog 22 #[.agg (rpC room A c M.length D d T.length C e F.length), .int .i64 id] w (GivR2 w Pr room M (if hasT T id then T.set (id - 1).toNat false else T) (if hasT T id then F ++ [id] else F) (if hasT T id then 0 else 5)) := by
  obtain ⟨i4, hi4, hy0, hy1, hy2⟩ := info_parts info4
  obtain ⟨i3, hi3, hx0, hx1, hx2⟩ := info_parts info3
  obtain ⟨W, hW⟩ : ∃ W, (w.alloc (.cells #[.int .i64 room, .slice A M.length c, .slice D T.length d, .slice C F.length e] 32)).alloc (.cells #[.int .i64 0, .slice none 0 0, .slice none 0 0, .slice none 0 0] 32) = W := ⟨_, rfl⟩
  obtain ⟨hws, hX⟩ := box2 w _ hW
  have HX := Lib.hid hX
  have HWS := Lib.hid hws
  have HWW := Lib.hid hW
  have b0 := hX W (Below.refl _ _)
  have HBW := Lib.hid b0.b
  have b0p := b0.p
  have p0 : W.cell? ⟨w.heap.size, 0, none⟩ = some (.int .i64 room) := b0p.cell 0; have p1 : W.cell? ⟨w.heap.size, 1, none⟩ = some (.slice A M.length c) := b0p.cell 1; have p2 : W.cell? ⟨w.heap.size, 2, none⟩ = some (.slice D T.length d) := b0p.cell 2; have p3 : W.cell? ⟨w.heap.size, 3, none⟩ = some (.slice C F.length e) := b0p.cell 3; have pl := b0p.lt
  have HH : Hid (∀ wx, Below w.heap.size w wx → Calls Try.prog 26 #[.agg #[.int .i64 room, .slice A M.length c, .slice D T.length d, .slice C F.length e], .int .i64 id] wx fun en w' => en = .returned (.bool (hasT T id)) ∧ Below wx.heap.size wx w') := Lib.hid (fun wx hb => r_Has room id ((h.more hB).step hb) hl)
  have HRP : Hid (∀ wx, Below w.heap.size w wx → RPool wx wx.heap.size A c M D d T C e F) := Lib.hid (fun wx hb => (h.more hB).step hb)
  have HF : Hid (∀ n, Fresh Pr n A ∧ Fresh Pr n D ∧ Fresh Pr n C) := Lib.hid (fun n => ⟨fun b f e => .inl (hq.1 b f e), fun b f e => .inl (hq.2.1 b f e), fun b f e => .inl (hq.2.2 b f e)⟩)
  have HPL := Lib.hid hpl
  have HBB := Lib.hid hB
  show Calls Try.prog 22 #[.agg #[.int .i64 room, .slice A M.length c, .slice D T.length d, .slice C F.length e], .int .i64 id] w _
  clear hpl hq h hB hW hX hws b0 b0p
  by_cases hh : hasT T id = true
  · rw [hh] at HH
    rw [if_pos hh, if_pos hh, if_pos hh]
    unfold hasT at hh
    simp only [Bool.and_eq_true, decide_eq_true_eq] at hh
    obtain ⟨c1, c2, _⟩ := hh
    obtain ⟨i, rfl⟩ : ∃ i : Nat, id = (i : Int) + 1 := ⟨(id - 1).toNat, by omega⟩
    have hi : i < T.length := by omega
    have e3 : ((i : Int) + 1 - 1).toNat = i := by omega
    rw [e3]
    have h0 : (0 : Int) ≤ (i : Int) := by omega
    have h1 : (i : Int) < (T.length : Int) := by omega
    obtain ⟨g0, g1⟩ := wr_small hi hl
    have HI := Lib.hid hi
    clear e3 c1 c2 hi
    go_enter Try.func22, Try.ntmps22
    go_upto_region 1 with (go_at_call 999)
    rw [HWW.out]
    go_upto_region 3 with (go_at_call 26; (with_reducible refine (HH.out _ HBW.out).mono ?_); rintro en w1 ⟨rfl, hb1⟩; have b1 := HX.out _ hb1; have b1p := b1.p; have pp0 : w1.cell? ⟨w.heap.size, 0, none⟩ = some (.int .i64 room) := b1p.cell 0; have pp1 : w1.cell? ⟨w.heap.size, 1, none⟩ = some (.slice A M.length c) := b1p.cell 1; have pp2 : w1.cell? ⟨w.heap.size, 2, none⟩ = some (.slice D T.length d) := b1p.cell 2; have pp3 : w1.cell? ⟨w.heap.size, 3, none⟩ = some (.slice C F.length e) := b1p.cell 3; have ppl := b1p.lt; have HB1 := Lib.hid hb1; clear hb1 b1 b1p)
    have HE : Hid ((w1.alloc (.cells #[] 4)).ownsRow w1.heap.size 4 1 (.slice (some ⟨w1.heap.size, 0, none⟩) 0 0) 0 []) := Lib.hid (World.ownsRow_made w1 #[] 0 (Nat.le_refl _) (Nat.zero_le _) rfl)
    have HT : Hid (RowG (w1.alloc (.cells #[] 4)) (w1.alloc (.cells #[] 4)).heap.size D d (tkC T)) := Lib.hid ((HRP.out w1 (HX.out _ HB1.out).b).taken.step (bal _ _))
    go_upto_region 4 with (at_builtin; (refine wpList_app_row rfl (.tmp 12) (.tmp 14) 29 rfl w1.heap.size 4 i4 _ 1 1 Try.underlying29 hi4 hy0 hy1 hy2 rfl (by decide) _ _ 0 [] rfl HE.out D T.length d _ (tkC T) rfl HT.out (by rw [tkC_len, Nat.mul_one]) (tkC_one _) (max_fits1 (by omega)).1 (max_fits1 (by omega)).2.1 (by simp) ?_); intro v4 w4 hO4 hb4; rw [Nat.zero_add, List.nil_append] at hO4; obtain ⟨A4, c4, e4, _⟩ := RowG.own (by decide) hO4; subst e4; have HO4 := Lib.hid hO4; have HB4 := Lib.hid ((bal w1 (.cells #[] 4)).trans hb4); clear hO4 hb4)
    have hO := HO4.out
    obtain ⟨g, rfl⟩ : ∃ g, A4 = some ⟨g, 0, none⟩ := by
      rcases hO.2 with ⟨_, h0⟩ | ⟨g, cap, cur, hv, _⟩
      · have := HI.out; omega
      · cases hv; exact ⟨g, rfl⟩
    obtain ⟨⟨x, _, z0⟩, f0, ⟨hg1, hg2⟩, hO5⟩ := own_set1 hO HI.out (.bool false)
    rw [tkC_set] at hO5
    have HG1 := Lib.hid hg1
    have hz1 := HB1.out.size
    have HZ1 := Lib.hid hz1
    obtain ⟨w5, hw5⟩ : ∃ w5, w4.setCell ⟨g, i, none⟩ (.bool false) = w5 := ⟨_, rfl⟩
    rw [hw5] at hO5
    have b4 := HX.out w4 (bt HB1.out HB4.out)
    have hb5 : Below W.heap.size W w5 := by rw [← hw5]; exact (bt HB1.out HB4.out).setCell (by show W.heap.size ≤ g; omega) _
    have HO5 := Lib.hid hO5
    have HB5 := Lib.hid hb5
    have HW5 := Lib.hid hw5
    have hz5 : w5.heap.size = w4.heap.size := by rw [← hw5]; simp
    have HZ5 := Lib.hid hz5
    have HG2 := Lib.hid hg2
    clear hO hO5 hb5 hw5 b4 hg1 hz1 hz5
    go_upto_region 5 with (fail)
    rw [HW5.out]
    clear z0 f0 hg2
    have b5 := (HX.out w5 HB5.out).p
    have s2 : w5.cell? ⟨w.heap.size, 2, none⟩ = some (.slice D T.length d) := b5.cell 2
    have s2f := b5.frozen 2
    have s2l := b5.lt
    have K5 := Lib.hid b5
    clear b5
    go_upto_region 6 with (fail)
    obtain ⟨w6, hw6⟩ : ∃ w6, w5.setCell ⟨w.heap.size, 2, none⟩ (.slice (some ⟨g, 0, none⟩) T.length c4) = w6 := ⟨_, rfl⟩
    have k6 : Blk w6 w.heap.size 32 #[.int .i64 room, .slice A M.length c, .slice (some ⟨g, 0, none⟩) T.length c4, .slice C F.length e] := by rw [← hw6]; exact K5.out.set_ 2 _
    have hz6 : Blk w6 (w.heap.size + 1) 32 #[.int .i64 0, .slice none 0 0, .slice none 0 0, .slice none 0 0] := by rw [← hw6]; exact (set_blk1 _ _ _ (by omega)).trans (HX.out w5 HB5.out).z
    have hb6 : Below w.heap.size w w6 := by rw [← hw6]; exact (HX.out w5 HB5.out).b.setCell (Nat.le_refl _) _
    have hs6 : w6.heap.size = w5.heap.size := by rw [← hw6]; simp
    rw [hw6]
    have HW6 := Lib.hid hw6
    have HK6 := Lib.hid k6
    have HZ6 := Lib.hid hz6
    have HB6 := Lib.hid hb6
    have HS6 := Lib.hid hs6
    have t3 : w6.cell? ⟨w.heap.size, 3, none⟩ = some (.slice C F.length e) := k6.cell 3
    have tl := k6.lt
    have HE6 : Hid ((w6.alloc (.cells #[] 3)).ownsRow w6.heap.size 3 1 (.slice (some ⟨w6.heap.size, 0, none⟩) 0 0) 0 []) := Lib.hid (World.ownsRow_made w6 #[] 0 (Nat.le_refl _) (Nat.zero_le _) rfl)
    have HT6 : Hid (RowG (w6.alloc (.cells #[] 3)) (w6.alloc (.cells #[] 3)).heap.size C e (inC F)) := Lib.hid ((HRP.out w6 hb6).free.step (bal _ _))
    clear s2 s2f s2l hw6 k6 hz6 hb6 hs6
    go_upto_region 7 with (at_builtin; first
      | ((refine wpList_app_row rfl (.tmp 22) (.tmp 24) 30 rfl w6.heap.size 3 i3 _ 1 8 Try.underlying30 hi3 hx0 hx1 hx2 rfl (by decide) _ _ 0 [] rfl HE6.out C F.length e _ (inC F) rfl HT6.out (by rw [inC_len, Nat.mul_one]) (inC_one _) (max_fits1 (by omega)).1 (max_fits1 (by omega)).2.2 (by simp) ?_); intro v7 w7 hO7 hb7; rw [Nat.zero_add, List.nil_append] at hO7; obtain ⟨A7, c7, e7, _⟩ := RowG.own (by decide) hO7; subst e7; have HO7 := Lib.hid hO7; have HB7 := Lib.hid ((bal w6 (.cells #[] 3)).trans hb7); have HS7 := Lib.hid HB7.out.size; clear hO7 hb7)
      | ((refine wpList_app_row rfl (.tmp 25) (.tmp 27) 30 rfl w6.heap.size 3 i3 _ 1 8 Try.underlying30 hi3 hx0 hx1 hx2 rfl (by decide) _ _ F.length (inC F) rfl (own_keep HO7.out (bal _ _)) (some ⟨w7.heap.size, 0, none⟩) 1 1 _ [.int .i64 ((i : Int) + 1)] rfl (RowG.made (w := w7) (t := 3) 1) rfl (by simp [Value.oneCell']) (max_fits1 (by omega)).1 (max_fits1 (by omega)).2.2 (by have := HS7.out; simp; omega) ?_); intro v8 w8 hO8 hb8; rw [inC_app] at hO8; obtain ⟨A8, c8, e8, _⟩ := RowG.own (by decide) hO8; subst e8; have hb86 : Below w6.heap.size w6 w8 := (HB7.out.trans (((bal w7 (.cells #[.int .i64 ((i : Int) + 1)] 3)).mono HS7.out).trans hb8)); have b8 := HK6.out.below hb86 HK6.out.lt; have r3 : w8.cell? ⟨w.heap.size, 3, none⟩ = some (.slice C F.length e) := b8.cell 3; have r3f := b8.frozen 3; have r3l := b8.lt; have HK8 := Lib.hid b8; have HO8 := Lib.hid hO8; have HB8 := Lib.hid hb86; clear hO8 hb8 hb86 b8))
    obtain ⟨w9, hw9⟩ : ∃ w9, w8.setCell ⟨w.heap.size, 3, none⟩ (.slice A8 (F.length + 1) c8) = w9 := ⟨_, rfl⟩
    have k9 : Blk w9 w.heap.size 32 #[.int .i64 room, .slice A M.length c, .slice (some ⟨g, 0, none⟩) T.length c4, .slice A8 (F.length + 1) c8] := by rw [← hw9]; exact HK8.out.set_ 3 _
    have z8 := HZ6.out.below HB8.out HZ6.out.lt
    have z9 : Blk w9 (w.heap.size + 1) 32 #[.int .i64 0, .slice none 0 0, .slice none 0 0, .slice none 0 0] := by rw [← hw9]; exact (set_blk1 _ _ _ (by omega)).trans z8
    rw [hw9]
    have HW9 := Lib.hid hw9
    have p90 : w9.cell? ⟨w.heap.size, 0, none⟩ = some (.int .i64 room) := k9.cell 0; have p91 : w9.cell? ⟨w.heap.size, 1, none⟩ = some (.slice A M.length c) := k9.cell 1; have p92 : w9.cell? ⟨w.heap.size, 2, none⟩ = some (.slice (some ⟨g, 0, none⟩) T.length c4) := k9.cell 2; have p93 : w9.cell? ⟨w.heap.size, 3, none⟩ = some (.slice A8 (F.length + 1) c8) := k9.cell 3; have p9l := k9.lt
    have zn0 : w9.cell? ⟨w.heap.size + 1, 0, none⟩ = some (.int .i64 0) := z9.cell 0; have znf0 := z9.frozen 0; have zn1 : w9.cell? ⟨w.heap.size + 1, 1, none⟩ = some (.slice none 0 0) := z9.cell 1; have znf1 := z9.frozen 1; have zn2 : w9.cell? ⟨w.heap.size + 1, 2, none⟩ = some (.slice none 0 0) := z9.cell 2; have znf2 := z9.frozen 2; have zn3 : w9.cell? ⟨w.heap.size + 1, 3, none⟩ = some (.slice none 0 0) := z9.cell 3; have znf3 := z9.frozen 3; have znl := z9.lt
    have HZ9 := Lib.hid z9
    clear r3 r3f r3l t3 tl hw9 k9 z8 z9
    go_wp2
    have h2 := HBB.out
    have h3 := HZ1.out
    have h4 := HWS.out
    have h5 := HG1.out
    have h6 := HS6.out
    have h7 := HZ5.out
    have h8 := HB4.out.size
    have h9 := HB8.out.size
    have hgg := HG2.out
    have hbw9 : Below w.heap.size w w9 := by rw [← HW9.out]; exact (HB6.out.trans (HB8.out.mono HB6.out.size)).setCell (Nat.le_refl _) _
    have s9 : w9.heap.size = w8.heap.size := by rw [← HW9.out]; simp
    refine bodyPost_ret (res_rp rfl _ _ (w.heap.size + 1) _ _ _ _ rfl ((((HZ9.out.set_ 0 _).set_ 1 _).set_ 2 _).set_ 3 _)) rfl ⟨A, c, some ⟨g, 0, none⟩, c4, A8, c8, by rw [List.length_set, List.length_append]; rfl, ?_, ?_, below_set4 hbw9 (by omega) _ _ _ _⟩
    · have hf := HF.out (w.heap.size + 1 + 1)
      obtain ⟨A5, c5, e5, hR5⟩ := RowG.own (by decide) HO5.out
      cases e5
      obtain ⟨A6, c6, e6, hR8⟩ := RowG.own (by decide) HO8.out
      cases e6
      refine ⟨(HRP.out w9 hbw9).nodes.put hf.1 (fun b hb => by have := HPL.out b hb; omega) (by omega) _ _ _ _, RowG.put (Pr := Pr) (n := w.heap.size + 1 + 1) ?_ (fun b f e => .inr (by cases e; omega)) (fun b hb => by have := HPL.out b hb; omega) (by omega) _ _ _ _, RowG.put (Pr := Pr) (n := w.heap.size + 1 + 1) ?_ (fun b f e => .inr (by have := World.ownsRow.lt HO8.out b (by rw [e]; rfl); omega)) (fun b hb => by have := HPL.out b hb; omega) (by omega) _ _ _ _, by rw [List.length_append]; exact own_cap HO8.out⟩
      · have r6 : RowG w6 w6.heap.size (some ⟨g, 0, none⟩) c4 (tkC (T.set i false)) := (hR5.blocks (fun b f e => by cases e; rw [← HW6.out]; exact set_blk1 _ _ _ (by omega))).more (by omega)
        have r8 := r6.step HB8.out
        exact (r8.blocks (fun b f e => by cases e; rw [← HW9.out]; exact set_blk1 _ _ _ (by omega))).more (by omega)
      · exact (hR8.blocks (fun b f e => by have := World.ownsRow.lt HO8.out b (by rw [e]; rfl); rw [← HW9.out]; exact set_blk1 _ _ _ (by omega))).more (by omega)
    · exact ⟨(HF.out _).1, fun b f e => .inr (by cases e; omega), fun b f e => .inr (by have := World.ownsRow.lt HO8.out b (by rw [e]; rfl); omega)⟩
  · have hf2 : hasT T id = false := by simpa using hh
    rw [hf2] at HH
    rw [if_neg hh, if_neg hh, if_neg hh]
    clear hh hf2
    go_enter Try.func22, Try.ntmps22
    go_upto_region 1 with (go_at_call 999)
    rw [HWW.out]
    go_wp2_with (first
      | (go_at_call 26; (with_reducible refine (HH.out _ HBW.out).mono ?_); rintro en w1 ⟨rfl, hb1⟩; have b1 := HX.out _ hb1; have b1p := b1.p; have b1z := b1.z; have pp0 : w1.cell? ⟨w.heap.size, 0, none⟩ = some (.int .i64 room) := b1p.cell 0; have pp1 : w1.cell? ⟨w.heap.size, 1, none⟩ = some (.slice A M.length c) := b1p.cell 1; have pp2 : w1.cell? ⟨w.heap.size, 2, none⟩ = some (.slice D T.length d) := b1p.cell 2; have pp3 : w1.cell? ⟨w.heap.size, 3, none⟩ = some (.slice C F.length e) := b1p.cell 3; have ppl := b1p.lt; have zz0 : w1.cell? ⟨w.heap.size + 1, 0, none⟩ = some (.int .i64 0) := b1z.cell 0; have zzf0 := b1z.frozen 0; have zz1 : w1.cell? ⟨w.heap.size + 1, 1, none⟩ = some (.slice none 0 0) := b1z.cell 1; have zzf1 := b1z.frozen 1; have zz2 : w1.cell? ⟨w.heap.size + 1, 2, none⟩ = some (.slice none 0 0) := b1z.cell 2; have zzf2 := b1z.frozen 2; have zz3 : w1.cell? ⟨w.heap.size + 1, 3, none⟩ = some (.slice none 0 0) := b1z.cell 3; have zzf3 := b1z.frozen 3; have zzl := b1z.lt; have HB1 := Lib.hid hb1; clear hb1 b1 b1p b1z))
    have hz := (HX.out _ HB1.out).z
    have h1 := HWS.out
    have h2 := HBB.out
    have hr := HRP.out w1 (HX.out _ HB1.out).b
    have hf := HF.out (w.heap.size + 1 + 1)
    refine bodyPost_ret (res_rp rfl _ _ (w.heap.size + 1) _ _ _ _ rfl ((((hz.set_ 0 _).set_ 1 _).set_ 2 _).set_ 3 _)) rfl ⟨A, c, D, d, C, e, rfl, ⟨hr.nodes.put hf.1 (fun b hb => by have := HPL.out b hb; omega) (by omega) _ _ _ _, hr.taken.put hf.2.1 (fun b hb => by have := HPL.out b hb; omega) (by omega) _ _ _ _, hr.free.put hf.2.2 (fun b hb => by have := HPL.out b hb; omega) (by omega) _ _ _ _, hr.cap⟩, HF.out _, below_set4 (HX.out _ HB1.out).b (by omega) _ _ _ _⟩
end
end Go.Proofs.Ytljclikholchmaa
