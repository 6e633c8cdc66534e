/- The specification's Take, of a new slot; layer 9 (pool). -/
import Derived.Test.YtljclikholchmaaRi
import Derived.Deep.RegionLaw
import Derived.Deep.DeepCutAuto
namespace Go.Proofs.Ytljclikholchmaa
open Go.RowKit

theorem wr_one {n : Nat} (h : n ≤ 1000000) : wrap64 ((n : Int) + 1) = (n : Int) + 1 ∧ IntKind.i64.wrap ((n : Int) + 1) = (n : Int) + 1 := by
  obtain ⟨m, hm⟩ : ∃ m : Int, (n : Int) + 1 = m := ⟨_, rfl⟩
  have h2 : 0 ≤ m ∧ m ≤ 1000001 := by omega
  rw [hm]
  clear hm h
  exact ⟨by unfold wrap64; omega, IntWalk.i64_in _ (by omega)⟩
/-- append of a row to a row of the call's own, in a drawn region. -/
theorem step_app_row {ops : Array Oper} {o : Oper} {a : Act} {K : Act → World → Prop} {Q' : Exit → Act → World → Prop} {E : Prop} (hgd : o.guard = none) (s x : Operand) (t : TypeId)
    (ho : o.op = .call { callee := .builtin .append, args := #[s, x], argTypes := #[t, t] })
    (base : Nat) (e : TypeId) (i : TypeInfo) (z : Value) (size bytes : Nat) (ht : Try.prog.underlying t = some (.slice e)) (hi : Try.prog.info? e = some i) (hz : i.zero = some z)
    (hsize : i.size = size) (hby : i.bytes = bytes) (hzs : z.cells.size = size) (hsz : 0 < size) (w : World)
    (v : Value) (n : Nat) (xs : List Value) (hs : a.eval s = v) (hown : w.ownsRow base e size v n xs)
    (A : Option Addr) (m c B : Nat) (news : List Value) (hx : a.eval x = .slice A m c) (hrow : RowG w B A c news) (hl : news.length = m * size) (h1 : ∀ u ∈ news, u.oneCell' = true)
    (h63 : n + m ≤ maxLen) (hbytes : (n + m) * bytes ≤ 140737488355328) (hbase : base ≤ w.heap.size)
    (h : ∀ v' w', w'.ownsRow base e size v' (n + m) (xs ++ news) → w.grownBy w' v.ownBlock → K (a.put o.dst v') w') :
    if Region.wanted o (yielded ops a.tmps) = true then Oper.wp Try.prog o a w K Q' else E := by
  have hw : Region.wanted o (yielded ops a.tmps) = true := by simp [Region.wanted, hgd]
  rw [if_pos hw]
  rcases hrow with ⟨rfl, rfl, rfl⟩ | ⟨b, off, rfl, hb, hc⟩
  · have hm : m = 0 := by
      have h0 : m * size = 0 := by rw [← hl]; rfl
      rcases Nat.mul_eq_zero.1 h0 with h | h
      · exact h
      · omega
    subst hm
    have hr := run_append_owned_none (P := Try.prog) (w := w) base t o.type e i size ht hi v n xs hown
    unfold Oper.wp
    simp [execOp, ho, resolve, invoke, builtin, hs, hx, hr, Result.andThen]
    refine h v w ?_ ⟨rfl, rfl, rfl, Nat.le_refl _, fun _ _ _ => rfl⟩
    simpa using hown
  · obtain ⟨v', w', hr, hO, hg, _, _⟩ := run_append_own_at (P := Try.prog) w base t o.type e i z size bytes ht hi hz hsize hby hzs hsz v n xs hown ⟨b, off, none⟩ m c news hl (fun j u hj => by
      have e : (⟨b, off, none⟩ : Addr).add j = ⟨b, off + j, none⟩ := by unfold Addr.add; split <;> simp_all
      rw [e]; exact hc j u hj) h1 h63 hbytes hbase
    unfold Oper.wp
    simp [execOp, ho, resolve, invoke, builtin, hs, hx, hr, Result.andThen]
    exact h v' w' hO hg
theorem own_below {w w' : World} {base n : Nat} {e : TypeId} {size : Nat} {v : Value} {xs : List Value} (h : w.ownsRow base e size v n xs) (hb : base ≤ w.heap.size) (hg : w.grownBy w' v.ownBlock) : Below base w w' := (Below.refl _ _).grown hg hb (fun k e => (World.ownsRow.lt h k e).1)
theorem rowX_grown {w w' : World} {g c : Nat} {cs : List Value} {row : Option Nat} (h : RowG w w.heap.size (some ⟨g, 0, none⟩) c cs) (hg : w.grownBy w' row) (hne : row ≠ some g) : RowG w' w'.heap.size (some ⟨g, 0, none⟩) c cs :=
  (h.blocks (fun b off e => by cases e; exact hg.block g (h.bl rfl) (fun e => hne e.symm))).more hg.size
theorem Blk.drewX {w : World} {g : Nat} {t : TypeId} {cs : Array Value} (h : Blk w g t cs) : Blk w.drew g t cs := h
theorem tkC_app (T : List Bool) (b : Bool) : tkC T ++ [.bool b] = tkC (T ++ [b]) := by unfold tkC; simp
theorem ndCells_app (M : List Nd) (x : Nd) : ndCells M ++ (ndRow x).toList = ndCells (M ++ [x]) := by unfold ndCells; simp
section
variable {w w' : World} {B : Nat} {A D C : Option Addr} {c d e : Nat} {M : List Nd} {T : List Bool}
set_option maxRecDepth 100000 in
set_option maxHeartbeats 8000000 in
theorem r_Take_new (room : Int) (x0 x1 x2 x3 x4 : Int) (n : Nat) (h : RPool w B A c M D d T C e []) {Pr : Nat → Prop} (hq : Own3 Pr A D C) (hpl : ∀ b, Pr b → b < w.heap.size) (hB : B ≤ w.heap.size) (hT : T.length = n) (hM : M.length = n) (hl : n ≤ 1000000) (hr : ¬ room ≤ (cntT T : Nat)) :
    Calls Try.prog 24 #[.agg (rpC room A c n D d n C e 0), ndV ⟨x0, x1, x2, x3, x4⟩] w (GivR3 w Pr room (M ++ [⟨(n : Int) + 1, x1, x2, x3, x4⟩]) (T ++ [true]) [] ((n : Int) + 1) 0) := by
  obtain ⟨i4, hi4, hy0, hy1, hy2⟩ := info_parts info4
  obtain ⟨i8, hi8, hx0, hx1, hx2⟩ := info_parts info38
  obtain ⟨W, hW⟩ : ∃ W, ((w.alloc (.cells #[.int .i64 room, .slice A n c, .slice D n d, .slice C 0 e] 32)).alloc (.cells #[.int .i64 x0, .int .i64 x1, .int .i64 x2, .int .i64 x3, .int .i64 x4] 38)).alloc (.cells #[.int .i64 0, .slice none 0 0, .slice none 0 0, .slice none 0 0] 32) = W := ⟨_, rfl⟩
  obtain ⟨hws, hX⟩ := box3 w _ _ hW
  have HX := Lib.hid hX
  have HWS := Lib.hid hws
  have HWW := Lib.hid hW
  have b0 := hX W (Below.refl _ _)
  have HBW := Lib.hid b0.b
  have b0p := b0.p; have b0x := b0.x
  have p0 : W.cell? ⟨w.heap.size, 0, none⟩ = some (.int .i64 room) := b0p.cell 0; have p1 : W.cell? ⟨w.heap.size, 1, none⟩ = some (.slice A n c) := b0p.cell 1; have p2 : W.cell? ⟨w.heap.size, 2, none⟩ = some (.slice D n d) := b0p.cell 2; have p3 : W.cell? ⟨w.heap.size, 3, none⟩ = some (.slice C 0 e) := b0p.cell 3; have pl := b0p.lt; have x_0 : W.cell? ⟨w.heap.size + 1, 0, none⟩ = some (.int .i64 x0) := b0x.cell 0; have x_1 : W.cell? ⟨w.heap.size + 1, 1, none⟩ = some (.int .i64 x1) := b0x.cell 1; have x_2 : W.cell? ⟨w.heap.size + 1, 2, none⟩ = some (.int .i64 x2) := b0x.cell 2; have x_3 : W.cell? ⟨w.heap.size + 1, 3, none⟩ = some (.int .i64 x3) := b0x.cell 3; have x_4 : W.cell? ⟨w.heap.size + 1, 4, none⟩ = some (.int .i64 x4) := b0x.cell 4; have x_l := b0x.lt
  have HL : Hid (∀ wx, Below w.heap.size w wx → Calls Try.prog 14 #[.agg #[.int .i64 room, .slice A n c, .slice D n d, .slice C 0 e]] wx fun en w' => en = .returned (.int .i64 (cntT T : Nat)) ∧ Below wx.heap.size wx w') := Lib.hid (fun wx hb => by have := r_Len room ((h.more hB).step hb) (by omega); rw [hT, hM] at this; exact this)
  have HRP : Hid (∀ wx, Below w.heap.size w wx → RPool wx wx.heap.size A c M D d T C e []) := Lib.hid (fun wx hb => (h.more hB).step hb)
  have HTN := Lib.hid hT
  have HMN := Lib.hid hM
  have HLN := Lib.hid hl
  have HBB := Lib.hid hB
  have HPL := Lib.hid hpl
  have HQC := Lib.hid hq.2.2
  show Calls Try.prog 24 #[.agg #[.int .i64 room, .slice A n c, .slice D n d, .slice C 0 e], .agg #[.int .i64 x0, .int .i64 x1, .int .i64 x2, .int .i64 x3, .int .i64 x4]] w _
  obtain ⟨g0, g1⟩ := wr_one hl
  clear hpl hq h hB hl hW hX hws b0 b0p b0x hT hM
  go_enter Try.func24, Try.ntmps24
  go_upto_region 1 with (go_at_call 999)
  rw [HWW.out]
  have HBD : Hid (Below w.heap.size w W.drew) := Lib.hid HBW.out.drew
  go_region_held3 (fun wx => wx.cell? ⟨w.heap.size, 0, none⟩ = some (.int .i64 room) ∧ wx.cell? ⟨w.heap.size, 1, none⟩ = some (.slice A n c) ∧ wx.cell? ⟨w.heap.size, 2, none⟩ = some (.slice D n d) ∧ wx.cell? ⟨w.heap.size, 3, none⟩ = some (.slice C 0 e)) (first
      | exact ⟨q0, q1, q2, q3⟩
      | exact ⟨p0, p1, p2, p3⟩
      | go_keep) (first
      | (go_at_call 14; (with_reducible refine (HL.out _ HBD.out).mono ?_); rintro en w1 ⟨rfl, hb1⟩; have hb1 := ((Below.refl W.heap.size W).drew).trans hb1; have b1 := HX.out _ hb1; have b1p := b1.p; have q0 : w1.cell? ⟨w.heap.size, 0, none⟩ = some (.int .i64 room) := b1p.cell 0; have q1 : w1.cell? ⟨w.heap.size, 1, none⟩ = some (.slice A n c) := b1p.cell 1; have q2 : w1.cell? ⟨w.heap.size, 2, none⟩ = some (.slice D n d) := b1p.cell 2; have q3 : w1.cell? ⟨w.heap.size, 3, none⟩ = some (.slice C 0 e) := b1p.cell 3; have ql := b1p.lt; have HB1 := Lib.hid hb1; clear hb1 b1 b1p))
  all_goals
    have HE : Hid ((w1.alloc (.cells #[] 4)).ownsRow w1.heap.size 4 1 (.slice (some ⟨w1.heap.size, 0, none⟩) 0 0) 0 []) := Lib.hid (World.ownsRow_made w1 #[] 0 (Nat.le_refl _) (Nat.zero_le _) rfl)
    have HT : Hid (RowG (w1.alloc (.cells #[] 4)) (w1.alloc (.cells #[] 4)).heap.size D d (tkC T)) := Lib.hid ((HRP.out w1 (HX.out _ HB1.out).b).taken.step (bal _ _))
    clear p0 p1 p2 p3 pl x_0 x_1 x_2 x_3 x_4 x_l
    go_upto_region 4 with (at_builtin; (refine wpList_app_row rfl (.tmp 15) (.tmp 17) 29 rfl w1.heap.size 4 i4 _ 1 1 Try.underlying29 hi4 hy0 hy1 hy2 rfl (by decide) _ _ 0 [] rfl HE.out D n d _ (tkC T) rfl HT.out (by rw [tkC_len, Nat.mul_one]; exact HTN.out) (tkC_one _) (max_fits1 (by have := HLN.out; omega)).1 (max_fits1 (by have := HLN.out; omega)).2.1 (by simp) ?_); intro v4 w4 hO4 hb4; rw [Nat.zero_add, List.nil_append] at hO4; obtain ⟨A4, c4, e4, _⟩ := RowG.own (by decide) hO4; subst e4; have HO4 := Lib.hid hO4; have HB4 := Lib.hid (HB1.out.trans (((bal w1 (.cells #[] 4)).trans hb4).mono HB1.out.size)); have HZ4 := Lib.hid HB1.out.size; have HZW := Lib.hid ((bal w1 (.cells #[] 4)).trans hb4).size; clear hO4 hb4)
    have b4 := HX.out w4 HB4.out
    have b4p := b4.p; have b4x := b4.x
    have r3 : w4.cell? ⟨w.heap.size, 3, none⟩ = some (.slice C 0 e) := b4p.cell 3
    have rl := b4p.lt
    have rx := b4x.frozen 0
    have rx0 : w4.cell? ⟨w.heap.size + 1, 0, none⟩ = some (.int .i64 x0) := b4x.cell 0
    have rxl := b4x.lt
    clear q0 q1 q2 q3 ql b4 b4p b4x
    go_upto_region 12 with (fail)
    obtain ⟨w5, hw5⟩ : ∃ w5, w4.setCell ⟨w.heap.size + 1, 0, none⟩ (.int .i64 ((n : Int) + 1)) = w5 := ⟨_, rfl⟩
    rw [hw5]
    have b4 := HX.out w4 HB4.out
    have k5x : Blk w5 (w.heap.size + 1) 38 #[.int .i64 ((n : Int) + 1), .int .i64 x1, .int .i64 x2, .int .i64 x3, .int .i64 x4] := by rw [← hw5]; exact b4.x.set_ 0 _
    have k5p : Blk w5 w.heap.size 32 #[.int .i64 room, .slice A n c, .slice D n d, .slice C 0 e] := by rw [← hw5]; exact (set_blk1 _ _ _ (by omega)).trans b4.p
    have k5z : Blk w5 (w.heap.size + 1 + 1) 32 #[.int .i64 0, .slice none 0 0, .slice none 0 0, .slice none 0 0] := by rw [← hw5]; exact (set_blk1 _ _ _ (by omega)).trans b4.z
    have hb5 : Below w.heap.size w w5 := by rw [← hw5]; exact b4.b.setCell (by show w.heap.size ≤ w.heap.size + 1; omega) _
    have hO5 := own_set_other HO4.out (g := w.heap.size + 1) (fun e => by have h3 := (own_row HO4.out _ e).1; have h4 := HZ4.out; have h5 := HWS.out; omega) 0 (.int .i64 ((n : Int) + 1))
    rw [hw5] at hO5
    have hs5 : w5.heap.size = w4.heap.size := by rw [← hw5]; simp
    have HQ5 : Hid (w1.heap.size ≤ w5.heap.size) := Lib.hid (by have h3 := hb5.size; have h4 := HB4.out.size; have h5 := (World.ownsRow.lt HO4.out); rw [hs5]; exact HZW.out)
    have K5P := Lib.hid k5p
    have K5X := Lib.hid k5x
    have K5Z := Lib.hid k5z
    have HB5 := Lib.hid hb5
    have HO5 := Lib.hid hO5
    have t2 : w5.cell? ⟨w.heap.size, 2, none⟩ = some (.slice D n d) := k5p.cell 2
    have tl := k5p.lt
    clear b4 k5x k5p k5z hb5 hO5 hs5 hw5 r3 rl rx rx0 rxl
    go_upto_region 13 with (at_builtin; (refine wpList_app_row rfl (.tmp 54) (.tmp 55) 29 rfl w1.heap.size 4 i4 _ 1 1 Try.underlying29 hi4 hy0 hy1 hy2 rfl (by decide) _ _ n (tkC T) rfl (own_keep HO5.out (bal _ _)) (some ⟨w5.heap.size, 0, none⟩) 1 1 _ [.bool true] rfl (RowG.made (w := w5) (t := 4) 1) rfl (by simp [Value.oneCell']) (max_fits1 (by have := HLN.out; omega)).1 (max_fits1 (by have := HLN.out; omega)).2.1 (by have := HQ5.out; simp; omega) ?_); intro v6 w6 hO6 hb6; rw [tkC_app] at hO6; obtain ⟨A5, c5, e5, _⟩ := RowG.own (by decide) hO6; subst e5; have hb65 : Below w1.heap.size w5 w6 := ((bal w5 (.cells #[.bool true] 4)).mono HQ5.out).trans hb6; have hlt1 : w.heap.size + 1 + 1 < w1.heap.size := (by have h4 := HZ4.out; have h5 := HWS.out; omega); have k6p := K5P.out.below hb65 (by omega); have k6x := K5X.out.below hb65 (by omega); have k6z := K5Z.out.below hb65 (by omega); have u2 : w6.cell? ⟨w.heap.size, 2, none⟩ = some (.slice D n d) := k6p.cell 2; have u2f := k6p.frozen 2; have u2l := k6p.lt; have K6P := Lib.hid k6p; have K6X := Lib.hid k6x; have K6Z := Lib.hid k6z; have HO6 := Lib.hid hO6; have HB6 := Lib.hid (HB5.out.trans (hb65.mono (by omega))); clear hO6 hb6 hb65 k6p k6x k6z hlt1)
    obtain ⟨w7, hw7⟩ : ∃ w7, w6.setCell ⟨w.heap.size, 2, none⟩ (.slice A5 (n + 1) c5) = w7 := ⟨_, rfl⟩
    rw [hw7]
    have k7p : Blk w7 w.heap.size 32 #[.int .i64 room, .slice A n c, .slice A5 (n + 1) c5, .slice C 0 e] := by rw [← hw7]; exact K6P.out.set_ 2 _
    have k7x : Blk w7 (w.heap.size + 1) 38 #[.int .i64 ((n : Int) + 1), .int .i64 x1, .int .i64 x2, .int .i64 x3, .int .i64 x4] := by rw [← hw7]; exact (set_blk1 _ _ _ (by omega)).trans K6X.out
    have k7z : Blk w7 (w.heap.size + 1 + 1) 32 #[.int .i64 0, .slice none 0 0, .slice none 0 0, .slice none 0 0] := by rw [← hw7]; exact (set_blk1 _ _ _ (by omega)).trans K6Z.out
    have hb7 : Below w.heap.size w w7 := by rw [← hw7]; exact HB6.out.setCell (Nat.le_refl _) _
    clear u2 u2f u2l t2 tl
    have pn0 : w7.cell? ⟨w.heap.size, 0, none⟩ = some (.int .i64 room) := k7p.cell 0; have pnf0 := k7p.frozen 0; have pn1 : w7.cell? ⟨w.heap.size, 1, none⟩ = some (.slice A n c) := k7p.cell 1; have pnf1 := k7p.frozen 1; have pn2 : w7.cell? ⟨w.heap.size, 2, none⟩ = some (.slice A5 (n + 1) c5) := k7p.cell 2; have pnf2 := k7p.frozen 2; have pn3 : w7.cell? ⟨w.heap.size, 3, none⟩ = some (.slice C 0 e) := k7p.cell 3; have pnf3 := k7p.frozen 3; have pnl := k7p.lt; have xn0 : w7.cell? ⟨w.heap.size + 1, 0, none⟩ = some (.int .i64 ((n : Int) + 1)) := k7x.cell 0; have xn1 : w7.cell? ⟨w.heap.size + 1, 1, none⟩ = some (.int .i64 x1) := k7x.cell 1; have xn2 : w7.cell? ⟨w.heap.size + 1, 2, none⟩ = some (.int .i64 x2) := k7x.cell 2; have xn3 : w7.cell? ⟨w.heap.size + 1, 3, none⟩ = some (.int .i64 x3) := k7x.cell 3; have xn4 : w7.cell? ⟨w.heap.size + 1, 4, none⟩ = some (.int .i64 x4) := k7x.cell 4; have xnl := k7x.lt
    have K7P := Lib.hid k7p
    have K7X := Lib.hid k7x
    have K7Z := Lib.hid k7z
    have HB7 := Lib.hid hb7
    have HE7 : Hid ((w7.drew.alloc (.cells #[] 38)).ownsRow w7.heap.size 38 5 (.slice (some ⟨w7.heap.size, 0, none⟩) 0 0) 0 []) := Lib.hid (ownN_empty w7.drew)
    have HT7 : Hid (RowG (w7.drew.alloc (.cells #[] 38)) (w7.drew.alloc (.cells #[] 38)).heap.size A c (ndCells M)) := Lib.hid ((HRP.out w7.drew hb7.drew).nodes.step (bal _ _))
    have HS7 : Hid (Below w7.heap.size w7 (w7.drew.alloc (.cells #[] 38))) := Lib.hid ((Below.refl w7.heap.size w7).drew.alloc (Nat.le_refl _) _)
    have HQ6 : Hid (∀ b f, A5 = some ⟨b, f, none⟩ → w1.heap.size ≤ b) := Lib.hid (fun b f e => (own_row HO6.out b (by rw [e]; rfl)).1)
    have HR7 : Hid (RowG w7 w7.heap.size A5 c5 (tkC (T ++ [true]))) := Lib.hid (by
      obtain ⟨A', c', e', hR'⟩ := RowG.own (by decide) HO6.out
      cases e'
      exact (hR'.blocks (fun b f e => by have h3 := HQ6.out b f e; have h4 := HZ4.out; have h5 := HWS.out; rw [← hw7]; exact set_blk1 _ _ _ (by omega))).more (by rw [← hw7]; simp))
    have HE7b : Hid (((w7.drew.alloc (.cells #[] 38)).alloc (.cells #[.int .i64 ((n : Int) + 1), .int .i64 x1, .int .i64 x2, .int .i64 x3, .int .i64 x4] 38)).ownsRow w7.heap.size 38 5 (.slice (some ⟨w7.heap.size, 0, none⟩) 0 0) 0 []) := Lib.hid (own_keep HE7.out (bal _ _))
    have HT7b : Hid (RowG ((w7.drew.alloc (.cells #[] 38)).alloc (.cells #[.int .i64 ((n : Int) + 1), .int .i64 x1, .int .i64 x2, .int .i64 x3, .int .i64 x4] 38)) ((w7.drew.alloc (.cells #[] 38)).alloc (.cells #[.int .i64 ((n : Int) + 1), .int .i64 x1, .int .i64 x2, .int .i64 x3, .int .i64 x4] 38)).heap.size A c (ndCells M)) := Lib.hid (HT7.out.step (bal _ _))
    have HS7b : Hid (Below w7.heap.size w7 ((w7.drew.alloc (.cells #[] 38)).alloc (.cells #[.int .i64 ((n : Int) + 1), .int .i64 x1, .int .i64 x2, .int .i64 x3, .int .i64 x4] 38))) := Lib.hid (al HS7.out _)
    have HE7c : Hid (((w7.drew.alloc (.cells #[.int .i64 ((n : Int) + 1), .int .i64 x1, .int .i64 x2, .int .i64 x3, .int .i64 x4] 38)).alloc (.cells #[] 38)).ownsRow w7.heap.size 38 5 (.slice (some ⟨w7.heap.size + 1, 0, none⟩) 0 0) 0 []) := Lib.hid (by
      have h3 := ownN_empty (w7.drew.alloc (.cells #[.int .i64 ((n : Int) + 1), .int .i64 x1, .int .i64 x2, .int .i64 x3, .int .i64 x4] 38))
      rw [World.size_alloc] at h3
      exact own_less h3 (Nat.le_succ _))
    have HS7c : Hid (Below w7.heap.size w7 ((w7.drew.alloc (.cells #[.int .i64 ((n : Int) + 1), .int .i64 x1, .int .i64 x2, .int .i64 x3, .int .i64 x4] 38)).alloc (.cells #[] 38))) := Lib.hid (al ((Below.refl w7.heap.size w7).drew.alloc (Nat.le_refl _) _) _)
    have HT7c : Hid (RowG ((w7.drew.alloc (.cells #[.int .i64 ((n : Int) + 1), .int .i64 x1, .int .i64 x2, .int .i64 x3, .int .i64 x4] 38)).alloc (.cells #[] 38)) ((w7.drew.alloc (.cells #[.int .i64 ((n : Int) + 1), .int .i64 x1, .int .i64 x2, .int .i64 x3, .int .i64 x4] 38)).alloc (.cells #[] 38)).heap.size A c (ndCells M)) := Lib.hid (((HRP.out w7.drew hb7.drew).nodes.step (bal _ _)).step (bal _ _))
    have HXc : Hid (RowG ((w7.drew.alloc (.cells #[.int .i64 ((n : Int) + 1), .int .i64 x1, .int .i64 x2, .int .i64 x3, .int .i64 x4] 38)).alloc (.cells #[] 38)) ((w7.drew.alloc (.cells #[.int .i64 ((n : Int) + 1), .int .i64 x1, .int .i64 x2, .int .i64 x3, .int .i64 x4] 38)).alloc (.cells #[] 38)).heap.size (some ⟨w7.heap.size, 0, none⟩) 1 [.int .i64 ((n : Int) + 1), .int .i64 x1, .int .i64 x2, .int .i64 x3, .int .i64 x4]) := Lib.hid ((RowG.made (w := w7.drew) (t := 38) (cs := [.int .i64 ((n : Int) + 1), .int .i64 x1, .int .i64 x2, .int .i64 x3, .int .i64 x4]) 1).step (bal _ _))
    have HX7 : Hid (∀ wx, Below w7.heap.size w7 wx → wx.cell? ⟨w.heap.size, 1, none⟩ = some (.slice A n c) ∧ wx.cell? ⟨w.heap.size + 1, 0, none⟩ = some (.int .i64 ((n : Int) + 1)) ∧ wx.cell? ⟨w.heap.size + 1, 1, none⟩ = some (.int .i64 x1) ∧ wx.cell? ⟨w.heap.size + 1, 2, none⟩ = some (.int .i64 x2) ∧ wx.cell? ⟨w.heap.size + 1, 3, none⟩ = some (.int .i64 x3) ∧ wx.cell? ⟨w.heap.size + 1, 4, none⟩ = some (.int .i64 x4)) := Lib.hid (fun wx hb => ⟨(hb.cell (p := ⟨w.heap.size, 1, none⟩) pnl).trans pn1, (hb.cell (p := ⟨w.heap.size + 1, 0, none⟩) xnl).trans xn0, (hb.cell (p := ⟨w.heap.size + 1, 1, none⟩) xnl).trans xn1, (hb.cell (p := ⟨w.heap.size + 1, 2, none⟩) xnl).trans xn2, (hb.cell (p := ⟨w.heap.size + 1, 3, none⟩) xnl).trans xn3, (hb.cell (p := ⟨w.heap.size + 1, 4, none⟩) xnl).trans xn4⟩)
    clear k7p k7x k7z hb7 hw7
    go_cut [5] (fun s1 wx => s1 = .int .i64 0 ∧ ∃ A9 c9, Blk wx w.heap.size 32 #[.int .i64 room, .slice A9 (n + 1) c9, .slice A5 (n + 1) c5, .slice C 0 e] ∧ Blk wx (w.heap.size + 1) 38 #[.int .i64 ((n : Int) + 1), .int .i64 x1, .int .i64 x2, .int .i64 x3, .int .i64 x4] ∧ Blk wx (w.heap.size + 1 + 1) 32 #[.int .i64 0, .slice none 0 0, .slice none 0 0, .slice none 0 0] ∧ RowG wx wx.heap.size A9 c9 (ndCells (M ++ [⟨(n : Int) + 1, x1, x2, x3, x4⟩])) ∧ RowG wx wx.heap.size A5 c5 (tkC (T ++ [true])) ∧ Below w.heap.size w wx ∧ ∀ b f, A9 = some ⟨b, f, none⟩ → w7.heap.size ≤ b)
    case first =>
      go_region_law (first
        | (refine step_app_row rfl (.tmp 61) (.tmp 63) 28 rfl w7.heap.size 38 i8 _ 5 40 Try.underlying28 hi8 hx0 hx1 hx2 rfl (by decide) _ v8 n (ndCells M) rfl HO8.out _ 1 1 _ [.int .i64 ((n : Int) + 1), .int .i64 x1, .int .i64 x2, .int .i64 x3, .int .i64 x4] rfl HXR.out rfl (by simp [Value.oneCell']) (max_fits (by have := HLN.out; omega)).1 (max_fits (by have := HLN.out; omega)).2 (by have := HB8.out.size; simp; omega) ?_; intro v9 w9 hO9 hg9; have hb9 := own_below HO8.out (by have := HB8.out.size; simp; omega) hg9; have hO9 : OwnN w9 w7.heap.size v9 (M ++ [⟨(n : Int) + 1, x1, x2, x3, x4⟩]) := (by unfold OwnN; rw [List.length_append, HMN.out, ← ndCells_app]; exact hO9); obtain ⟨A9, c9, e9⟩ := ownN_form hO9; rw [List.length_append, HMN.out] at e9; subst e9; have HB9 := Lib.hid (HB8.out.trans hb9); have k9 := K7P.out.below HB9.out K7P.out.lt; have v1 : w9.cell? ⟨w.heap.size, 1, none⟩ = some (.slice A n c) := k9.cell 1; have v1f := k9.frozen 1; have v1l := k9.lt; have K9P := Lib.hid k9; have HO9 := Lib.hid hO9; clear hO9 hb9 hg9 k9)
        | (refine step_app_row rfl (.tmp 61) (.tmp 63) 28 rfl w7.heap.size 38 i8 _ 5 40 Try.underlying28 hi8 hx0 hx1 hx2 rfl (by decide) _ v8 n (ndCells M) rfl (own_keep HO8.out (bal _ _)) (some ⟨w8.heap.size, 0, none⟩) 1 1 _ [.int .i64 ((n : Int) + 1), .int .i64 x1, .int .i64 x2, .int .i64 x3, .int .i64 x4] rfl (RowG.made (w := w8) (t := 38) 1) rfl (by simp [Value.oneCell']) (max_fits (by have := HLN.out; omega)).1 (max_fits (by have := HLN.out; omega)).2 (by have := HB8.out.size; simp; omega) ?_; intro v9 w9 hO9 hg9; have hb9 := own_below (own_keep HO8.out (bal _ _)) (by have := HB8.out.size; simp; omega) hg9; have hO9 : OwnN w9 w7.heap.size v9 (M ++ [⟨(n : Int) + 1, x1, x2, x3, x4⟩]) := (by unfold OwnN; rw [List.length_append, HMN.out, ← ndCells_app]; exact hO9); obtain ⟨A9, c9, e9⟩ := ownN_form hO9; rw [List.length_append, HMN.out] at e9; subst e9; have HB9 := Lib.hid ((al HB8.out _).trans hb9); have k9 := K7P.out.below HB9.out K7P.out.lt; have v1 : w9.cell? ⟨w.heap.size, 1, none⟩ = some (.slice A n c) := k9.cell 1; have v1f := k9.frozen 1; have v1l := k9.lt; have K9P := Lib.hid k9; have HO9 := Lib.hid hO9; clear hO9 hb9 hg9 k9)
        | (refine step_app_row rfl (.tmp 58) (.tmp 60) 28 rfl w7.heap.size 38 i8 _ 5 40 Try.underlying28 hi8 hx0 hx1 hx2 rfl (by decide) _ (.slice (some ⟨w7.heap.size, 0, none⟩) 0 0) 0 [] rfl HE7.out A n c _ (ndCells M) rfl HT7.out (by rw [ndCells_len]; exact congrArg (· * 5) HMN.out) (ndCells_one _) (max_fits (by have := HLN.out; omega)).1 (max_fits (by have := HLN.out; omega)).2 (by simp; try omega) ?_; intro v8 w8 hO8 hg8; have hb8 := own_below HE7.out (by simp; try omega) hg8; rw [Nat.zero_add, List.nil_append] at hO8; have HO8 := Lib.hid hO8; have HB8 := Lib.hid (HS7.out.trans hb8); obtain ⟨_, xm0, xm1, xm2, xm3, xm4⟩ := HX7.out _ HB8.out; have xml := K7X.out.below HB8.out K7X.out.lt |>.lt; clear hO8 hb8 hg8)
        | (refine step_app_row rfl (.tmp 58) (.tmp 60) 28 rfl w7.heap.size 38 i8 _ 5 40 Try.underlying28 hi8 hx0 hx1 hx2 rfl (by decide) _ (.slice (some ⟨w7.heap.size, 0, none⟩) 0 0) 0 [] rfl HE7b.out A n c _ (ndCells M) rfl HT7b.out (by rw [ndCells_len]; exact congrArg (· * 5) HMN.out) (ndCells_one _) (max_fits (by have := HLN.out; omega)).1 (max_fits (by have := HLN.out; omega)).2 (by simp; try omega) ?_; intro v8 w8 hO8 hg8; have hb8 := own_below HE7b.out (by simp; try omega) hg8; rw [Nat.zero_add, List.nil_append] at hO8; have HO8 := Lib.hid hO8; have HB8 := Lib.hid (HS7b.out.trans hb8); have hxr := rowX_grown (RowG.made (w := w7.drew.alloc (.cells #[] 38)) (t := 38) (cs := [.int .i64 ((n : Int) + 1), .int .i64 x1, .int .i64 x2, .int .i64 x3, .int .i64 x4]) 1) hg8 (by simp [Value.ownBlock]); rw [World.size_alloc] at hxr; have HXR := Lib.hid hxr; clear hxr; obtain ⟨_, xm0, xm1, xm2, xm3, xm4⟩ := HX7.out _ HB8.out; have xml := K7X.out.below HB8.out K7X.out.lt |>.lt; clear hO8 hb8 hg8)
        | (refine step_app_row rfl (.tmp 58) (.tmp 60) 28 rfl w7.heap.size 38 i8 _ 5 40 Try.underlying28 hi8 hx0 hx1 hx2 rfl (by decide) _ (.slice (some ⟨w7.heap.size + 1, 0, none⟩) 0 0) 0 [] rfl HE7c.out A n c _ (ndCells M) rfl HT7c.out (by rw [ndCells_len]; exact congrArg (· * 5) HMN.out) (ndCells_one _) (max_fits (by have := HLN.out; omega)).1 (max_fits (by have := HLN.out; omega)).2 (by simp; try omega) ?_; intro v8 w8 hO8 hg8; have hb8 := own_below HE7c.out (by simp; try omega) hg8; rw [Nat.zero_add, List.nil_append] at hO8; have HO8 := Lib.hid hO8; have HB8 := Lib.hid (HS7c.out.trans hb8); have HXR := Lib.hid (rowX_grown (HXc.out) hg8 (by simp [Value.ownBlock])); obtain ⟨_, xm0, xm1, xm2, xm3, xm4⟩ := HX7.out _ HB8.out; have xml := K7X.out.below HB8.out K7X.out.lt |>.lt; clear hO8 hb8 hg8))
      all_goals
        go_wp2_with fail
        go_meet
        have HQ9 : ∀ b f, A9 = some ⟨b, f, none⟩ → w7.heap.size ≤ b := fun b f e => (own_row HO9.out b (by rw [e]; rfl)).1
        obtain ⟨A', c', e', hR'⟩ := RowG.own (by decide) HO9.out
        simp only [Value.slice.injEq] at e'
        obtain ⟨rfl, _, rfl⟩ := e'
        have h2 := K7P.out.lt
        have h4 := HZ4.out
        have h5 := HWS.out
        refine ⟨rfl, _, _, K9P.out.set_ 1 _, (set_blk1 _ _ _ (by omega)).trans (K7X.out.below HB9.out K7X.out.lt), (set_blk1 _ _ _ (by omega)).trans (K7Z.out.below HB9.out K7Z.out.lt), (hR'.blocks (fun b f e => by have h3 := HQ9 b f e; exact set_blk1 _ _ _ (by omega))).more (by simp), ((HR7.out.step HB9.out).blocks (fun b f e => by have h3 := HQ6.out b f e; exact set_blk1 _ _ _ (by omega))).more (by simp), (HB7.out.trans (HB9.out.mono HB7.out.size)).setCell (Nat.le_refl _) _, HQ9⟩
    case rest =>
    obtain ⟨rfl, A9, c9, kzp, kzx, kzz, hrz, htz, hbz, hq9⟩ := hcut
    obtain ⟨wz, wze⟩ : ∃ x, x = wc := ⟨_, rfl⟩
    subst wze
    have pz0 : wz.cell? ⟨w.heap.size, 0, none⟩ = some (.int .i64 room) := kzp.cell 0; have pz1 : wz.cell? ⟨w.heap.size, 1, none⟩ = some (.slice A9 (n + 1) c9) := kzp.cell 1; have pz2 : wz.cell? ⟨w.heap.size, 2, none⟩ = some (.slice A5 (n + 1) c5) := kzp.cell 2; have pz3 : wz.cell? ⟨w.heap.size, 3, none⟩ = some (.slice C 0 e) := kzp.cell 3; have pzl := kzp.lt; have xz0 : wz.cell? ⟨w.heap.size + 1, 0, none⟩ = some (.int .i64 ((n : Int) + 1)) := kzx.cell 0; have xz1 : wz.cell? ⟨w.heap.size + 1, 1, none⟩ = some (.int .i64 x1) := kzx.cell 1; have xz2 : wz.cell? ⟨w.heap.size + 1, 2, none⟩ = some (.int .i64 x2) := kzx.cell 2; have xz3 : wz.cell? ⟨w.heap.size + 1, 3, none⟩ = some (.int .i64 x3) := kzx.cell 3; have xz4 : wz.cell? ⟨w.heap.size + 1, 4, none⟩ = some (.int .i64 x4) := kzx.cell 4; have xzl := kzx.lt; have zz0 : wz.cell? ⟨w.heap.size + 1 + 1, 0, none⟩ = some (.int .i64 0) := kzz.cell 0; have zzf0 := kzz.frozen 0; have zz1 : wz.cell? ⟨w.heap.size + 1 + 1, 1, none⟩ = some (.slice none 0 0) := kzz.cell 1; have zzf1 := kzz.frozen 1; have zz2 : wz.cell? ⟨w.heap.size + 1 + 1, 2, none⟩ = some (.slice none 0 0) := kzz.cell 2; have zzf2 := kzz.frozen 2; have zz3 : wz.cell? ⟨w.heap.size + 1 + 1, 3, none⟩ = some (.slice none 0 0) := kzz.cell 3; have zzf3 := kzz.frozen 3; have zzl := kzz.lt
    have KZZ := Lib.hid kzz
    have HRZ := Lib.hid hrz
    have HTZ := Lib.hid htz
    have HBZ := Lib.hid hbz
    have HQ9 := Lib.hid hq9
    have HSZ : Hid (w.heap.size + 1 + 1 < w7.heap.size ∧ w.heap.size + 1 + 1 < w1.heap.size) := Lib.hid ⟨K7Z.out.lt, by have h4 := HZ4.out; have h5 := HWS.out; omega⟩
    clear kzp kzx kzz hrz htz hbz hq9
    go_wp2
    go_region
    go_wp2
    all_goals
      have h3 := HBB.out
      have h4 := HSZ.out
      refine bodyPost_ret (res_rp3 rfl _ _ (w.heap.size + 1 + 1) _ _ _ _ rfl (Blk.drewX ((((KZZ.out.set_ 0 _).set_ 1 _).set_ 2 _).set_ 3 _))) rfl ⟨A9, c9, A5, c5, C, e, by rw [List.length_append, List.length_append, HMN.out, HTN.out]; rfl, RPool.step ⟨HRZ.out.put (Pr := Pr) (n := w.heap.size + 1 + 1 + 1) (fun b f e => .inr (by have := HQ9.out b f e; omega)) (fun b hb => by have := HPL.out b hb; omega) (by omega) _ _ _ _, HTZ.out.put (Pr := Pr) (n := w.heap.size + 1 + 1 + 1) (fun b f e => .inr (by have := HQ6.out b f e; omega)) (fun b hb => by have := HPL.out b hb; omega) (by omega) _ _ _ _, (HRP.out wz HBZ.out).free.put (Pr := Pr) (n := w.heap.size + 1 + 1 + 1) (fun b f e => .inl (HQC.out b f e)) (fun b hb => by have := HPL.out b hb; omega) (by omega) _ _ _ _, Nat.zero_le _⟩ (Below.refl _ _).drew, ⟨fun b f e => .inr (by have := HQ9.out b f e; omega), fun b f e => .inr (by have := HQ6.out b f e; omega), fun b f e => .inl (HQC.out b f e)⟩, (below_set4 HBZ.out (by omega) _ _ _ _).drew⟩
end
end Go.Proofs.Ytljclikholchmaa
