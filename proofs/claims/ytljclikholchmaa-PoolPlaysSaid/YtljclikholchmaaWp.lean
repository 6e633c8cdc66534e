/- PoolPlays, over the contracts. -/
import Derived.Test.YtljclikholchmaaDo2
import Derived.Test.YtljclikholchmaaLs
import Derived.Test.YtljclikholchmaaFnC
import Derived.Deep.CutRange
import Derived.Deep.DeepCutAuto
namespace Go.Proofs.Ytljclikholchmaa
open Go.RowKit

theorem frm_set_new {S : Nat → Prop} {a b : World} (h : Frm S a b) {g : Nat} (hg : a.heap.size ≤ g) (i : Nat) (v : Value) : Frm S a (b.setCell ⟨g, i, none⟩ v) :=
  ⟨h.os, h.tape, h.output, by simpa using h.size, fun k hk hS => by rw [set_blk1 _ _ _ (by omega)]; exact h.block k hk hS⟩
theorem eql_nd (a b : Nd) (w : World) : (binOp .eql 38 (ndV a) (ndV b)).run Try.prog w = .ok (.bool (ndEq a b)) w := by
  obtain ⟨a0, a1, a2, a3, a4⟩ := a
  obtain ⟨b0, b1, b2, b3, b4⟩ := b
  unfold ndV ndRow ndEq
  dsimp only
  have u3 := Try.underlying3
  have a3' := Try.isAgg3
  have z3 := Try.sizeOf3
  have hS : Try.prog.underlying 38 = some (.struct (Try.prog.fieldsOf 38)) := by kernel_rfl
  have hp : Try.prog.stoodInHeld 38 = false := by kernel_rfl
  rw [run_eql_struct, show (10000 : Nat) = 9999 + 1 from rfl, run_equalIn_agg w 9999 38 _ _ hS hp]
  simp only [Program.fieldsOf, Try.underlying38]
  go_simp
  by_cases h0 : a0 = b0 <;> by_cases h1 : a1 = b1 <;> by_cases h2 : a2 = b2 <;> by_cases h3 : a3 = b3 <;> by_cases h4 : a4 = b4 <;> simp [h0, h1, h2, h3, h4]
section
set_option maxRecDepth 100000 in
set_option maxHeartbeats 8000000 in
theorem poolPlays_walk (room : Int) (A : Option Addr) (c : Nat) (l : List Act) (at_ : Int) (w : World) (_h1 : (Lit.int .i64 room).wf = true) (hR : RA w w.heap.size A l) (hok : ∀ x ∈ l, x.ok) (_hc : l.length ≤ c ∧ c ≤ maxLen) (h3 : (Lit.int .i64 at_).wf = true) :
    Calls Try.prog 3 #[.int .i64 room, .slice A l.length c, .int .i64 at_] w fun e w' => e = .returned (.bool true) ∧ Below w.heap.size w w' := by
  obtain ⟨Z, hZ⟩ : ∃ Z, w.heap.size = Z := ⟨_, rfl⟩
  have HZ := Lib.hid hZ
  by_cases hl : 60 < l.length
  · have l1 : (60 : Int) < (l.length : Int) := by omega
    clear hR hok _hc h3 _h1 hl
    go_enter Try.func3, Try.ntmps3
    go_wp2_with fail
    refine (lives_any _).mono ?_; rintro e w1 ⟨rfl, b1⟩
    have HB := Lib.hid b1
    clear b1
    go_wp2
    go_ret
    exact ⟨rfl, HB.out⟩
  have l1 : ¬ (60 : Int) < (l.length : Int) := by omega
  have hl60 : l.length ≤ 60 := by omega
  have HL60 := Lib.hid hl60
  clear hl hl60
  by_cases hr : room < 1 ∨ 1048576 < room
  · have H8 := Lib.hid (new_bad hr)
    have H9 := Lib.hid (r_New room)
    rw [if_pos hr, if_pos hr] at H9
    clear hR hok _hc h3 _h1 hr
    go_enter Try.func3, Try.ntmps3
    go_wp2_with fail
    refine (H8.out w).mono ?_; rintro e w1 ⟨rfl, rfl⟩
    go_wp2_with fail
    refine (H9.out w).mono ?_; rintro e w1 ⟨rfl, b1⟩
    have HB := Lib.hid b1
    clear b1 H8 H9
    go_wp2_with fail
    refine (lives_any _).mono ?_; rintro e w2 ⟨rfl, b2⟩
    have HB2 := Lib.hid ((al HB.out _).trans (b2.mono (al HB.out _).size))
    clear b2
    go_wp2
    go_ret
    exact ⟨rfl, HB2.out⟩
  have H8 := Lib.hid (pl_New (n := room) (by omega) (by omega) w)
  have H9 := Lib.hid (r_New room)
  rw [if_neg hr, if_neg hr] at H9
  have HRR := Lib.hid hR
  have HOK := Lib.hid hok
  have HAT := Lib.hid h3
  clear hR hok _hc h3 _h1 hr
  go_enter Try.func3, Try.ntmps3
  go_wp2_with fail
  refine H8.out.mono ?_; rintro e w1 ⟨rfl, ⟨F0, p0⟩, b1⟩
  have HP0 := Lib.hid p0
  have HB1 := Lib.hid b1
  clear p0 b1 H8
  go_wp2_with fail
  refine (H9.out w1).mono ?_; rintro e w2 ⟨rfl, b2⟩
  have HS0 := Lib.hid (LS.start HP0.out HB1.out b2)
  clear b2 H9 HP0 HB1
  rw [HZ.out] at HS0
  obtain ⟨X, hX⟩ : ∃ X, w2.heap.size = X := ⟨_, rfl⟩
  rw [hX] at HS0
  have HXX := Lib.hid hX
  clear hX
  go_upto_region 9 with (fail)
  rw [HXX.out]
  obtain ⟨w3, hw3⟩ : ∃ w3, w2.alloc (.cells #[.int .i64 room, .slice none 0 0, .slice none 0 0, .slice none 0 0] 32) = w3 := ⟨_, rfl⟩
  rw [hw3] at HS0 ⊢
  clear hw3 HXX
  go_wp2_with fail
  go_loopw [11] (fun i wr => ∃ (k : Nat) (N M : List Nd) (T : List Bool) (fr : List Int) (A' : Option Addr) (c' : Nat) (D : Option Addr) (d : Nat) (C : Option Addr) (e : Nat) (F : Nat → Prop), k ≤ l.length ∧ i = .int .i64 (k : Int) ∧ Hid (LS w wr Z X room N M T fr A' c' D d C e F k)) (fun i _ => l.length - (intOf i).toNat)
  case atStart => exact ⟨0, [], [], [], [], none, 0, none, 0, none, 0, F0, Nat.zero_le _, rfl, HS0⟩
  case round =>
    obtain ⟨k, N, M, T, fr, A', c', D, d, C, e, F, hk, rfl, HS⟩ := hrel
    clear HS0
    by_cases hlt : k < l.length
    · have l2 : (k : Int) < (l.length : Int) := by omega
      have l0 : (0 : Int) ≤ (k : Int) := by omega
      have hR := HRR.out
      rw [HZ.out] at hR
      obtain ⟨b, off, rfl, hb, hc⟩ := hR (by omega)
      obtain ⟨x, hx⟩ : ∃ x, l[k]? = some x := ⟨_, List.getElem?_eq_getElem hlt⟩
      obtain ⟨o1, o2, o3⟩ := HOK.out x (List.mem_of_getElem? hx)
      obtain ⟨kd, id, n0, n1, n2, n3, n4⟩ := x
      obtain ⟨q, rfl, hq⟩ : ∃ q : Nat, kd = (q : Int) ∧ q ≤ 255 := by
        have hb := bounds_u8 o1
        have hb : 0 ≤ kd ∧ kd ≤ 255 := hb
        exact ⟨kd.toNat, by omega, by omega⟩
      have HE : Hid (∀ wx, Below Z w wx → wx.cell? ⟨b, off + k * 7, none⟩ = some (.int .u8 (q : Int)) ∧ wx.cell? ⟨b, off + k * 7 + 1, none⟩ = some (.int .i64 id) ∧ wx.cell? ⟨b, off + k * 7 + 2, none⟩ = some (.int .i64 n0) ∧ wx.cell? ⟨b, off + k * 7 + 3, none⟩ = some (.int .i64 n1) ∧ wx.cell? ⟨b, off + k * 7 + 4, none⟩ = some (.int .i64 n2) ∧ wx.cell? ⟨b, off + k * 7 + 5, none⟩ = some (.int .i64 n3) ∧ wx.cell? ⟨b, off + k * 7 + 6, none⟩ = some (.int .i64 n4)) := Lib.hid (fun wx h => by
        have g := fun j hj => (h.cell (p := ⟨b, off + (k * 7 + j), none⟩) hb).trans (hc k _ hx j hj)
        have g0 := g 0 (by omega); have g1 := g 1 (by omega); have g2 := g 2 (by omega); have g3 := g 3 (by omega); have g4 := g 4 (by omega); have g5 := g 5 (by omega); have g6 := g 6 (by omega)
        simp only [← Nat.add_assoc] at g0 g1 g2 g3 g4 g5 g6
        exact ⟨g0, g1, g2, g3, g4, g5, g6⟩)
      have HID : Hid ((Lit.int .i64 id).wf = true) := Lib.hid o2
      have HBX : Hid (b < Z) := Lib.hid hb
      have HDA : Hid (Calls Try.prog 10 #[.pointer (some ⟨Z, 0, none⟩), .agg #[.int .i64 room, .slice A' M.length c', .slice D T.length d, .slice C fr.length e], .agg #[.int .u8 (q : Int), .int .i64 id, .int .i64 n0, .int .i64 n1, .int .i64 n2, .int .i64 n3, .int .i64 n4]] wr.drew (StepS wr.drew Z Z room F (fun b => b = X) (k + 1))) := Lib.hid (
        have h5 := HS.out.below (Below.refl wr.heap.size wr).drew
        do_all h5.pl (fun b hb => by rw [hb]; exact h5.box.lt) h5.rp h5.ow h5.sm k h5.len (by have := HL60.out; omega) q hq id n0 n1 n2 n3 n4 o2 o3)
      have HDB : Hid (Calls Try.prog 10 #[.pointer (some ⟨Z, 0, none⟩), .agg #[.int .i64 room, .slice A' M.length c', .slice D T.length d, .slice C fr.length e], .agg #[.int .u8 (q : Int), .int .i64 id, .int .i64 n0, .int .i64 n1, .int .i64 n2, .int .i64 n3, .int .i64 n4]] (wr.alloc (.cells #[.int .i64 0, .slice none 0 0, .slice none 0 0, .slice none 0 0] 32)).drew (StepS (wr.alloc (.cells #[.int .i64 0, .slice none 0 0, .slice none 0 0, .slice none 0 0] 32)).drew Z Z room F (fun b => b = X ∨ b = wr.heap.size) (k + 1))) := Lib.hid (
        have h5 := HS.out.below (bal wr (.cells #[.int .i64 0, .slice none 0 0, .slice none 0 0, .slice none 0 0] 32)).drew
        have hsz : (wr.alloc (.cells #[.int .i64 0, .slice none 0 0, .slice none 0 0, .slice none 0 0] 32)).drew.heap.size = wr.heap.size + 1 := by show (wr.alloc _).heap.size = _; simp
        do_all h5.pl (fun b hb => by rcases hb with hb | hb; exact hb ▸ h5.box.lt; omega) h5.rp ((HS.out.ow.also (Nat.le_refl _)).more (by omega)) h5.sm k h5.len (by have := HL60.out; omega) q hq id n0 n1 n2 n3 n4 o2 o3)
      have HDW2 : Hid (Below wr.heap.size wr (wr.alloc (.cells #[.int .i64 0, .slice none 0 0, .slice none 0 0, .slice none 0 0] 32)).drew) := Lib.hid (bal wr _).drew
      have hbox := HS.out.box
      have p0 : wr.cell? ⟨X, 0, none⟩ = some (.int .i64 room) := hbox.cell 0; have p1 : wr.cell? ⟨X, 1, none⟩ = some (.slice A' M.length c') := hbox.cell 1; have p2 : wr.cell? ⟨X, 2, none⟩ = some (.slice D T.length d) := hbox.cell 2; have p3 : wr.cell? ⟨X, 3, none⟩ = some (.slice C fr.length e) := hbox.cell 3; have pl := hbox.lt
      obtain ⟨z0, z1, z2, z3, z4, z5, z6⟩ := HE.out wr HS.out.bel
      have HX3 : Hid (∀ wy, Frm F wr wy → (wy.cell? ⟨X, 0, none⟩ = some (.int .i64 room) ∧ wy.cell? ⟨X, 1, none⟩ = some (.slice A' M.length c') ∧ wy.cell? ⟨X, 2, none⟩ = some (.slice D T.length d) ∧ wy.cell? ⟨X, 3, none⟩ = some (.slice C fr.length e)) ∧ wy.cell? ⟨b, off + k * 7, none⟩ = some (.int .u8 (q : Int)) ∧ wy.cell? ⟨b, off + k * 7 + 1, none⟩ = some (.int .i64 id) ∧ wy.cell? ⟨b, off + k * 7 + 2, none⟩ = some (.int .i64 n0) ∧ wy.cell? ⟨b, off + k * 7 + 3, none⟩ = some (.int .i64 n1) ∧ wy.cell? ⟨b, off + k * 7 + 4, none⟩ = some (.int .i64 n2) ∧ wy.cell? ⟨b, off + k * 7 + 5, none⟩ = some (.int .i64 n3) ∧ wy.cell? ⟨b, off + k * 7 + 6, none⟩ = some (.int .i64 n4)) := Lib.hid (fun wy hf => by
        have k3 : Blk wy X 32 #[.int .i64 room, .slice A' M.length c', .slice D T.length d, .slice C fr.length e] := (hf.block X HS.out.box.lt HS.out.nf).trans HS.out.box
        exact ⟨⟨k3.cell 0, k3.cell 1, k3.cell 2, k3.cell 3⟩, HE.out wy (HS.out.bel.trans (hf.below (by have := HS.out.zx; have := HS.out.box.lt; omega) (fun b hb => (HS.out.pl.lo hb).1)))⟩)
      have HYB : Hid (Blk (wr.alloc (.cells #[.int .i64 0, .slice none 0 0, .slice none 0 0, .slice none 0 0] 32)).drew wr.heap.size 32 #[.int .i64 0, .slice none 0 0, .slice none 0 0, .slice none 0 0]) := Lib.hid (Blk.new wr 32 _)
      have HSB : Hid (wr.heap.size < (wr.alloc (.cells #[.int .i64 0, .slice none 0 0, .slice none 0 0, .slice none 0 0] 32)).drew.heap.size) := Lib.hid (Blk.new wr 32 _).lt
      have HDW : Hid (Below wr.heap.size wr wr.drew) := Lib.hid (Below.refl _ _).drew
      clear hR hc hx hbox o1 o2 o3 hb hq
      go_upto_region 12 with (fail)
      go_cut [12, 13] from 49 to 119 (fun s12 s13 wx => s13 = .bool true ∧ ∃ Y N1 M1 T1 fr1 A1 c1 D1 d1 C1 e1 F1, s12 = .pointer (some ⟨Y, 0, none⟩) ∧ Mid w wx Z X Y room N1 M1 T1 fr1 A1 c1 D1 d1 C1 e1 F1 (k + 1) #[.int .i64 room, .slice A' M.length c', .slice D T.length d, .slice C fr.length e])
      case first =>
        go_region_held3 (fun wx => (wx.cell? ⟨X, 0, none⟩ = some (.int .i64 room) ∧ wx.cell? ⟨X, 1, none⟩ = some (.slice A' M.length c') ∧ wx.cell? ⟨X, 2, none⟩ = some (.slice D T.length d) ∧ wx.cell? ⟨X, 3, none⟩ = some (.slice C fr.length e)) ∧ wx.cell? ⟨b, off + k * 7, none⟩ = some (.int .u8 (q : Int)) ∧ wx.cell? ⟨b, off + k * 7 + 1, none⟩ = some (.int .i64 id) ∧ wx.cell? ⟨b, off + k * 7 + 2, none⟩ = some (.int .i64 n0) ∧ wx.cell? ⟨b, off + k * 7 + 3, none⟩ = some (.int .i64 n1) ∧ wx.cell? ⟨b, off + k * 7 + 4, none⟩ = some (.int .i64 n2) ∧ wx.cell? ⟨b, off + k * 7 + 5, none⟩ = some (.int .i64 n3) ∧ wx.cell? ⟨b, off + k * 7 + 6, none⟩ = some (.int .i64 n4)) (first
          | exact HX3.out _ HF1.out
          | exact HX3.out _ (Frm.trans HF1.out (Frm.of_below (bal _ _)))
          | exact HX3.out _ (frm_set_new (frm_set_new (frm_set_new (frm_set_new HF1.out (Nat.le_refl _) 0 _) (Nat.le_refl _) 1 _) (Nat.le_refl _) 2 _) (Nat.le_refl _) 3 _)
          | exact HX3.out _ (Frm.of_below HDW2.out)
          | exact ⟨⟨p0, p1, p2, p3⟩, z0, z1, z2, z3, z4, z5, z6⟩
          | go_keep) (first
          | (go_at_call 10; (with_reducible refine HDA.out.mono ?_); rintro en w4 ⟨N1, M1, T1, fr1, ⟨A1, c1, D1, d1, C1, e1, F1, rfl, hr1, hp1, hq1, hf1, hF1⟩, hs1, hn1⟩; have hf2 : Frm F wr w4 := (Frm.of_below HDW.out).trans hf1; have HF1 := Lib.hid hf2; have HMA := Lib.hid (LS.midA HS.out HDW.out hr1 hp1 hq1 hf1 hF1 hs1 hn1 rfl); have hz4 := hf2.size; clear hr1 hp1 hq1 hf1 hF1 hs1 hn1 hf2)
          | (go_at_call 10; (with_reducible refine HDB.out.mono ?_); rintro en w4 ⟨N1, M1, T1, fr1, ⟨A1, c1, D1, d1, C1, e1, F1, rfl, hr1, hp1, hq1, hf1, hF1⟩, hs1, hn1⟩; have hf2 : Frm F wr w4 := (Frm.of_below HDW2.out).trans hf1; have HF1 := Lib.hid hf2; have HMA := Lib.hid (LS.midB HS.out HDW2.out HSB.out rfl HYB.out hr1 hp1 hq1 hf1 hF1 hs1 hn1 rfl); have hyw : Blk w4 wr.heap.size 32 #[.int .i64 0, .slice none 0 0, .slice none 0 0, .slice none 0 0] := (hf1.block _ HSB.out (fun hf => by have := (HS.out.pl.lo hf).2; omega)).trans HYB.out; have hz4 := hf2.size; have yy0 : w4.cell? ⟨wr.heap.size, 0, none⟩ = some (.int .i64 0) := hyw.cell 0; have yyf0 := hyw.frozen 0; have yy1 : w4.cell? ⟨wr.heap.size, 1, none⟩ = some (.slice none 0 0) := hyw.cell 1; have yyf1 := hyw.frozen 1; have yy2 : w4.cell? ⟨wr.heap.size, 2, none⟩ = some (.slice none 0 0) := hyw.cell 2; have yyf2 := hyw.frozen 2; have yy3 : w4.cell? ⟨wr.heap.size, 3, none⟩ = some (.slice none 0 0) := hyw.cell 3; have yyf3 := hyw.frozen 3; have yyl := hyw.lt; clear hr1 hp1 hq1 hf1 hF1 hs1 hn1 hf2 hyw))
        all_goals
          go_wp2_with fail
          go_meet
          exact ⟨rfl, _, N1, M1, T1, fr1, A1, c1, D1, d1, C1, e1, F1, rfl, HMA.out⟩
      case rest =>
      obtain ⟨rfl, Y, N1, M1, T1, fr1, A1, c1, D1, d1, C1, e1, F1, rfl, hma⟩ := hcut
      obtain ⟨w5, w5e⟩ : ∃ x, x = wc := ⟨_, rfl⟩
      subst w5e
      have HMA := Lib.hid hma
      clear hma p0 p1 p2 p3 pl z0 z1 z2 z3 z4 z5 z6
      have hmy := HMA.out.y
      have hmb := HMA.out.box
      have y0 : w5.cell? ⟨Y, 0, none⟩ = some (.int .i64 room) := hmy.cell 0; have y1 : w5.cell? ⟨Y, 1, none⟩ = some (.slice A1 M1.length c1) := hmy.cell 1; have y2 : w5.cell? ⟨Y, 2, none⟩ = some (.slice D1 T1.length d1) := hmy.cell 2; have y3 : w5.cell? ⟨Y, 3, none⟩ = some (.slice C1 fr1.length e1) := hmy.cell 3; have yl := hmy.lt; have x0 : w5.cell? ⟨X, 0, none⟩ = some (.int .i64 room) := hmb.cell 0; have x1 : w5.cell? ⟨X, 1, none⟩ = some (.slice A' M.length c') := hmb.cell 1; have x2 : w5.cell? ⟨X, 2, none⟩ = some (.slice D T.length d) := hmb.cell 2; have x3 : w5.cell? ⟨X, 3, none⟩ = some (.slice C fr.length e) := hmb.cell 3; have xf0 := hmb.frozen 0; have xf1 := hmb.frozen 1; have xf2 := hmb.frozen 2; have xf3 := hmb.frozen 3; have xl := hmb.lt
      have HS6 := Lib.hid (HMA.out.put rfl)
      clear hmy hmb
      go_upto_region 14 with (fail)
      obtain ⟨w6, hw6⟩ : ∃ w6, (((w5.setCell ⟨X, 0, none⟩ (.int .i64 room)).setCell ⟨X, 1, none⟩ (.slice A1 M1.length c1)).setCell ⟨X, 2, none⟩ (.slice D1 T1.length d1)).setCell ⟨X, 3, none⟩ (.slice C1 fr1.length e1) = w6 := ⟨_, rfl⟩
      rw [hw6] at HS6 ⊢
      clear hw6 y0 y1 y2 y3 yl x0 x1 x2 x3 xf0 xf1 xf2 xf3 xl
      obtain ⟨_, z1, _⟩ := HE.out w6 HS6.out.bel
      have zl := HS6.out.box.lt
      have hat := pl_At HS6.out.pl id HID.out
      have hra : ∀ wx, Below w6.heap.size w6 wx → Calls Try.prog 12 #[.agg #[.int .i64 room, .slice A1 M1.length c1, .slice D1 T1.length d1, .slice C1 fr1.length e1], .int .i64 id] wx _ := fun wx hb => r_At room id (HS6.out.below hb).rp (by have := HS6.out.sm.lt; have := HS6.out.len; have := HL60.out; omega) (by rw [HS6.out.sm.lm, HS6.out.sm.lt])
      rw [← HS6.out.sm.has] at hra
      rw [HS6.out.sm.has, HS6.out.sm.at_eq, ← HS6.out.sm.has] at hra
      obtain ⟨y, hy⟩ : ∃ y, (if hasF N1 id then N1.getD (id - 1).toNat nd0 else nd0) = y := ⟨_, rfl⟩
      obtain ⟨bb, hbb⟩ : ∃ bb, hasF N1 id = bb := ⟨_, rfl⟩
      rw [hy, hbb] at hat hra
      obtain ⟨y0, y1, y2, y3, y4⟩ := y
      have hne := neq_nd ⟨y0, y1, y2, y3, y4⟩ ⟨y0, y1, y2, y3, y4⟩
      rw [show ndEq ⟨y0, y1, y2, y3, y4⟩ ⟨y0, y1, y2, y3, y4⟩ = true from ndEq_iff.2 rfl] at hne
      unfold ndV ndRow at hat hra hne
      dsimp only at hat hra hne
      have HATC := Lib.hid hat
      have HRAC := Lib.hid hra
      have HNE := Lib.hid hne
      clear hat hra hy hbb hne
      go_upto_region 15 with (go_at_call 11; (with_reducible refine HATC.out.mono ?_); rintro en w7 ⟨rfl, b7⟩; have HB7 := Lib.hid b7; clear b7)
      obtain ⟨w8, hw8⟩ : ∃ w8, w7.alloc (.cells #[.int .i64 y0, .int .i64 y1, .int .i64 y2, .int .i64 y3, .int .i64 y4] 38) = w8 := ⟨_, rfl⟩
      rw [hw8]
      have hB8 : Below w6.heap.size w6 w8 := by rw [← hw8]; exact al HB7.out _
      have HB8 := Lib.hid hB8
      have HY1 : Hid (Blk w8 w7.heap.size 38 #[.int .i64 y0, .int .i64 y1, .int .i64 y2, .int .i64 y3, .int .i64 y4]) := Lib.hid (by rw [← hw8]; exact Blk.new _ _ _)
      have HS8 := Lib.hid (HS6.out.below hB8)
      have HK8 : Hid (∀ wx, Below w8.heap.size w8 wx → (wx.cell? ⟨X, 0, none⟩ = some (.int .i64 room) ∧ wx.cell? ⟨X, 1, none⟩ = some (.slice A1 M1.length c1) ∧ wx.cell? ⟨X, 2, none⟩ = some (.slice D1 T1.length d1) ∧ wx.cell? ⟨X, 3, none⟩ = some (.slice C1 fr1.length e1)) ∧ wx.cell? ⟨b, off + k * 7 + 1, none⟩ = some (.int .i64 id)) := Lib.hid (fun wx hb => by
        have h9 := HS8.out.below hb
        exact ⟨⟨h9.box.cell 0, h9.box.cell 1, h9.box.cell 2, h9.box.cell 3⟩, (HE.out wx h9.bel).2.1⟩)
      have HRB : Hid (∀ wx, Below w8.heap.size w8 wx → Calls Try.prog 12 #[.agg #[.int .i64 room, .slice A1 M1.length c1, .slice D1 T1.length d1, .slice C1 fr1.length e1], .int .i64 id] wx fun en w' => en = .returned (.tuple #[.agg #[.int .i64 y0, .int .i64 y1, .int .i64 y2, .int .i64 y3, .int .i64 y4], .bool bb]) ∧ Below wx.heap.size wx w') := Lib.hid (fun wx hb => HRAC.out wx (hB8.trans (hb.mono hB8.size)))
      have HDA8 : Hid (Below w8.heap.size w8 w8.drew) := Lib.hid (Below.refl _ _).drew
      have HDB8 : Hid (Below w8.heap.size w8 (w8.alloc (.cells #[.int .i64 0, .int .i64 0, .int .i64 0, .int .i64 0, .int .i64 0] 38)).drew) := Lib.hid (bal w8 _).drew
      have HYB8 : Hid (Blk (w8.alloc (.cells #[.int .i64 0, .int .i64 0, .int .i64 0, .int .i64 0, .int .i64 0] 38)).drew w8.heap.size 38 #[.int .i64 0, .int .i64 0, .int .i64 0, .int .i64 0, .int .i64 0]) := Lib.hid (Blk.new w8 38 _)
      clear hw8 hB8 z1 zl
      have z1 := (HE.out w8 HS8.out.bel).2.1
      have zl := HS8.out.box.lt
      have hmb := HS8.out.box
      have x0 : w8.cell? ⟨X, 0, none⟩ = some (.int .i64 room) := hmb.cell 0; have x1 : w8.cell? ⟨X, 1, none⟩ = some (.slice A1 M1.length c1) := hmb.cell 1; have x2 : w8.cell? ⟨X, 2, none⟩ = some (.slice D1 T1.length d1) := hmb.cell 2; have x3 : w8.cell? ⟨X, 3, none⟩ = some (.slice C1 fr1.length e1) := hmb.cell 3
      clear hmb
      go_cut [16, 17] from 49 to 119 (fun s16 s17 wx => s17 = .bool bb ∧ ∃ Y2, s16 = .pointer (some ⟨Y2, 0, none⟩) ∧ Blk wx Y2 38 #[.int .i64 y0, .int .i64 y1, .int .i64 y2, .int .i64 y3, .int .i64 y4] ∧ Below w8.heap.size w8 wx)
      case first =>
        go_region_held3 (fun wx => (wx.cell? ⟨X, 0, none⟩ = some (.int .i64 room) ∧ wx.cell? ⟨X, 1, none⟩ = some (.slice A1 M1.length c1) ∧ wx.cell? ⟨X, 2, none⟩ = some (.slice D1 T1.length d1) ∧ wx.cell? ⟨X, 3, none⟩ = some (.slice C1 fr1.length e1)) ∧ wx.cell? ⟨b, off + k * 7 + 1, none⟩ = some (.int .i64 id)) (first
          | exact HK8.out _ HB9.out
          | exact HK8.out _ (al HB9.out _)
          | exact HK8.out _ (((((HB9.out.setCell (Nat.le_refl _) _).setCell (Nat.le_refl _) _).setCell (Nat.le_refl _) _).setCell (Nat.le_refl _) _).setCell (Nat.le_refl _) _)
          | exact HK8.out _ HDB8.out
          | exact ⟨⟨x0, x1, x2, x3⟩, z1⟩
          | go_keep) (first
          | (go_at_call 12; (with_reducible refine (HRB.out _ HDA8.out).mono ?_); rintro en w9 ⟨rfl, hb9⟩; have HB9 := Lib.hid (bt HDA8.out hb9); clear hb9)
          | (go_at_call 12; (with_reducible refine (HRB.out _ HDB8.out).mono ?_); rintro en w9 ⟨rfl, hb9⟩; have hyw := HYB8.out.below hb9 HYB8.out.lt; have HB9 := Lib.hid (bt HDB8.out hb9); have v0 : w9.cell? ⟨w8.heap.size, 0, none⟩ = some (.int .i64 0) := hyw.cell 0; have v1 : w9.cell? ⟨w8.heap.size, 1, none⟩ = some (.int .i64 0) := hyw.cell 1; have v2 : w9.cell? ⟨w8.heap.size, 2, none⟩ = some (.int .i64 0) := hyw.cell 2; have v3 : w9.cell? ⟨w8.heap.size, 3, none⟩ = some (.int .i64 0) := hyw.cell 3; have v4 : w9.cell? ⟨w8.heap.size, 4, none⟩ = some (.int .i64 0) := hyw.cell 4; have vf0 := hyw.frozen 0; have vf1 := hyw.frozen 1; have vf2 := hyw.frozen 2; have vf3 := hyw.frozen 3; have vf4 := hyw.frozen 4; have vl := hyw.lt; have HYW := Lib.hid hyw; clear hyw hb9))
        all_goals
          go_wp2_with fail
          go_meet
          first
            | exact ⟨rfl, _, rfl, ((((HYW.out.set_ 0 _).set_ 1 _).set_ 2 _).set_ 3 _).set_ 4 _, (((((HB9.out.setCell (Nat.le_refl _) _).setCell (Nat.le_refl _) _).setCell (Nat.le_refl _) _).setCell (Nat.le_refl _) _).setCell (Nat.le_refl _) _)⟩
            | exact ⟨rfl, _, rfl, Blk.new _ _ _, al HB9.out _⟩
      case rest =>
      obtain ⟨rfl, Y2, rfl, hy2, hb10⟩ := hcut
      obtain ⟨w10, w10e⟩ : ∃ x, x = wc := ⟨_, rfl⟩
      subst w10e
      have HY2 := Lib.hid hy2
      have HS10 := Lib.hid (HS8.out.below hb10)
      have HYA := Lib.hid (HY1.out.below hb10 HY1.out.lt)
      clear hy2 hb10 x0 x1 x2 x3 z1 zl
      have h10 := HS10.out
      have hn61 : N1.length ≤ 61 := by have := h10.len; have := HL60.out; omega
      obtain ⟨L, hL⟩ : ∃ L, eachN N1 = L := ⟨_, rfl⟩
      have hLl : L.length ≤ 61 := by rw [← hL]; have := eachN_len N1; omega
      obtain ⟨m, hm⟩ : ∃ m : Nat, N1.length - fr1.length = m := ⟨_, rfl⟩
      have hct : cntT T1 = m := by have := h10.sm.cnt; omega
      have H13 : Hid (∀ wx, Below w10.heap.size w10 wx → Calls Try.prog 13 #[.pointer (some ⟨Z, 0, none⟩)] wx fun e w' => e = .returned (.int .i64 (m : Int)) ∧ Below wx.heap.size wx w') := Lib.hid (fun wx hb => by rw [← hm]; exact pl_Len (h10.below hb).pl)
      have H14 : Hid (∀ wx, Below w10.heap.size w10 wx → Calls Try.prog 14 #[.agg #[.int .i64 room, .slice A1 M1.length c1, .slice D1 T1.length d1, .slice C1 fr1.length e1]] wx fun e w' => e = .returned (.int .i64 (m : Int)) ∧ Below wx.heap.size wx w') := Lib.hid (fun wx hb => by rw [← hct]; exact r_Len room (h10.below hb).rp (by have := h10.sm.lt; omega))
      have H15 : Hid (∀ wx, Below w10.heap.size w10 wx → Calls Try.prog 15 #[.pointer (some ⟨Z, 0, none⟩)] wx fun e w' => e = .returned (.int .i64 room) ∧ Below wx.heap.size wx w') := Lib.hid (fun wx hb => (pl_Room (h10.below hb).pl).mono fun e w' ⟨q1, q2⟩ => ⟨q1, by rw [← q2]; exact Below.refl _ _⟩)
      have H17 : Hid (∀ wx, Below w10.heap.size w10 wx → Calls Try.prog 17 #[.pointer (some ⟨Z, 0, none⟩), .int .i64 99] wx fun e w' => ∃ A c, e = .returned (.slice A L.length c) ∧ RowG w' w'.heap.size A c (ndCells L) ∧ Below wx.heap.size wx w') := Lib.hid (fun wx hb => (pl_All (h10.below hb).pl 99).mono fun e w' ⟨v, q1, q2, q3⟩ => by
        rw [hL, List.take_of_length_le (by show L.length ≤ 99; omega)] at q2
        obtain ⟨A, c, q4, q5⟩ := RowG.own (by decide) q2
        exact ⟨A, c, by rw [q1, q4], q5, q3⟩)
      have H18 : Hid (∀ wx, Below w10.heap.size w10 wx → Calls Try.prog 18 #[.agg #[.int .i64 room, .slice A1 M1.length c1, .slice D1 T1.length d1, .slice C1 fr1.length e1]] wx fun e w' => ∃ A c, e = .returned (.slice A L.length c) ∧ RowG w' w'.heap.size A c (ndCells L) ∧ Below wx.heap.size wx w') := Lib.hid (fun wx hb => (r_All room (h10.below hb).rp (by have := h10.sm.lt; omega) (by rw [h10.sm.lm, h10.sm.lt])).mono fun e w' ⟨v, q1, q2, q3⟩ => by
        rw [← h10.sm.each, hL] at q2
        obtain ⟨A, c, q4, q5⟩ := RowG.own (by decide) q2
        exact ⟨A, c, by rw [q1, q4], q5, q3⟩)
      have HK10 : Hid (∀ wx, Below w10.heap.size w10 wx → wx.cell? ⟨w7.heap.size, 0, none⟩ = some (.int .i64 y0) ∧ wx.cell? ⟨w7.heap.size, 1, none⟩ = some (.int .i64 y1) ∧ wx.cell? ⟨w7.heap.size, 2, none⟩ = some (.int .i64 y2) ∧ wx.cell? ⟨w7.heap.size, 3, none⟩ = some (.int .i64 y3) ∧ wx.cell? ⟨w7.heap.size, 4, none⟩ = some (.int .i64 y4) ∧ wx.cell? ⟨Y2, 0, none⟩ = some (.int .i64 y0) ∧ wx.cell? ⟨Y2, 1, none⟩ = some (.int .i64 y1) ∧ wx.cell? ⟨Y2, 2, none⟩ = some (.int .i64 y2) ∧ wx.cell? ⟨Y2, 3, none⟩ = some (.int .i64 y3) ∧ wx.cell? ⟨Y2, 4, none⟩ = some (.int .i64 y4) ∧ wx.cell? ⟨X, 0, none⟩ = some (.int .i64 room) ∧ wx.cell? ⟨X, 1, none⟩ = some (.slice A1 M1.length c1) ∧ wx.cell? ⟨X, 2, none⟩ = some (.slice D1 T1.length d1) ∧ wx.cell? ⟨X, 3, none⟩ = some (.slice C1 fr1.length e1)) := Lib.hid (fun wx hb => by
        have g1 := HYA.out.below hb HYA.out.lt
        have g2 := HY2.out.below hb HY2.out.lt
        have g3 := h10.box.below hb h10.box.lt
        exact ⟨g1.cell 0, g1.cell 1, g1.cell 2, g1.cell 3, g1.cell 4, g2.cell 0, g2.cell 1, g2.cell 2, g2.cell 3, g2.cell 4, g3.cell 0, g3.cell 1, g3.cell 2, g3.cell 3⟩)
      have HC0 : Hid (Below w10.heap.size w10 w10.drew) := Lib.hid (Below.refl _ _).drew
      have HLL : Hid (L.length ≤ 1000000) := Lib.hid (by omega)
      have ha1 : ((m : Int) != (m : Int)) = false := by simp
      have ha2 : (room != room) = false := by simp
      have ha3 : (bb != bb) = false := by simp
      have hne := HNE.out
      clear h10 hn61 hLl hct hm hL
      go_upto_region 16 with (fail)
      go_region_held3 (fun wx => wx.cell? ⟨w7.heap.size, 0, none⟩ = some (.int .i64 y0) ∧ wx.cell? ⟨w7.heap.size, 1, none⟩ = some (.int .i64 y1) ∧ wx.cell? ⟨w7.heap.size, 2, none⟩ = some (.int .i64 y2) ∧ wx.cell? ⟨w7.heap.size, 3, none⟩ = some (.int .i64 y3) ∧ wx.cell? ⟨w7.heap.size, 4, none⟩ = some (.int .i64 y4) ∧ wx.cell? ⟨Y2, 0, none⟩ = some (.int .i64 y0) ∧ wx.cell? ⟨Y2, 1, none⟩ = some (.int .i64 y1) ∧ wx.cell? ⟨Y2, 2, none⟩ = some (.int .i64 y2) ∧ wx.cell? ⟨Y2, 3, none⟩ = some (.int .i64 y3) ∧ wx.cell? ⟨Y2, 4, none⟩ = some (.int .i64 y4) ∧ wx.cell? ⟨X, 0, none⟩ = some (.int .i64 room) ∧ wx.cell? ⟨X, 1, none⟩ = some (.slice A1 M1.length c1) ∧ wx.cell? ⟨X, 2, none⟩ = some (.slice D1 T1.length d1) ∧ wx.cell? ⟨X, 3, none⟩ = some (.slice C1 fr1.length e1)) (first
        | exact HK10.out _ HC16.out
        | exact HK10.out _ HC18.out
        | exact HK10.out _ HC17.out
        | exact HK10.out _ HC15.out
        | exact HK10.out _ HC14.out
        | exact HK10.out _ HC13.out
        | exact HK10.out _ HC0.out) (first
        | (go_at_call 16; (with_reducible refine (lw_same (HR17.out.step HX18.out) HR18.out HLL.out).mono ?_); rintro en w16 ⟨rfl, hb⟩; have HC16 := Lib.hid (bt HC18.out hb); clear hb)
        | (go_at_call 18; (with_reducible refine (H18.out _ HC17.out).mono ?_); rintro en w18 ⟨A18, c18, rfl, hr, hb⟩; have HR18 := Lib.hid hr; have HX18 := Lib.hid hb; have HC18 := Lib.hid (bt HC17.out hb); clear hb hr)
        | (go_at_call 17; (with_reducible refine (H17.out _ HC15.out).mono ?_); rintro en w17 ⟨A17, c17, rfl, hr, hb⟩; have HR17 := Lib.hid hr; have HC17 := Lib.hid (bt HC15.out hb); clear hb hr)
        | (go_at_call 15; (with_reducible refine (H15.out _ HC14.out).mono ?_); rintro en w15 ⟨rfl, hb⟩; have HC15 := Lib.hid (bt HC14.out hb); clear hb)
        | (go_at_call 14; (with_reducible refine (H14.out _ HC13.out).mono ?_); rintro en w14 ⟨rfl, hb⟩; have HC14 := Lib.hid (bt HC13.out hb); clear hb)
        | (go_at_call 13; (with_reducible refine (H13.out _ HC0.out).mono ?_); rintro en w13 ⟨rfl, hb⟩; have HC13 := Lib.hid (bt HC0.out hb); clear hb))
      all_goals go_wp2
      go_roundw
      case rel => exact ⟨k + 1, N1, M1, T1, fr1, A1, c1, D1, d1, C1, e1, F1, by omega, by go_num, Lib.hid (HS10.out.below HC16.out)⟩
      case measure => simp [intOf]; omega
    · have l2 : ¬ (k : Int) < (l.length : Int) := by omega
      have hat := pl_At HS.out.pl at_ HAT.out
      have hra : ∀ wx, Below wr.heap.size wr wx → Calls Try.prog 12 #[.agg #[.int .i64 room, .slice A' M.length c', .slice D T.length d, .slice C fr.length e], .int .i64 at_] wx _ := fun wx hb => r_At room at_ (HS.out.below hb).rp (by have := HS.out.sm.lt; have := HS.out.len; have := HL60.out; omega) (by rw [HS.out.sm.lm, HS.out.sm.lt])
      rw [HS.out.sm.at_eq, ← HS.out.sm.has] at hra
      obtain ⟨y, hy⟩ : ∃ y, (if hasF N at_ then N.getD (at_ - 1).toNat nd0 else nd0) = y := ⟨_, rfl⟩
      obtain ⟨bb, hbb⟩ : ∃ bb, hasF N at_ = bb := ⟨_, rfl⟩
      rw [hy, hbb] at hat hra
      obtain ⟨y0, y1, y2, y3, y4⟩ := y
      have hne := eql_nd ⟨y0, y1, y2, y3, y4⟩ ⟨y0, y1, y2, y3, y4⟩
      rw [show ndEq ⟨y0, y1, y2, y3, y4⟩ ⟨y0, y1, y2, y3, y4⟩ = true from ndEq_iff.2 rfl] at hne
      unfold ndV ndRow at hat hra hne
      dsimp only at hat hra hne
      have HATC := Lib.hid hat
      have HRAC := Lib.hid hra
      have HNE := Lib.hid hne
      clear hat hra hy hbb hne
      go_upto_region 19 with (go_at_call 11; (with_reducible refine HATC.out.mono ?_); rintro en w7 ⟨rfl, b7⟩; have HB7 := Lib.hid b7; clear b7)
      obtain ⟨w8, hw8⟩ : ∃ w8, w7.alloc (.cells #[.int .i64 y0, .int .i64 y1, .int .i64 y2, .int .i64 y3, .int .i64 y4] 38) = w8 := ⟨_, rfl⟩
      rw [hw8]
      have hB8 : Below wr.heap.size wr w8 := by rw [← hw8]; exact al HB7.out _
      have HB8 := Lib.hid hB8
      have HY1 : Hid (Blk w8 w7.heap.size 38 #[.int .i64 y0, .int .i64 y1, .int .i64 y2, .int .i64 y3, .int .i64 y4]) := Lib.hid (by rw [← hw8]; exact Blk.new _ _ _)
      have HS8 := Lib.hid (HS.out.below hB8)
      have HRB := Lib.hid (HRAC.out w8 hB8)
      have hmb := HS8.out.box
      have x0 : w8.cell? ⟨X, 0, none⟩ = some (.int .i64 room) := hmb.cell 0; have x1 : w8.cell? ⟨X, 1, none⟩ = some (.slice A' M.length c') := hmb.cell 1; have x2 : w8.cell? ⟨X, 2, none⟩ = some (.slice D T.length d) := hmb.cell 2; have x3 : w8.cell? ⟨X, 3, none⟩ = some (.slice C fr.length e) := hmb.cell 3
      have zl := hmb.lt
      clear hmb hw8 hB8
      go_upto_region 20 with (go_at_call 12; (with_reducible refine HRB.out.mono ?_); rintro en w9 ⟨rfl, b9⟩; have HB9 := Lib.hid b9; clear b9)
      obtain ⟨w10, hw10⟩ : ∃ w10, w9.alloc (.cells #[.int .i64 y0, .int .i64 y1, .int .i64 y2, .int .i64 y3, .int .i64 y4] 38) = w10 := ⟨_, rfl⟩
      rw [hw10]
      have hB10 : Below w8.heap.size w8 w10 := by rw [← hw10]; exact al HB9.out _
      have hk1 := HY1.out.below hB10 HY1.out.lt
      have hk2 : Blk w10 w9.heap.size 38 #[.int .i64 y0, .int .i64 y1, .int .i64 y2, .int .i64 y3, .int .i64 y4] := by rw [← hw10]; exact Blk.new _ _ _
      have HS10 := Lib.hid (HS8.out.below hB10)
      have u0 : w10.cell? ⟨w7.heap.size, 0, none⟩ = some (.int .i64 y0) := hk1.cell 0; have u1 : w10.cell? ⟨w7.heap.size, 1, none⟩ = some (.int .i64 y1) := hk1.cell 1; have u2 : w10.cell? ⟨w7.heap.size, 2, none⟩ = some (.int .i64 y2) := hk1.cell 2; have u3 : w10.cell? ⟨w7.heap.size, 3, none⟩ = some (.int .i64 y3) := hk1.cell 3; have u4 : w10.cell? ⟨w7.heap.size, 4, none⟩ = some (.int .i64 y4) := hk1.cell 4
      have v0 : w10.cell? ⟨w9.heap.size, 0, none⟩ = some (.int .i64 y0) := hk2.cell 0; have v1 : w10.cell? ⟨w9.heap.size, 1, none⟩ = some (.int .i64 y1) := hk2.cell 1; have v2 : w10.cell? ⟨w9.heap.size, 2, none⟩ = some (.int .i64 y2) := hk2.cell 2; have v3 : w10.cell? ⟨w9.heap.size, 3, none⟩ = some (.int .i64 y3) := hk2.cell 3; have v4 : w10.cell? ⟨w9.heap.size, 4, none⟩ = some (.int .i64 y4) := hk2.cell 4
      have ul := hk1.lt
      have vl := hk2.lt
      have hne := HNE.out
      have ha3 : (bb == bb) = true := by simp
      clear hk1 hk2 hw10 hB10 x0 x1 x2 x3 zl
      go_wp2_with fail
      refine (lives_any _).mono ?_; rintro en w11 ⟨rfl, b11⟩
      have HF := Lib.hid (HS10.out.below b11).bel
      clear b11
      go_wp2
      go_ret
      exact ⟨rfl, by rw [HZ.out]; exact HF.out⟩
end
end Go.Proofs.Ytljclikholchmaa
