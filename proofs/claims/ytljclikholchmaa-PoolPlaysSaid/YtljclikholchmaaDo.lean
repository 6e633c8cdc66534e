/- One step of the law: the program's pool and the specification's; layer 9 (pool). -/
import Derived.Test.YtljclikholchmaaRi
import Derived.Test.YtljclikholchmaaSm
namespace Go.Proofs.Ytljclikholchmaa
open Go.RowKit

theorem RPool.blocks {w w' : World} {A D C : Option Addr} {c d e n : Nat} {M : List Nd} {T : List Bool} {fr : List Int} {Pr : Nat → Prop} (h : RPool w w.heap.size A c M D d T C e fr) (hs : w.heap.size ≤ w'.heap.size) (hF : Fresh Pr n A ∧ Fresh Pr n D ∧ Fresh Pr n C)
    (hb : ∀ b, b < w.heap.size → (Pr b ∨ n ≤ b) → w'.heap[b]? = w.heap[b]?) : RPool w' w'.heap.size A c M D d T C e fr :=
  ⟨(h.nodes.blocks (fun b f e => hb b (h.nodes.bl e) (hF.1 b f e))).more hs, (h.taken.blocks (fun b f e => hb b (h.taken.bl e) (hF.2.1 b f e))).more hs, (h.free.blocks (fun b f e => hb b (h.free.bl e) (hF.2.2 b f e))).more hs, h.cap⟩
/-- The three boxes with which a step begins. -/
structure Box4 (w : World) (p x : Array Value) (wx : World) : Prop where
  p : Blk wx w.heap.size 32 p
  x : Blk wx (w.heap.size + 1) 40 x
  z : Blk wx (w.heap.size + 1 + 1) 32 #[.int .i64 0, .slice none 0 0, .slice none 0 0, .slice none 0 0]
theorem Box4.kept {w wa wb : World} {p x : Array Value} (h : Box4 w p x wa) (hk : ∀ b, w.heap.size ≤ b → b < wa.heap.size → wb.heap[b]? = wa.heap[b]?) : Box4 w p x wb :=
  ⟨(hk _ (Nat.le_refl _) h.p.lt).trans h.p, (hk _ (by omega) h.x.lt).trans h.x, (hk _ (by omega) h.z.lt).trans h.z⟩
theorem box4 (w : World) (p x : Array Value) {W : World} (hW : ((w.alloc (.cells p 32)).alloc (.cells x 40)).alloc (.cells #[.int .i64 0, .slice none 0 0, .slice none 0 0, .slice none 0 0] 32) = W) : W.heap.size = w.heap.size + 1 + 1 + 1 ∧ Below w.heap.size w W ∧ ∀ wx, Below W.heap.size W wx → Box4 w p x wx := by
  have blk : ∀ (w : World) (g : Nat) (ty : TypeId) (cs : Array Value), w.heap.size = g → Blk (w.alloc (.cells cs ty)) g ty cs := fun w g ty cs e => by rw [← e]; exact Blk.new w ty cs
  have hb : Below w.heap.size w W := by rw [← hW]; exact al (al (bal _ _) _) _
  have k1 : Blk W w.heap.size 32 p := by rw [← hW]; exact ((blk _ _ _ _ rfl).alloc _).alloc _
  have k2 : Blk W (w.heap.size + 1) 40 x := by rw [← hW]; exact (blk _ _ _ _ (by simp)).alloc _
  have k3 : Blk W (w.heap.size + 1 + 1) 32 #[.int .i64 0, .slice none 0 0, .slice none 0 0, .slice none 0 0] := by rw [← hW]; exact blk _ _ _ _ (by simp)
  exact ⟨by rw [← hW]; simp, hb, fun wx h => ⟨k1.below h k1.lt, k2.below h k2.lt, k3.below h k3.lt⟩⟩
/-- Where the specification's rows may lie: not in the program's pool, nor in the law's box. -/
def Out (F X : Nat → Prop) (n : Nat) : Nat → Prop := fun b => ¬ F b ∧ b < n ∧ ¬ X b
/-- What a step leaves. -/
def Done (w : World) (base bp : Nat) (room : Int) (F0 X : Nat → Prop) (N M : List Nd) (T : List Bool) (fr : List Int) (en : Ending) (w' : World) : Prop :=
  ∃ A c D d C e F, en = .returned (.tuple #[.agg #[.int .i64 room, .slice A M.length c, .slice D T.length d, .slice C fr.length e], .bool true]) ∧ RPool w' w'.heap.size A c M D d T C e fr ∧ Pl w' base bp room F N fr ∧ Own3 (Out F X w'.heap.size) A D C ∧ Frm F0 w w' ∧ ∀ b, F b → F0 b ∨ w.heap.size ≤ b
/-- The end of a step: the specification's new pool at w1, the program's at w3, and the result's box turned. -/
theorem done_end {w W w1 w2 w3 : World} {base bp : Nat} {room : Int} {F X : Nat → Prop} {N' M' : List Nd} {T' : List Bool} {fr' : List Int} {A1 D1 C1 : Option Addr} {c1 d1 e1 : Nat} (hXl : ∀ b, X b → b < w.heap.size) (hFl : ∀ b, F b → base ≤ b ∧ b < w.heap.size) (hWs : W.heap.size = w.heap.size + 1 + 1 + 1)
    (hR : RPool w1 w1.heap.size A1 c1 M' D1 d1 T' C1 e1 fr') (hq : Fresh (Out F X w.heap.size) W.heap.size A1 ∧ Fresh (Out F X w.heap.size) W.heap.size D1 ∧ Fresh (Out F X w.heap.size) W.heap.size C1) (h0 : Below w.heap.size w W) (h1 : Below W.heap.size W w1) (h2 : Below w1.heap.size w1 w2) (h3 : PlNext w2 base bp room F N' fr' w3) (v0 v1 v2 v3 : Value)
    {w4 : World} (h4 : w4 = (((w3.setCell ⟨w.heap.size + 1 + 1, 0, none⟩ v0).setCell ⟨w.heap.size + 1 + 1, 1, none⟩ v1).setCell ⟨w.heap.size + 1 + 1, 2, none⟩ v2).setCell ⟨w.heap.size + 1 + 1, 3, none⟩ v3) :
    RPool w4 w4.heap.size A1 c1 M' D1 d1 T' C1 e1 fr' ∧ (∃ F', Pl w4 base bp room F' N' fr' ∧ Own3 (Out F' X w4.heap.size) A1 D1 C1 ∧ ∀ b, F' b → F b ∨ w.heap.size ≤ b) ∧ Frm F w w4 := by
  obtain ⟨F', p1, p2, p3⟩ := h3
  have s1 := h1.size
  have s2 := h2.size
  have s3 := p2.size
  have s4 : w4.heap.size = w3.heap.size := by rw [h4]; simp
  have hb4 : ∀ b, b ≠ w.heap.size + 1 + 1 → w4.heap[b]? = w3.heap[b]? := fun b hb => by
    rw [h4, set_blk1 _ _ _ hb, set_blk1 _ _ _ hb, set_blk1 _ _ _ hb, set_blk1 _ _ _ hb]
  have hr2 : RPool w2 w2.heap.size A1 c1 M' D1 d1 T' C1 e1 fr' := hR.step h2
  have hno : ∀ b, Out F X w.heap.size b ∨ W.heap.size ≤ b → ¬ F b ∧ b ≠ w.heap.size + 1 + 1 := fun b hb => by
    rcases hb with hb | hb
    · exact ⟨hb.1, by have := hb.2.1; omega⟩
    · exact ⟨fun hf => by have := (hFl b hf).2; omega, by omega⟩
  have hr4 : RPool w4 w4.heap.size A1 c1 M' D1 d1 T' C1 e1 fr' := hr2.blocks (by omega) hq (fun b hb hp => by
    rw [hb4 b (hno b hp).2]
    exact p2.block b hb (hno b hp).1)
  have hF4 : ∀ b, F' b → b ≠ w.heap.size + 1 + 1 := fun b hb => by
    rcases p3 b hb with h | h
    · have := (hFl b h).2; omega
    · omega
  have hp4 : Pl w4 base bp room F' N' fr' := p1.frm (S := fun b => b = w.heap.size + 1 + 1) (by
    rw [h4]; exact ((((Frm.refl (fun b => b = w.heap.size + 1 + 1) w3).set (g := w.heap.size + 1 + 1) rfl 0 v0).set (g := w.heap.size + 1 + 1) rfl 1 v1).set (g := w.heap.size + 1 + 1) rfl 2 v2).set (g := w.heap.size + 1 + 1) rfl 3 v3) (fun b hb => hF4 b hb)
  have own : ∀ A : Option Addr, Fresh (Out F X w.heap.size) W.heap.size A → (∀ b f, A = some ⟨b, f, none⟩ → b < w1.heap.size) → ∀ b f, A = some ⟨b, f, none⟩ → Out F' X w4.heap.size b := fun A hf hl b f e => by
    have h5 := hl b f e
    refine ⟨fun h6 => ?_, by omega, ?_⟩
    rotate_left
    · rcases hf b f e with h7 | h7
      · exact h7.2.2
      · exact fun hx => by have := hXl b hx; omega
    rcases p3 b h6 with h7 | h7
    · exact (hno b (hf b f e)).1 h7
    · omega
  refine ⟨hr4, ⟨F', hp4, ⟨own _ hq.1 (fun b f e => hR.nodes.bl e), own _ hq.2.1 (fun b f e => hR.taken.bl e), own _ hq.2.2 (fun b f e => hR.free.bl e)⟩, fun b hb => by
    rcases p3 b hb with h | h
    · exact .inl h
    · exact .inr (by omega)⟩, ?_⟩
  have e2 : Below w.heap.size w w2 := (h0.trans (h1.mono (by omega))).trans (h2.mono (by omega))
  refine ⟨?_, ?_, ?_, by omega, fun k hk hkF => ?_⟩
  · rw [h4]; exact p2.os.trans e2.os
  · rw [h4]; exact p2.tape.trans e2.tape
  · rw [h4]; exact p2.output.trans e2.output
  · rw [hb4 k (by omega), p2.block k (by omega) hkF]
    exact e2.block k hk
section
variable {w : World} {base bp : Nat} {room : Int} {F X : Nat → Prop} {A D C : Option Addr} {c d e : Nat} {N M N' M' : List Nd} {T T' : List Bool} {fr fr' : List Int}
set_option maxRecDepth 100000 in
set_option maxHeartbeats 8000000 in
theorem do_2 (hp : Pl w base bp room F N fr) (hXl : ∀ b, X b → b < w.heap.size) (q : Nat) (hq255 : q ≤ 255) (hk : (q : Int) % 4 = 2) (id n0 n1 n2 n3 n4 v : Int)
    (hS : ∀ wx, Below w.heap.size w wx → Calls Try.prog 22 #[.agg #[.int .i64 room, .slice A M.length c, .slice D T.length d, .slice C fr.length e], .int .i64 id] wx (GivR2 wx (Out F X w.heap.size) room M' T' fr' v))
    (hP : ∀ wx, Below w.heap.size w wx → Calls Try.prog 20 #[.pointer (some ⟨bp, 0, none⟩), .int .i64 id] wx fun en w' => en = .returned (.int .i64 v) ∧ PlNext wx base bp room F N' fr' w') :
    Calls Try.prog 10 #[.pointer (some ⟨bp, 0, none⟩), .agg #[.int .i64 room, .slice A M.length c, .slice D T.length d, .slice C fr.length e], .agg #[.int .u8 (q : Int), .int .i64 id, .int .i64 n0, .int .i64 n1, .int .i64 n2, .int .i64 n3, .int .i64 n4]] w (Done w base bp room F X N' M' T' fr') := by
  obtain ⟨W, hW⟩ : ∃ W, ((w.alloc (.cells #[.int .i64 room, .slice A M.length c, .slice D T.length d, .slice C fr.length e] 32)).alloc (.cells #[.int .u8 (q : Int), .int .i64 id, .int .i64 n0, .int .i64 n1, .int .i64 n2, .int .i64 n3, .int .i64 n4] 40)).alloc (.cells #[.int .i64 0, .slice none 0 0, .slice none 0 0, .slice none 0 0] 32) = W := ⟨_, rfl⟩
  obtain ⟨hws, hbw, hX⟩ := box4 w _ _ hW
  have HX := Lib.hid hX
  have HWS := Lib.hid hws
  have HBW := Lib.hid hbw
  have HWW := Lib.hid hW
  have b0 := hX W (Below.refl _ _)
  have b0p := b0.p; have b0x := b0.x
  have p0 : W.cell? ⟨w.heap.size, 0, none⟩ = some (.int .i64 room) := b0p.cell 0; have p1 : W.cell? ⟨w.heap.size, 1, none⟩ = some (.slice A M.length c) := b0p.cell 1; have p2 : W.cell? ⟨w.heap.size, 2, none⟩ = some (.slice D T.length d) := b0p.cell 2; have p3 : W.cell? ⟨w.heap.size, 3, none⟩ = some (.slice C fr.length e) := b0p.cell 3; have pl := b0p.lt; have xa0 : W.cell? ⟨w.heap.size + 1, 0, none⟩ = some (.int .u8 (q : Int)) := b0x.cell 0; have xa1 : W.cell? ⟨w.heap.size + 1, 1, none⟩ = some (.int .i64 id) := b0x.cell 1; have xa2 : W.cell? ⟨w.heap.size + 1, 2, none⟩ = some (.int .i64 n0) := b0x.cell 2; have xa3 : W.cell? ⟨w.heap.size + 1, 3, none⟩ = some (.int .i64 n1) := b0x.cell 3; have xa4 : W.cell? ⟨w.heap.size + 1, 4, none⟩ = some (.int .i64 n2) := b0x.cell 4; have xa5 : W.cell? ⟨w.heap.size + 1, 5, none⟩ = some (.int .i64 n3) := b0x.cell 5; have xa6 : W.cell? ⟨w.heap.size + 1, 6, none⟩ = some (.int .i64 n4) := b0x.cell 6; have xal := b0x.lt
  have HS := Lib.hid (hS W hbw)
  have HP := Lib.hid hP
  have HFL : Hid (∀ b, F b → base ≤ b ∧ b < w.heap.size) := Lib.hid (fun b hb => hp.lo hb)
  have HBS := Lib.hid hXl
  have hq0 : (0 : Int) ≤ (q : Int) := by omega
  have hq1 : (q : Int) ≤ 255 := by omega
  clear hp hS hP hW hX hws hbw b0 b0p b0x hXl hq255
  go_enter Try.func10, Try.ntmps10
  go_upto_region 1 with (go_at_call 999)
  rw [HWW.out]
  go_upto_region 4 with (go_at_call 22; (with_reducible refine HS.out.mono ?_); rintro en w1 ⟨A1, c1, D1, d1, C1, e1, rfl, hR1, hF1, hb1⟩; have hz := hb1.size; have HB1 := Lib.hid hb1; have HR1 := Lib.hid hR1; have HF1 := Lib.hid hF1; clear hR1 hF1 hb1)
  obtain ⟨w2, hw2⟩ : ∃ w2, w1.alloc (.cells #[.int .i64 room, .slice A1 M'.length c1, .slice D1 T'.length d1, .slice C1 fr'.length e1] 32) = w2 := ⟨_, rfl⟩
  rw [hw2]
  have b1 := HX.out w1 HB1.out
  have k2 : Blk w2 w1.heap.size 32 #[.int .i64 room, .slice A1 M'.length c1, .slice D1 T'.length d1, .slice C1 fr'.length e1] := by rw [← hw2]; exact Blk.new _ _ _
  have h12 : Below w1.heap.size w1 w2 := by rw [← hw2]; exact bal _ _
  have B2 : Box4 w #[.int .i64 room, .slice A M.length c, .slice D T.length d, .slice C fr.length e] #[.int .u8 (q : Int), .int .i64 id, .int .i64 n0, .int .i64 n1, .int .i64 n2, .int .i64 n3, .int .i64 n4] w2 := b1.kept (fun b _ hb => h12.block b hb)
  have b2x := B2.x
  have o0 : w2.cell? ⟨w1.heap.size, 0, none⟩ = some (.int .i64 room) := k2.cell 0; have o1 : w2.cell? ⟨w1.heap.size, 1, none⟩ = some (.slice A1 M'.length c1) := k2.cell 1; have o2 : w2.cell? ⟨w1.heap.size, 2, none⟩ = some (.slice D1 T'.length d1) := k2.cell 2; have o3 : w2.cell? ⟨w1.heap.size, 3, none⟩ = some (.slice C1 fr'.length e1) := k2.cell 3; have ol := k2.lt; have xb0 : w2.cell? ⟨w.heap.size + 1, 0, none⟩ = some (.int .u8 (q : Int)) := b2x.cell 0; have xb1 : w2.cell? ⟨w.heap.size + 1, 1, none⟩ = some (.int .i64 id) := b2x.cell 1; have xb2 : w2.cell? ⟨w.heap.size + 1, 2, none⟩ = some (.int .i64 n0) := b2x.cell 2; have xb3 : w2.cell? ⟨w.heap.size + 1, 3, none⟩ = some (.int .i64 n1) := b2x.cell 3; have xb4 : w2.cell? ⟨w.heap.size + 1, 4, none⟩ = some (.int .i64 n2) := b2x.cell 4; have xb5 : w2.cell? ⟨w.heap.size + 1, 5, none⟩ = some (.int .i64 n3) := b2x.cell 5; have xb6 : w2.cell? ⟨w.heap.size + 1, 6, none⟩ = some (.int .i64 n4) := b2x.cell 6; have xbl := b2x.lt
  have HX2 : Hid (∀ w3, Frm F w2 w3 → Box4 w #[.int .i64 room, .slice A M.length c, .slice D T.length d, .slice C fr.length e] #[.int .u8 (q : Int), .int .i64 id, .int .i64 n0, .int .i64 n1, .int .i64 n2, .int .i64 n3, .int .i64 n4] w3 ∧ Blk w3 w1.heap.size 32 #[.int .i64 room, .slice A1 M'.length c1, .slice D1 T'.length d1, .slice C1 fr'.length e1]) := Lib.hid (fun w3 h3 => by
    have h5 := HFL.out
    have h6 := HB1.out.size
    have h7 := HWS.out
    exact ⟨B2.kept (fun b h1 h2 => h3.block b h2 (fun hf => by have := (h5 b hf).2; omega)), (h3.block _ k2.lt (fun hf => by have := (h5 _ hf).2; omega)).trans k2⟩)
  have HPC := Lib.hid (HP.out w2.drew (((HBW.out.trans (HB1.out.mono HBW.out.size)).trans (h12.mono (by have h6 := HB1.out.size; have h7 := HWS.out; omega))).drew))
  have HDR : Hid (∀ w3, Frm F w2.drew w3 → Frm F w2 w3) := Lib.hid (fun w3 h => (Frm.of_below (Below.refl w2.heap.size w2).drew).trans h)
  have H12 := Lib.hid h12
  have hz7 : W.heap.size ≤ w1.heap.size := HB1.out.size
  have hz8 := HWS.out
  have hno : w1.heap.size ≠ w.heap.size + 1 + 1 := by omega
  have hnx : w.heap.size + 1 ≠ w.heap.size + 1 + 1 := by omega
  clear p0 p1 p2 p3 pl xa0 xa1 xa2 xa3 xa4 xa5 xa6 xal hw2 b1 k2 h12 B2 b2x hz hz7 hz8 HX HP HS
  go_region_held3 (fun wx => wx.cell? ⟨w1.heap.size, 0, none⟩ = some (.int .i64 room) ∧ wx.cell? ⟨w1.heap.size, 1, none⟩ = some (.slice A1 M'.length c1) ∧ wx.cell? ⟨w1.heap.size, 2, none⟩ = some (.slice D1 T'.length d1) ∧ wx.cell? ⟨w1.heap.size, 3, none⟩ = some (.slice C1 fr'.length e1) ∧ wx.cell? ⟨w.heap.size + 1, 1, none⟩ = some (.int .i64 id)) (first
      | exact ⟨y0, y1, y2, y3, xd1⟩
      | exact ⟨o0, o1, o2, o3, xb1⟩
      | exact ⟨(cell_set4 _ hno _ _ _ _ _).trans y0, (cell_set4 _ hno _ _ _ _ _).trans y1, (cell_set4 _ hno _ _ _ _ _).trans y2, (cell_set4 _ hno _ _ _ _ _).trans y3, (cell_set4 _ hnx _ _ _ _ _).trans xd1⟩
      | go_keep) (first
      | (go_at_call 20; (with_reducible refine HPC.out.mono ?_); rintro en w3 ⟨rfl, hpn⟩; have hx3 := HX2.out w3 (HDR.out w3 (by obtain ⟨_, _, h2, _⟩ := hpn; exact h2)); have b3x := hx3.1.x; have b3z := hx3.1.z; have b3r := hx3.2; have y0 : w3.cell? ⟨w1.heap.size, 0, none⟩ = some (.int .i64 room) := b3r.cell 0; have y1 : w3.cell? ⟨w1.heap.size, 1, none⟩ = some (.slice A1 M'.length c1) := b3r.cell 1; have y2 : w3.cell? ⟨w1.heap.size, 2, none⟩ = some (.slice D1 T'.length d1) := b3r.cell 2; have y3 : w3.cell? ⟨w1.heap.size, 3, none⟩ = some (.slice C1 fr'.length e1) := b3r.cell 3; have yl := b3r.lt; have xd0 : w3.cell? ⟨w.heap.size + 1, 0, none⟩ = some (.int .u8 (q : Int)) := b3x.cell 0; have xd1 : w3.cell? ⟨w.heap.size + 1, 1, none⟩ = some (.int .i64 id) := b3x.cell 1; have xd2 : w3.cell? ⟨w.heap.size + 1, 2, none⟩ = some (.int .i64 n0) := b3x.cell 2; have xd3 : w3.cell? ⟨w.heap.size + 1, 3, none⟩ = some (.int .i64 n1) := b3x.cell 3; have xd4 : w3.cell? ⟨w.heap.size + 1, 4, none⟩ = some (.int .i64 n2) := b3x.cell 4; have xd5 : w3.cell? ⟨w.heap.size + 1, 5, none⟩ = some (.int .i64 n3) := b3x.cell 5; have xd6 : w3.cell? ⟨w.heap.size + 1, 6, none⟩ = some (.int .i64 n4) := b3x.cell 6; have xdl := b3x.lt; have zz0 : w3.cell? ⟨w.heap.size + 1 + 1, 0, none⟩ = some (.int .i64 0) := b3z.cell 0; have zzf0 := b3z.frozen 0; have zz1 : w3.cell? ⟨w.heap.size + 1 + 1, 1, none⟩ = some (.slice none 0 0) := b3z.cell 1; have zzf1 := b3z.frozen 1; have zz2 : w3.cell? ⟨w.heap.size + 1 + 1, 2, none⟩ = some (.slice none 0 0) := b3z.cell 2; have zzf2 := b3z.frozen 2; have zz3 : w3.cell? ⟨w.heap.size + 1 + 1, 3, none⟩ = some (.slice none 0 0) := b3z.cell 3; have zzf3 := b3z.frozen 3; have zzl := b3z.lt; have HPN := Lib.hid hpn; have HZ3 := Lib.hid b3z; clear hpn hx3 b3x b3z b3r))
  all_goals go_wp2
  all_goals
    have hfin := fun v0 v1 v2 v3 => done_end (base := base) (w2 := w2.drew) (w3 := w3) HBS.out HFL.out HWS.out HR1.out HF1.out HBW.out HB1.out H12.out.drew HPN.out v0 v1 v2 v3 rfl
    obtain ⟨f1, ⟨F', f2, f3, f5⟩, f4⟩ := hfin _ _ _ _
    exact bodyPost_ret (res_rp rfl _ _ (w.heap.size + 1 + 1) _ _ _ _ rfl ((((HZ3.out.set_ 0 _).set_ 1 _).set_ 2 _).set_ 3 _)) rfl ⟨A1, c1, D1, d1, C1, e1, F', rfl, f1, f2, f3, f4, f5⟩
set_option maxRecDepth 100000 in
set_option maxHeartbeats 8000000 in
theorem do_3 (hp : Pl w base bp room F N fr) (hXl : ∀ b, X b → b < w.heap.size) (q : Nat) (hq255 : q ≤ 255) (hk : (q : Int) % 4 = 3) (id n0 n1 n2 n3 n4 v : Int)
    (hS : ∀ wx, Below w.heap.size w wx → Calls Try.prog 23 #[.agg #[.int .i64 room, .slice A M.length c, .slice D T.length d, .slice C fr.length e], .agg #[.int .i64 n0, .int .i64 n1, .int .i64 n2, .int .i64 n3, .int .i64 n4]] wx (GivR2 wx (Out F X w.heap.size) room M' T' fr' v))
    (hP : ∀ wx, Below w.heap.size w wx → Calls Try.prog 21 #[.pointer (some ⟨bp, 0, none⟩), .agg #[.int .i64 n0, .int .i64 n1, .int .i64 n2, .int .i64 n3, .int .i64 n4]] wx fun en w' => en = .returned (.int .i64 v) ∧ PlNext wx base bp room F N' fr' w') :
    Calls Try.prog 10 #[.pointer (some ⟨bp, 0, none⟩), .agg #[.int .i64 room, .slice A M.length c, .slice D T.length d, .slice C fr.length e], .agg #[.int .u8 (q : Int), .int .i64 id, .int .i64 n0, .int .i64 n1, .int .i64 n2, .int .i64 n3, .int .i64 n4]] w (Done w base bp room F X N' M' T' fr') := by
  obtain ⟨W, hW⟩ : ∃ W, ((w.alloc (.cells #[.int .i64 room, .slice A M.length c, .slice D T.length d, .slice C fr.length e] 32)).alloc (.cells #[.int .u8 (q : Int), .int .i64 id, .int .i64 n0, .int .i64 n1, .int .i64 n2, .int .i64 n3, .int .i64 n4] 40)).alloc (.cells #[.int .i64 0, .slice none 0 0, .slice none 0 0, .slice none 0 0] 32) = W := ⟨_, rfl⟩
  obtain ⟨hws, hbw, hX⟩ := box4 w _ _ hW
  have HX := Lib.hid hX
  have HWS := Lib.hid hws
  have HBW := Lib.hid hbw
  have HWW := Lib.hid hW
  have b0 := hX W (Below.refl _ _)
  have b0p := b0.p; have b0x := b0.x
  have p0 : W.cell? ⟨w.heap.size, 0, none⟩ = some (.int .i64 room) := b0p.cell 0; have p1 : W.cell? ⟨w.heap.size, 1, none⟩ = some (.slice A M.length c) := b0p.cell 1; have p2 : W.cell? ⟨w.heap.size, 2, none⟩ = some (.slice D T.length d) := b0p.cell 2; have p3 : W.cell? ⟨w.heap.size, 3, none⟩ = some (.slice C fr.length e) := b0p.cell 3; have pl := b0p.lt; have xa0 : W.cell? ⟨w.heap.size + 1, 0, none⟩ = some (.int .u8 (q : Int)) := b0x.cell 0; have xa1 : W.cell? ⟨w.heap.size + 1, 1, none⟩ = some (.int .i64 id) := b0x.cell 1; have xa2 : W.cell? ⟨w.heap.size + 1, 2, none⟩ = some (.int .i64 n0) := b0x.cell 2; have xa3 : W.cell? ⟨w.heap.size + 1, 3, none⟩ = some (.int .i64 n1) := b0x.cell 3; have xa4 : W.cell? ⟨w.heap.size + 1, 4, none⟩ = some (.int .i64 n2) := b0x.cell 4; have xa5 : W.cell? ⟨w.heap.size + 1, 5, none⟩ = some (.int .i64 n3) := b0x.cell 5; have xa6 : W.cell? ⟨w.heap.size + 1, 6, none⟩ = some (.int .i64 n4) := b0x.cell 6; have xal := b0x.lt
  have HS := Lib.hid (hS W hbw)
  have HP := Lib.hid hP
  have HFL : Hid (∀ b, F b → base ≤ b ∧ b < w.heap.size) := Lib.hid (fun b hb => hp.lo hb)
  have HBS := Lib.hid hXl
  have hq0 : (0 : Int) ≤ (q : Int) := by omega
  have hq1 : (q : Int) ≤ 255 := by omega
  clear hp hS hP hW hX hws hbw b0 b0p b0x hXl hq255
  go_enter Try.func10, Try.ntmps10
  go_upto_region 1 with (go_at_call 999)
  rw [HWW.out]
  go_upto_region 7 with (go_at_call 23; (with_reducible refine HS.out.mono ?_); rintro en w1 ⟨A1, c1, D1, d1, C1, e1, rfl, hR1, hF1, hb1⟩; have hz := hb1.size; have HB1 := Lib.hid hb1; have HR1 := Lib.hid hR1; have HF1 := Lib.hid hF1; clear hR1 hF1 hb1)
  obtain ⟨w2, hw2⟩ : ∃ w2, w1.alloc (.cells #[.int .i64 room, .slice A1 M'.length c1, .slice D1 T'.length d1, .slice C1 fr'.length e1] 32) = w2 := ⟨_, rfl⟩
  rw [hw2]
  have b1 := HX.out w1 HB1.out
  have k2 : Blk w2 w1.heap.size 32 #[.int .i64 room, .slice A1 M'.length c1, .slice D1 T'.length d1, .slice C1 fr'.length e1] := by rw [← hw2]; exact Blk.new _ _ _
  have h12 : Below w1.heap.size w1 w2 := by rw [← hw2]; exact bal _ _
  have B2 : Box4 w #[.int .i64 room, .slice A M.length c, .slice D T.length d, .slice C fr.length e] #[.int .u8 (q : Int), .int .i64 id, .int .i64 n0, .int .i64 n1, .int .i64 n2, .int .i64 n3, .int .i64 n4] w2 := b1.kept (fun b _ hb => h12.block b hb)
  have b2x := B2.x
  have o0 : w2.cell? ⟨w1.heap.size, 0, none⟩ = some (.int .i64 room) := k2.cell 0; have o1 : w2.cell? ⟨w1.heap.size, 1, none⟩ = some (.slice A1 M'.length c1) := k2.cell 1; have o2 : w2.cell? ⟨w1.heap.size, 2, none⟩ = some (.slice D1 T'.length d1) := k2.cell 2; have o3 : w2.cell? ⟨w1.heap.size, 3, none⟩ = some (.slice C1 fr'.length e1) := k2.cell 3; have ol := k2.lt; have xb0 : w2.cell? ⟨w.heap.size + 1, 0, none⟩ = some (.int .u8 (q : Int)) := b2x.cell 0; have xb1 : w2.cell? ⟨w.heap.size + 1, 1, none⟩ = some (.int .i64 id) := b2x.cell 1; have xb2 : w2.cell? ⟨w.heap.size + 1, 2, none⟩ = some (.int .i64 n0) := b2x.cell 2; have xb3 : w2.cell? ⟨w.heap.size + 1, 3, none⟩ = some (.int .i64 n1) := b2x.cell 3; have xb4 : w2.cell? ⟨w.heap.size + 1, 4, none⟩ = some (.int .i64 n2) := b2x.cell 4; have xb5 : w2.cell? ⟨w.heap.size + 1, 5, none⟩ = some (.int .i64 n3) := b2x.cell 5; have xb6 : w2.cell? ⟨w.heap.size + 1, 6, none⟩ = some (.int .i64 n4) := b2x.cell 6; have xbl := b2x.lt
  have HX2 : Hid (∀ w3, Frm F w2 w3 → Box4 w #[.int .i64 room, .slice A M.length c, .slice D T.length d, .slice C fr.length e] #[.int .u8 (q : Int), .int .i64 id, .int .i64 n0, .int .i64 n1, .int .i64 n2, .int .i64 n3, .int .i64 n4] w3 ∧ Blk w3 w1.heap.size 32 #[.int .i64 room, .slice A1 M'.length c1, .slice D1 T'.length d1, .slice C1 fr'.length e1]) := Lib.hid (fun w3 h3 => by
    have h5 := HFL.out
    have h6 := HB1.out.size
    have h7 := HWS.out
    exact ⟨B2.kept (fun b h1 h2 => h3.block b h2 (fun hf => by have := (h5 b hf).2; omega)), (h3.block _ k2.lt (fun hf => by have := (h5 _ hf).2; omega)).trans k2⟩)
  have HPC := Lib.hid (HP.out w2.drew (((HBW.out.trans (HB1.out.mono HBW.out.size)).trans (h12.mono (by have h6 := HB1.out.size; have h7 := HWS.out; omega))).drew))
  have HDR : Hid (∀ w3, Frm F w2.drew w3 → Frm F w2 w3) := Lib.hid (fun w3 h => (Frm.of_below (Below.refl w2.heap.size w2).drew).trans h)
  have H12 := Lib.hid h12
  have hz7 : W.heap.size ≤ w1.heap.size := HB1.out.size
  have hz8 := HWS.out
  have hno : w1.heap.size ≠ w.heap.size + 1 + 1 := by omega
  have hnx : w.heap.size + 1 ≠ w.heap.size + 1 + 1 := by omega
  clear p0 p1 p2 p3 pl xa0 xa1 xa2 xa3 xa4 xa5 xa6 xal hw2 b1 k2 h12 B2 b2x hz hz7 hz8 HX HP HS
  go_region_held3 (fun wx => wx.cell? ⟨w1.heap.size, 0, none⟩ = some (.int .i64 room) ∧ wx.cell? ⟨w1.heap.size, 1, none⟩ = some (.slice A1 M'.length c1) ∧ wx.cell? ⟨w1.heap.size, 2, none⟩ = some (.slice D1 T'.length d1) ∧ wx.cell? ⟨w1.heap.size, 3, none⟩ = some (.slice C1 fr'.length e1) ∧ wx.cell? ⟨w.heap.size + 1, 2, none⟩ = some (.int .i64 n0) ∧ wx.cell? ⟨w.heap.size + 1, 3, none⟩ = some (.int .i64 n1) ∧ wx.cell? ⟨w.heap.size + 1, 4, none⟩ = some (.int .i64 n2) ∧ wx.cell? ⟨w.heap.size + 1, 5, none⟩ = some (.int .i64 n3) ∧ wx.cell? ⟨w.heap.size + 1, 6, none⟩ = some (.int .i64 n4)) (first
      | exact ⟨y0, y1, y2, y3, xd2, xd3, xd4, xd5, xd6⟩
      | exact ⟨o0, o1, o2, o3, xb2, xb3, xb4, xb5, xb6⟩
      | exact ⟨(cell_set4 _ hno _ _ _ _ _).trans y0, (cell_set4 _ hno _ _ _ _ _).trans y1, (cell_set4 _ hno _ _ _ _ _).trans y2, (cell_set4 _ hno _ _ _ _ _).trans y3, (cell_set4 _ hnx _ _ _ _ _).trans xd2, (cell_set4 _ hnx _ _ _ _ _).trans xd3, (cell_set4 _ hnx _ _ _ _ _).trans xd4, (cell_set4 _ hnx _ _ _ _ _).trans xd5, (cell_set4 _ hnx _ _ _ _ _).trans xd6⟩
      | go_keep) (first
      | (go_at_call 21; (with_reducible refine HPC.out.mono ?_); rintro en w3 ⟨rfl, hpn⟩; have hx3 := HX2.out w3 (HDR.out w3 (by obtain ⟨_, _, h2, _⟩ := hpn; exact h2)); have b3x := hx3.1.x; have b3z := hx3.1.z; have b3r := hx3.2; have y0 : w3.cell? ⟨w1.heap.size, 0, none⟩ = some (.int .i64 room) := b3r.cell 0; have y1 : w3.cell? ⟨w1.heap.size, 1, none⟩ = some (.slice A1 M'.length c1) := b3r.cell 1; have y2 : w3.cell? ⟨w1.heap.size, 2, none⟩ = some (.slice D1 T'.length d1) := b3r.cell 2; have y3 : w3.cell? ⟨w1.heap.size, 3, none⟩ = some (.slice C1 fr'.length e1) := b3r.cell 3; have yl := b3r.lt; have xd0 : w3.cell? ⟨w.heap.size + 1, 0, none⟩ = some (.int .u8 (q : Int)) := b3x.cell 0; have xd1 : w3.cell? ⟨w.heap.size + 1, 1, none⟩ = some (.int .i64 id) := b3x.cell 1; have xd2 : w3.cell? ⟨w.heap.size + 1, 2, none⟩ = some (.int .i64 n0) := b3x.cell 2; have xd3 : w3.cell? ⟨w.heap.size + 1, 3, none⟩ = some (.int .i64 n1) := b3x.cell 3; have xd4 : w3.cell? ⟨w.heap.size + 1, 4, none⟩ = some (.int .i64 n2) := b3x.cell 4; have xd5 : w3.cell? ⟨w.heap.size + 1, 5, none⟩ = some (.int .i64 n3) := b3x.cell 5; have xd6 : w3.cell? ⟨w.heap.size + 1, 6, none⟩ = some (.int .i64 n4) := b3x.cell 6; have xdl := b3x.lt; have zz0 : w3.cell? ⟨w.heap.size + 1 + 1, 0, none⟩ = some (.int .i64 0) := b3z.cell 0; have zzf0 := b3z.frozen 0; have zz1 : w3.cell? ⟨w.heap.size + 1 + 1, 1, none⟩ = some (.slice none 0 0) := b3z.cell 1; have zzf1 := b3z.frozen 1; have zz2 : w3.cell? ⟨w.heap.size + 1 + 1, 2, none⟩ = some (.slice none 0 0) := b3z.cell 2; have zzf2 := b3z.frozen 2; have zz3 : w3.cell? ⟨w.heap.size + 1 + 1, 3, none⟩ = some (.slice none 0 0) := b3z.cell 3; have zzf3 := b3z.frozen 3; have zzl := b3z.lt; have HPN := Lib.hid hpn; have HZ3 := Lib.hid b3z; clear hpn hx3 b3x b3z b3r))
  all_goals go_wp2
  all_goals
    have hfin := fun v0 v1 v2 v3 => done_end (base := base) (w2 := w2.drew) (w3 := w3) HBS.out HFL.out HWS.out HR1.out HF1.out HBW.out HB1.out H12.out.drew HPN.out v0 v1 v2 v3 rfl
    obtain ⟨f1, ⟨F', f2, f3, f5⟩, f4⟩ := hfin _ _ _ _
    exact bodyPost_ret (res_rp rfl _ _ (w.heap.size + 1 + 1) _ _ _ _ rfl ((((HZ3.out.set_ 0 _).set_ 1 _).set_ 2 _).set_ 3 _)) rfl ⟨A1, c1, D1, d1, C1, e1, F', rfl, f1, f2, f3, f4, f5⟩
set_option maxRecDepth 100000 in
set_option maxHeartbeats 8000000 in
theorem do_01 (hp : Pl w base bp room F N fr) (hXl : ∀ b, X b → b < w.heap.size) (q : Nat) (hq255 : q ≤ 255) (hk : ¬ (q : Int) % 4 = 2) (hk2 : ¬ (q : Int) % 4 = 3) (id n0 n1 n2 n3 n4 v u : Int)
    (hS : ∀ wx, Below w.heap.size w wx → Calls Try.prog 24 #[.agg #[.int .i64 room, .slice A M.length c, .slice D T.length d, .slice C fr.length e], .agg #[.int .i64 n0, .int .i64 n1, .int .i64 n2, .int .i64 n3, .int .i64 n4]] wx (GivR3 wx (Out F X w.heap.size) room M' T' fr' v u))
    (hP : ∀ wx, Below w.heap.size w wx → Calls Try.prog 19 #[.pointer (some ⟨bp, 0, none⟩), .agg #[.int .i64 n0, .int .i64 n1, .int .i64 n2, .int .i64 n3, .int .i64 n4]] wx fun en w' => en = .returned (.tuple #[.int .i64 v, .int .i64 u]) ∧ PlNext wx base bp room F N' fr' w') :
    Calls Try.prog 10 #[.pointer (some ⟨bp, 0, none⟩), .agg #[.int .i64 room, .slice A M.length c, .slice D T.length d, .slice C fr.length e], .agg #[.int .u8 (q : Int), .int .i64 id, .int .i64 n0, .int .i64 n1, .int .i64 n2, .int .i64 n3, .int .i64 n4]] w (Done w base bp room F X N' M' T' fr') := by
  obtain ⟨W, hW⟩ : ∃ W, ((w.alloc (.cells #[.int .i64 room, .slice A M.length c, .slice D T.length d, .slice C fr.length e] 32)).alloc (.cells #[.int .u8 (q : Int), .int .i64 id, .int .i64 n0, .int .i64 n1, .int .i64 n2, .int .i64 n3, .int .i64 n4] 40)).alloc (.cells #[.int .i64 0, .slice none 0 0, .slice none 0 0, .slice none 0 0] 32) = W := ⟨_, rfl⟩
  obtain ⟨hws, hbw, hX⟩ := box4 w _ _ hW
  have HX := Lib.hid hX
  have HWS := Lib.hid hws
  have HBW := Lib.hid hbw
  have HWW := Lib.hid hW
  have b0 := hX W (Below.refl _ _)
  have b0p := b0.p; have b0x := b0.x
  have p0 : W.cell? ⟨w.heap.size, 0, none⟩ = some (.int .i64 room) := b0p.cell 0; have p1 : W.cell? ⟨w.heap.size, 1, none⟩ = some (.slice A M.length c) := b0p.cell 1; have p2 : W.cell? ⟨w.heap.size, 2, none⟩ = some (.slice D T.length d) := b0p.cell 2; have p3 : W.cell? ⟨w.heap.size, 3, none⟩ = some (.slice C fr.length e) := b0p.cell 3; have pl := b0p.lt; have xa0 : W.cell? ⟨w.heap.size + 1, 0, none⟩ = some (.int .u8 (q : Int)) := b0x.cell 0; have xa1 : W.cell? ⟨w.heap.size + 1, 1, none⟩ = some (.int .i64 id) := b0x.cell 1; have xa2 : W.cell? ⟨w.heap.size + 1, 2, none⟩ = some (.int .i64 n0) := b0x.cell 2; have xa3 : W.cell? ⟨w.heap.size + 1, 3, none⟩ = some (.int .i64 n1) := b0x.cell 3; have xa4 : W.cell? ⟨w.heap.size + 1, 4, none⟩ = some (.int .i64 n2) := b0x.cell 4; have xa5 : W.cell? ⟨w.heap.size + 1, 5, none⟩ = some (.int .i64 n3) := b0x.cell 5; have xa6 : W.cell? ⟨w.heap.size + 1, 6, none⟩ = some (.int .i64 n4) := b0x.cell 6; have xal := b0x.lt
  have HS := Lib.hid (hS W hbw)
  have HP := Lib.hid hP
  have HFL : Hid (∀ b, F b → base ≤ b ∧ b < w.heap.size) := Lib.hid (fun b hb => hp.lo hb)
  have HBS := Lib.hid hXl
  have hq0 : (0 : Int) ≤ (q : Int) := by omega
  have hq1 : (q : Int) ≤ 255 := by omega
  clear hp hS hP hW hX hws hbw b0 b0p b0x hXl hq255
  go_enter Try.func10, Try.ntmps10
  go_upto_region 1 with (go_at_call 999)
  rw [HWW.out]
  go_upto_region 9 with (go_at_call 24; (with_reducible refine HS.out.mono ?_); rintro en w1 ⟨A1, c1, D1, d1, C1, e1, rfl, hR1, hF1, hb1⟩; have hz := hb1.size; have HB1 := Lib.hid hb1; have HR1 := Lib.hid hR1; have HF1 := Lib.hid hF1; clear hR1 hF1 hb1)
  obtain ⟨w2, hw2⟩ : ∃ w2, w1.alloc (.cells #[.int .i64 room, .slice A1 M'.length c1, .slice D1 T'.length d1, .slice C1 fr'.length e1] 32) = w2 := ⟨_, rfl⟩
  rw [hw2]
  have b1 := HX.out w1 HB1.out
  have k2 : Blk w2 w1.heap.size 32 #[.int .i64 room, .slice A1 M'.length c1, .slice D1 T'.length d1, .slice C1 fr'.length e1] := by rw [← hw2]; exact Blk.new _ _ _
  have h12 : Below w1.heap.size w1 w2 := by rw [← hw2]; exact bal _ _
  have B2 : Box4 w #[.int .i64 room, .slice A M.length c, .slice D T.length d, .slice C fr.length e] #[.int .u8 (q : Int), .int .i64 id, .int .i64 n0, .int .i64 n1, .int .i64 n2, .int .i64 n3, .int .i64 n4] w2 := b1.kept (fun b _ hb => h12.block b hb)
  have b2x := B2.x
  have o0 : w2.cell? ⟨w1.heap.size, 0, none⟩ = some (.int .i64 room) := k2.cell 0; have o1 : w2.cell? ⟨w1.heap.size, 1, none⟩ = some (.slice A1 M'.length c1) := k2.cell 1; have o2 : w2.cell? ⟨w1.heap.size, 2, none⟩ = some (.slice D1 T'.length d1) := k2.cell 2; have o3 : w2.cell? ⟨w1.heap.size, 3, none⟩ = some (.slice C1 fr'.length e1) := k2.cell 3; have ol := k2.lt; have xb0 : w2.cell? ⟨w.heap.size + 1, 0, none⟩ = some (.int .u8 (q : Int)) := b2x.cell 0; have xb1 : w2.cell? ⟨w.heap.size + 1, 1, none⟩ = some (.int .i64 id) := b2x.cell 1; have xb2 : w2.cell? ⟨w.heap.size + 1, 2, none⟩ = some (.int .i64 n0) := b2x.cell 2; have xb3 : w2.cell? ⟨w.heap.size + 1, 3, none⟩ = some (.int .i64 n1) := b2x.cell 3; have xb4 : w2.cell? ⟨w.heap.size + 1, 4, none⟩ = some (.int .i64 n2) := b2x.cell 4; have xb5 : w2.cell? ⟨w.heap.size + 1, 5, none⟩ = some (.int .i64 n3) := b2x.cell 5; have xb6 : w2.cell? ⟨w.heap.size + 1, 6, none⟩ = some (.int .i64 n4) := b2x.cell 6; have xbl := b2x.lt
  have HX2 : Hid (∀ w3, Frm F w2 w3 → Box4 w #[.int .i64 room, .slice A M.length c, .slice D T.length d, .slice C fr.length e] #[.int .u8 (q : Int), .int .i64 id, .int .i64 n0, .int .i64 n1, .int .i64 n2, .int .i64 n3, .int .i64 n4] w3 ∧ Blk w3 w1.heap.size 32 #[.int .i64 room, .slice A1 M'.length c1, .slice D1 T'.length d1, .slice C1 fr'.length e1]) := Lib.hid (fun w3 h3 => by
    have h5 := HFL.out
    have h6 := HB1.out.size
    have h7 := HWS.out
    exact ⟨B2.kept (fun b h1 h2 => h3.block b h2 (fun hf => by have := (h5 b hf).2; omega)), (h3.block _ k2.lt (fun hf => by have := (h5 _ hf).2; omega)).trans k2⟩)
  have HPC := Lib.hid (HP.out w2 ((HBW.out.trans (HB1.out.mono HBW.out.size)).trans (h12.mono (by have h6 := HB1.out.size; have h7 := HWS.out; omega))))
  have HDR : Hid (∀ w3, Frm F w2.drew w3 → Frm F w2 w3) := Lib.hid (fun w3 h => (Frm.of_below (Below.refl w2.heap.size w2).drew).trans h)
  have H12 := Lib.hid h12
  have hz7 : W.heap.size ≤ w1.heap.size := HB1.out.size
  have hz8 := HWS.out
  have hno : w1.heap.size ≠ w.heap.size + 1 + 1 := by omega
  have hnx : w.heap.size + 1 ≠ w.heap.size + 1 + 1 := by omega
  clear p0 p1 p2 p3 pl xa0 xa1 xa2 xa3 xa4 xa5 xa6 xal hw2 b1 k2 h12 B2 b2x hz hz7 hz8 HX HP HS
  go_upto_region 10 with (go_at_call 19; (with_reducible refine HPC.out.mono ?_); rintro en w3 ⟨rfl, hpn⟩; have hx3 := HX2.out w3 (by obtain ⟨_, _, h2, _⟩ := hpn; exact h2); have b3x := hx3.1.x; have b3z := hx3.1.z; have b3r := hx3.2; have y0 : w3.cell? ⟨w1.heap.size, 0, none⟩ = some (.int .i64 room) := b3r.cell 0; have y1 : w3.cell? ⟨w1.heap.size, 1, none⟩ = some (.slice A1 M'.length c1) := b3r.cell 1; have y2 : w3.cell? ⟨w1.heap.size, 2, none⟩ = some (.slice D1 T'.length d1) := b3r.cell 2; have y3 : w3.cell? ⟨w1.heap.size, 3, none⟩ = some (.slice C1 fr'.length e1) := b3r.cell 3; have yl := b3r.lt; have xd0 : w3.cell? ⟨w.heap.size + 1, 0, none⟩ = some (.int .u8 (q : Int)) := b3x.cell 0; have xd1 : w3.cell? ⟨w.heap.size + 1, 1, none⟩ = some (.int .i64 id) := b3x.cell 1; have xd2 : w3.cell? ⟨w.heap.size + 1, 2, none⟩ = some (.int .i64 n0) := b3x.cell 2; have xd3 : w3.cell? ⟨w.heap.size + 1, 3, none⟩ = some (.int .i64 n1) := b3x.cell 3; have xd4 : w3.cell? ⟨w.heap.size + 1, 4, none⟩ = some (.int .i64 n2) := b3x.cell 4; have xd5 : w3.cell? ⟨w.heap.size + 1, 5, none⟩ = some (.int .i64 n3) := b3x.cell 5; have xd6 : w3.cell? ⟨w.heap.size + 1, 6, none⟩ = some (.int .i64 n4) := b3x.cell 6; have xdl := b3x.lt; have zz0 : w3.cell? ⟨w.heap.size + 1 + 1, 0, none⟩ = some (.int .i64 0) := b3z.cell 0; have zzf0 := b3z.frozen 0; have zz1 : w3.cell? ⟨w.heap.size + 1 + 1, 1, none⟩ = some (.slice none 0 0) := b3z.cell 1; have zzf1 := b3z.frozen 1; have zz2 : w3.cell? ⟨w.heap.size + 1 + 1, 2, none⟩ = some (.slice none 0 0) := b3z.cell 2; have zzf2 := b3z.frozen 2; have zz3 : w3.cell? ⟨w.heap.size + 1 + 1, 3, none⟩ = some (.slice none 0 0) := b3z.cell 3; have zzf3 := b3z.frozen 3; have zzl := b3z.lt; have HPN := Lib.hid hpn; have HZ3 := Lib.hid b3z; clear hpn hx3 b3x b3z b3r)
  go_wp2
  all_goals
    have hfin := fun v0 v1 v2 v3 => done_end (base := base) (w2 := w2) (w3 := w3) HBS.out HFL.out HWS.out HR1.out HF1.out HBW.out HB1.out H12.out HPN.out v0 v1 v2 v3 rfl
    obtain ⟨f1, ⟨F', f2, f3, f5⟩, f4⟩ := hfin _ _ _ _
    exact bodyPost_ret (res_rp rfl _ _ (w.heap.size + 1 + 1) _ _ _ _ rfl ((((HZ3.out.set_ 0 _).set_ 1 _).set_ 2 _).set_ 3 _)) rfl ⟨A1, c1, D1, d1, C1, e1, F', rfl, f1, f2, f3, f4, f5⟩
end
end Go.Proofs.Ytljclikholchmaa
