/- The specification's Set, Give and Take; layer 9 (pool). -/
import Derived.Test.YtljclikholchmaaRe
namespace Go.Proofs.Ytljclikholchmaa
open Go.RowKit

/-- A block of old memory or of new memory. -/
def Fresh (Pr : Nat → Prop) (h : Nat) (A : Option Addr) : Prop := ∀ b f, A = some ⟨b, f, none⟩ → Pr b ∨ h ≤ b
/-- Where the rows of a pool lie. -/
def Own3 (Pr : Nat → Prop) (A D C : Option Addr) : Prop := (∀ b f, A = some ⟨b, f, none⟩ → Pr b) ∧ (∀ b f, D = some ⟨b, f, none⟩ → Pr b) ∧ (∀ b f, C = some ⟨b, f, none⟩ → Pr b)
theorem RowG.fresh {w : World} {B : Nat} {A : Option Addr} {c : Nat} {cs : List Value} (h : RowG w B A c cs) (n : Nat) : Fresh (fun x => x < B) n A := fun b f e => by
  rcases h with ⟨h1, _⟩ | ⟨b1, off, e1, hB, _⟩
  · rw [h1] at e; cases e
  · rw [e1] at e; cases e; exact .inl hB
theorem RowG.bl {w : World} {B : Nat} {A : Option Addr} {c : Nat} {cs : List Value} (h : RowG w B A c cs) {b f : Nat} (e : A = some ⟨b, f, none⟩) : b < B := by
  rcases h with ⟨h1, _⟩ | ⟨b1, off, e1, hB, _⟩
  · rw [h1] at e; cases e
  · rw [e1] at e; cases e; exact hB
/-- A row stands when one block that it doesn't lie in turns. -/
theorem RowG.put {w : World} {Pr : Nat → Prop} {n g : Nat} {A : Option Addr} {c : Nat} {cs : List Value} (h : RowG w w.heap.size A c cs) (hf : Fresh Pr n A) (h1 : ∀ b, Pr b → b ≠ g) (h2 : g < n) (a b d e : Value) :
    RowG ((((w.setCell ⟨g, 0, none⟩ a).setCell ⟨g, 1, none⟩ b).setCell ⟨g, 2, none⟩ d).setCell ⟨g, 3, none⟩ e) ((((w.setCell ⟨g, 0, none⟩ a).setCell ⟨g, 1, none⟩ b).setCell ⟨g, 2, none⟩ d).setCell ⟨g, 3, none⟩ e).heap.size A c cs := by
  refine (h.blocks (fun b f e => ?_)).more (by simp)
  have hne : b ≠ g := by
    rcases hf b f e with h | h
    · exact h1 b h
    · omega
  rw [set_blk1 _ _ _ hne, set_blk1 _ _ _ hne, set_blk1 _ _ _ hne, set_blk1 _ _ _ hne]
theorem below_set4 {B : Nat} {w w1 : World} (h : Below B w w1) {g : Nat} (hg : B ≤ g) (a b d e : Value) : Below B w ((((w1.setCell ⟨g, 0, none⟩ a).setCell ⟨g, 1, none⟩ b).setCell ⟨g, 2, none⟩ d).setCell ⟨g, 3, none⟩ e) :=
  (((h.setCell (p := ⟨g, 0, none⟩) hg _).setCell (p := ⟨g, 1, none⟩) hg _).setCell (p := ⟨g, 2, none⟩) hg _).setCell (p := ⟨g, 3, none⟩) hg _
/-- What an operation gives: the pool and a number. -/
def GivR2 (w : World) (Pr : Nat → Prop) (room : Int) (M : List Nd) (T : List Bool) (F : List Int) (v : Int) (en : Ending) (w' : World) : Prop := ∃ A c D d C e, en = .returned (.tuple #[.agg #[.int .i64 room, .slice A M.length c, .slice D T.length d, .slice C F.length e], .int .i64 v]) ∧ RPool w' w'.heap.size A c M D d T C e F ∧ (Fresh Pr w.heap.size A ∧ Fresh Pr w.heap.size D ∧ Fresh Pr w.heap.size C) ∧ Below w.heap.size w w'
theorem RPool.more {w : World} {B B' : Nat} {A D C : Option Addr} {c d e : Nat} {M : List Nd} {T : List Bool} {F : List Int} (h : RPool w B A c M D d T C e F) (hB : B ≤ B') : RPool w B' A c M D d T C e F := ⟨h.nodes.more hB, h.taken.more hB, h.free.more hB, h.cap⟩
/-- The three boxes with which Set and Take begin. -/
structure Box3 (w : World) (p : Array Value) (x : Array Value) (wx : World) : Prop where
  p : Blk wx w.heap.size 32 p
  x : Blk wx (w.heap.size + 1) 38 x
  z : Blk wx (w.heap.size + 1 + 1) 32 #[.int .i64 0, .slice none 0 0, .slice none 0 0, .slice none 0 0]
  b : Below w.heap.size w wx
theorem box3 (w : World) (p x : Array Value) {W : World} (hW : ((w.alloc (.cells p 32)).alloc (.cells x 38)).alloc (.cells #[.int .i64 0, .slice none 0 0, .slice none 0 0, .slice none 0 0] 32) = W) : W.heap.size = w.heap.size + 1 + 1 + 1 ∧ ∀ wx, Below W.heap.size W wx → Box3 w p x wx := by
  have blk : ∀ (w : World) (g : Nat) (ty : TypeId) (cs : Array Value), w.heap.size = g → Blk (w.alloc (.cells cs ty)) g ty cs := fun w g ty cs e => by rw [← e]; exact Blk.new w ty cs
  have hb : Below w.heap.size w W := by rw [← hW]; exact al (al (bal _ _) _) _
  have k1 : Blk W w.heap.size 32 p := by rw [← hW]; exact ((blk _ _ _ _ rfl).alloc _).alloc _
  have k2 : Blk W (w.heap.size + 1) 38 x := by rw [← hW]; exact (blk _ _ _ _ (by simp)).alloc _
  have k3 : Blk W (w.heap.size + 1 + 1) 32 #[.int .i64 0, .slice none 0 0, .slice none 0 0, .slice none 0 0] := by rw [← hW]; exact blk _ _ _ _ (by simp)
  exact ⟨by rw [← hW]; simp, fun wx h => ⟨k1.below h k1.lt, k2.below h k2.lt, k3.below h k3.lt, bt hb h⟩⟩
section
variable {w w' : World} {B : Nat} {A D C : Option Addr} {c d e : Nat} {M : List Nd} {T : List Bool} {F : List Int}
set_option maxRecDepth 100000 in
set_option maxHeartbeats 4000000 in
theorem r_Set (room : Int) (x0 x1 x2 x3 x4 : Int) (h : RPool w B A c M D d T C e F) {Pr : Nat → Prop} (hq : Own3 Pr A D C) (hpl : ∀ b, Pr b → b < w.heap.size) (hB : B ≤ w.heap.size) (hl : T.length ≤ 1000000) (hm : M.length = T.length) :
    Calls Try.prog 23 #[.agg (rpC room A c M.length D d T.length C e F.length), ndV ⟨x0, x1, x2, x3, x4⟩] w (GivR2 w Pr room (if hasT T x0 then M.set (x0 - 1).toNat ⟨x0, x1, x2, x3, x4⟩ else M) T F (if hasT T x0 then 0 else 5)) := by
  obtain ⟨W, hW⟩ : ∃ W, ((w.alloc (.cells #[.int .i64 room, .slice A M.length c, .slice D T.length d, .slice C F.length e] 32)).alloc (.cells #[.int .i64 x0, .int .i64 x1, .int .i64 x2, .int .i64 x3, .int .i64 x4] 38)).alloc (.cells #[.int .i64 0, .slice none 0 0, .slice none 0 0, .slice none 0 0] 32) = W := ⟨_, rfl⟩
  obtain ⟨hws, hX⟩ := box3 w _ _ hW
  have HX := Lib.hid hX
  have HWS := Lib.hid hws
  have HWW := Lib.hid hW
  have HR0 : Hid (Below W.heap.size W W) := Lib.hid (Below.refl _ _)
  have b0 := hX W (Below.refl _ _)
  have HBW := Lib.hid b0.b
  have p0 : W.cell? ⟨w.heap.size, 0, none⟩ = some (.int .i64 room) := b0.p.cell 0; have p1 : W.cell? ⟨w.heap.size, 1, none⟩ = some (.slice A M.length c) := b0.p.cell 1; have p2 : W.cell? ⟨w.heap.size, 2, none⟩ = some (.slice D T.length d) := b0.p.cell 2; have p3 : W.cell? ⟨w.heap.size, 3, none⟩ = some (.slice C F.length e) := b0.p.cell 3; have pl := b0.p.lt
  have x_0 : W.cell? ⟨w.heap.size + 1, 0, none⟩ = some (.int .i64 x0) := b0.x.cell 0; have x_1 : W.cell? ⟨w.heap.size + 1, 1, none⟩ = some (.int .i64 x1) := b0.x.cell 1; have x_2 : W.cell? ⟨w.heap.size + 1, 2, none⟩ = some (.int .i64 x2) := b0.x.cell 2; have x_3 : W.cell? ⟨w.heap.size + 1, 3, none⟩ = some (.int .i64 x3) := b0.x.cell 3; have x_4 : W.cell? ⟨w.heap.size + 1, 4, none⟩ = some (.int .i64 x4) := b0.x.cell 4; have x_l := b0.x.lt
  have HH : Hid (∀ wx, Below w.heap.size w wx → Calls Try.prog 26 #[.agg #[.int .i64 room, .slice A M.length c, .slice D T.length d, .slice C F.length e], .int .i64 x0] wx fun en w' => en = .returned (.bool (hasT T x0)) ∧ Below wx.heap.size wx w') := Lib.hid (fun wx hb => r_Has room x0 ((h.more hB).step hb) hl)
  have HRP : Hid (∀ wx, Below w.heap.size w wx → RPool wx wx.heap.size A c M D d T C e F) := Lib.hid (fun wx hb => (h.more hB).step hb)
  have HF : Hid (∀ n, Fresh Pr n A ∧ Fresh Pr n D ∧ Fresh Pr n C) := Lib.hid (fun n => ⟨fun b f e => .inl (hq.1 b f e), fun b f e => .inl (hq.2.1 b f e), fun b f e => .inl (hq.2.2 b f e)⟩)
  have HPL := Lib.hid hpl
  have HM := Lib.hid hm
  have HBB := Lib.hid hB
  show Calls Try.prog 23 #[.agg #[.int .i64 room, .slice A M.length c, .slice D T.length d, .slice C F.length e], .agg #[.int .i64 x0, .int .i64 x1, .int .i64 x2, .int .i64 x3, .int .i64 x4]] w _
  clear hpl hq h hB hm hW hX hws b0
  by_cases hh : hasT T x0 = true
  · rw [hh] at HH
    rw [if_pos hh, if_pos hh]
    unfold hasT at hh
    simp only [Bool.and_eq_true, decide_eq_true_eq] at hh
    obtain ⟨c1, c2, _⟩ := hh
    obtain ⟨i, rfl⟩ : ∃ i : Nat, x0 = (i : Int) + 1 := ⟨(x0 - 1).toNat, by omega⟩
    have hi : i < M.length := by have := HM.out; omega
    have e3 : ((i : Int) + 1 - 1).toNat = i := by omega
    rw [e3]
    have HP : Hid (∀ wx, Below w.heap.size w wx → Calls Try.prog 28 #[.agg #[.int .i64 room, .slice A M.length c, .slice D T.length d, .slice C F.length e], .agg #[.int .i64 ((i : Int) + 1), .int .i64 x1, .int .i64 x2, .int .i64 x3, .int .i64 x4]] wx (PutG wx room (M.set i ⟨(i : Int) + 1, x1, x2, x3, x4⟩) D d T.length C e F.length)) := Lib.hid (fun wx hb => r_put room T.length F.length (HRP.out wx hb).nodes (by have := HM.out; omega) i hi x1 x2 x3 x4)
    clear e3 c1 c2 hi
    go_enter Try.func23, Try.ntmps23
    go_upto_region 1 with (go_at_call 999)
    rw [HWW.out]
    go_wp2_with (first
      | (go_at_call 28; (with_reducible refine (HP.out _ (HX.out _ HB1.out).b).mono ?_); rintro en w2 ⟨A2, cc2, rfl, hR2, hF2, hb2⟩; have hbb := bt HB1.out hb2; have b2 := HX.out _ hbb; have zy0 : w2.cell? ⟨w.heap.size + 1 + 1, 0, none⟩ = some (.int .i64 0) := b2.z.cell 0; have zyf0 := b2.z.frozen 0; have zy1 : w2.cell? ⟨w.heap.size + 1 + 1, 1, none⟩ = some (.slice none 0 0) := b2.z.cell 1; have zyf1 := b2.z.frozen 1; have zy2 : w2.cell? ⟨w.heap.size + 1 + 1, 2, none⟩ = some (.slice none 0 0) := b2.z.cell 2; have zyf2 := b2.z.frozen 2; have zy3 : w2.cell? ⟨w.heap.size + 1 + 1, 3, none⟩ = some (.slice none 0 0) := b2.z.cell 3; have zyf3 := b2.z.frozen 3; have zyl := b2.z.lt; have HB2 := Lib.hid hbb; have HR2 := Lib.hid hR2; have HF2 := Lib.hid hF2; have HBS := Lib.hid HB1.out.size; have H12 := Lib.hid hb2; clear hR2 hF2 hb2 hbb b2)
      | (go_at_call 26; (with_reducible refine (HH.out _ HBW.out).mono ?_); rintro en w1 ⟨rfl, hb1⟩; have b1 := HX.out _ hb1; have pp0 : w1.cell? ⟨w.heap.size, 0, none⟩ = some (.int .i64 room) := b1.p.cell 0; have pp1 : w1.cell? ⟨w.heap.size, 1, none⟩ = some (.slice A M.length c) := b1.p.cell 1; have pp2 : w1.cell? ⟨w.heap.size, 2, none⟩ = some (.slice D T.length d) := b1.p.cell 2; have pp3 : w1.cell? ⟨w.heap.size, 3, none⟩ = some (.slice C F.length e) := b1.p.cell 3; have ppl := b1.p.lt; have xx0 : w1.cell? ⟨w.heap.size + 1, 0, none⟩ = some (.int .i64 ((i : Int) + 1)) := b1.x.cell 0; have xx1 : w1.cell? ⟨w.heap.size + 1, 1, none⟩ = some (.int .i64 x1) := b1.x.cell 1; have xx2 : w1.cell? ⟨w.heap.size + 1, 2, none⟩ = some (.int .i64 x2) := b1.x.cell 2; have xx3 : w1.cell? ⟨w.heap.size + 1, 3, none⟩ = some (.int .i64 x3) := b1.x.cell 3; have xx4 : w1.cell? ⟨w.heap.size + 1, 4, none⟩ = some (.int .i64 x4) := b1.x.cell 4; have xxl := b1.x.lt; have HB1 := Lib.hid hb1; clear hb1 b1))
    have hz := (HX.out _ HB2.out).z
    have h1 := HWS.out
    have h2 := HBB.out
    have h3 := HBS.out
    refine bodyPost_ret (res_rp rfl _ _ (w.heap.size + 1 + 1) _ _ _ _ rfl ((((hz.set_ 0 _).set_ 1 _).set_ 2 _).set_ 3 _)) rfl ⟨A2, cc2, D, d, C, e, by rw [List.length_set]; rfl, ?_, ?_, below_set4 (HX.out _ HB2.out).b (by omega) _ _ _ _⟩
    · have hr := HRP.out w2 (HX.out _ HB2.out).b
      have hf := HF.out w1.heap.size
      exact ⟨HR2.out.put (Pr := Pr) (n := w1.heap.size) (fun b f e => .inr (HF2.out b f e)) (fun b hb => by have := HPL.out b hb; omega) (by omega) _ _ _ _, hr.taken.put hf.2.1 (fun b hb => by have := HPL.out b hb; omega) (by omega) _ _ _ _, hr.free.put hf.2.2 (fun b hb => by have := HPL.out b hb; omega) (by omega) _ _ _ _, hr.cap⟩
    · exact ⟨fun b f e => .inr (by have := HF2.out b f e; omega), (HF.out _).2⟩
  · have hf : hasT T x0 = false := by simpa using hh
    rw [hf] at HH
    rw [if_neg hh, if_neg hh]
    clear hh hf
    go_enter Try.func23, Try.ntmps23
    go_upto_region 1 with (go_at_call 999)
    rw [HWW.out]
    go_wp2_with (first
      | (go_at_call 26; (with_reducible refine (HH.out _ HBW.out).mono ?_); rintro en w1 ⟨rfl, hb1⟩; have b1 := HX.out _ hb1; have pp0 : w1.cell? ⟨w.heap.size, 0, none⟩ = some (.int .i64 room) := b1.p.cell 0; have pp1 : w1.cell? ⟨w.heap.size, 1, none⟩ = some (.slice A M.length c) := b1.p.cell 1; have pp2 : w1.cell? ⟨w.heap.size, 2, none⟩ = some (.slice D T.length d) := b1.p.cell 2; have pp3 : w1.cell? ⟨w.heap.size, 3, none⟩ = some (.slice C F.length e) := b1.p.cell 3; have ppl := b1.p.lt; have zz0 : w1.cell? ⟨w.heap.size + 1 + 1, 0, none⟩ = some (.int .i64 0) := b1.z.cell 0; have zzf0 := b1.z.frozen 0; have zz1 : w1.cell? ⟨w.heap.size + 1 + 1, 1, none⟩ = some (.slice none 0 0) := b1.z.cell 1; have zzf1 := b1.z.frozen 1; have zz2 : w1.cell? ⟨w.heap.size + 1 + 1, 2, none⟩ = some (.slice none 0 0) := b1.z.cell 2; have zzf2 := b1.z.frozen 2; have zz3 : w1.cell? ⟨w.heap.size + 1 + 1, 3, none⟩ = some (.slice none 0 0) := b1.z.cell 3; have zzf3 := b1.z.frozen 3; have zzl := b1.z.lt; have HB1 := Lib.hid hb1; clear hb1 b1))
    have hz := (HX.out _ HB1.out).z
    have h1 := HWS.out
    have h2 := HBB.out
    have hr := HRP.out w1 (HX.out _ HB1.out).b
    have hf := HF.out (w.heap.size + 1 + 1 + 1)
    refine bodyPost_ret (res_rp rfl _ _ (w.heap.size + 1 + 1) _ _ _ _ rfl ((((hz.set_ 0 _).set_ 1 _).set_ 2 _).set_ 3 _)) rfl ⟨A, c, D, d, C, e, rfl, ⟨hr.nodes.put hf.1 (fun b hb => by have := HPL.out b hb; omega) (by omega) _ _ _ _, hr.taken.put hf.2.1 (fun b hb => by have := HPL.out b hb; omega) (by omega) _ _ _ _, hr.free.put hf.2.2 (fun b hb => by have := HPL.out b hb; omega) (by omega) _ _ _ _, hr.cap⟩, HF.out _, below_set4 (HX.out _ HB1.out).b (by omega) _ _ _ _⟩
end
end Go.Proofs.Ytljclikholchmaa
