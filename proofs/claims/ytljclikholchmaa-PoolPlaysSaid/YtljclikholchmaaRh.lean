/- The specification's Take; layer 9 (pool). -/
import Derived.Test.YtljclikholchmaaRg
namespace Go.Proofs.Ytljclikholchmaa
open Go.RowKit

theorem res_rp3 {fn : Func} {p u v : Tmp} (h : fn.results = #[.cell p 32, .tmp u, .tmp v]) (tmps : Array Value) (w : World) (g : Nat) (a b c d : Value) (hp : tmps.getD p undef = .pointer (some ⟨g, 0, none⟩)) (hg : Blk w g 32 #[a, b, c, d]) :
    (results fn tmps).run Try.prog w = .ok (.tuple #[.agg #[a, b, c, d], tmps.getD u undef, tmps.getD v undef]) w := by
  have h3 : (results fn tmps).run Try.prog w = ((asAddr (tmps.getD p undef)).run Try.prog w).andThen fun a w₁ => ((loadVar 32 a).run Try.prog w₁).andThen fun x w₂ => .ok (.tuple #[x, tmps.getD u undef, tmps.getD v undef]) w₂ := by
    simp only [results, h]
    simp [Sem.run_bind, Result.andThen]
  rw [h3, hp]
  have h2 := run_loadVar_row (P := Try.prog) w g 32 32 #[a, b, c, d] (0, 0) _ hg Try.underlying32 rfl size32
  simp [asAddr, Result.andThen, h2]
/-- What Take gives: the pool and two numbers. -/
def GivR3 (w : World) (Pr : Nat → Prop) (room : Int) (M : List Nd) (T : List Bool) (F : List Int) (v u : Int) (en : Ending) (w' : World) : Prop := ∃ A c D d C e, en = .returned (.tuple #[.agg #[.int .i64 room, .slice A M.length c, .slice D T.length d, .slice C F.length e], .int .i64 v, .int .i64 u]) ∧ RPool w' w'.heap.size A c M D d T C e F ∧ (Fresh Pr w.heap.size A ∧ Fresh Pr w.heap.size D ∧ Fresh Pr w.heap.size C) ∧ Below w.heap.size w w'
section
variable {w w' : World} {B : Nat} {A D C : Option Addr} {c d e : Nat} {M : List Nd} {T : List Bool} {F : List Int}
set_option maxRecDepth 100000 in
set_option maxHeartbeats 4000000 in
theorem r_Take_full (room : Int) (x0 x1 x2 x3 x4 : Int) (h : RPool w B A c M D d T C e F) {Pr : Nat → Prop} (hq : Own3 Pr A D C) (hpl : ∀ b, Pr b → b < w.heap.size) (hB : B ≤ w.heap.size) (hl : T.length ≤ 1000000) (hr : room ≤ (cntT T : Nat)) :
    Calls Try.prog 24 #[.agg (rpC room A c M.length D d T.length C e F.length), ndV ⟨x0, x1, x2, x3, x4⟩] w (GivR3 w Pr room M T F 0 7) := by
  obtain ⟨W, hW⟩ : ∃ W, ((w.alloc (.cells #[.int .i64 room, .slice A M.length c, .slice D T.length d, .slice C F.length e] 32)).alloc (.cells #[.int .i64 x0, .int .i64 x1, .int .i64 x2, .int .i64 x3, .int .i64 x4] 38)).alloc (.cells #[.int .i64 0, .slice none 0 0, .slice none 0 0, .slice none 0 0] 32) = W := ⟨_, rfl⟩
  obtain ⟨hws, hX⟩ := box3 w _ _ hW
  have HX := Lib.hid hX
  have HWS := Lib.hid hws
  have HWW := Lib.hid hW
  have b0 := hX W (Below.refl _ _)
  have HBW := Lib.hid b0.b
  have b0p := b0.p; have b0x := b0.x
  have p0 : W.cell? ⟨w.heap.size, 0, none⟩ = some (.int .i64 room) := b0p.cell 0; have p1 : W.cell? ⟨w.heap.size, 1, none⟩ = some (.slice A M.length c) := b0p.cell 1; have p2 : W.cell? ⟨w.heap.size, 2, none⟩ = some (.slice D T.length d) := b0p.cell 2; have p3 : W.cell? ⟨w.heap.size, 3, none⟩ = some (.slice C F.length e) := b0p.cell 3; have pl := b0p.lt; have x_0 : W.cell? ⟨w.heap.size + 1, 0, none⟩ = some (.int .i64 x0) := b0x.cell 0; have x_1 : W.cell? ⟨w.heap.size + 1, 1, none⟩ = some (.int .i64 x1) := b0x.cell 1; have x_2 : W.cell? ⟨w.heap.size + 1, 2, none⟩ = some (.int .i64 x2) := b0x.cell 2; have x_3 : W.cell? ⟨w.heap.size + 1, 3, none⟩ = some (.int .i64 x3) := b0x.cell 3; have x_4 : W.cell? ⟨w.heap.size + 1, 4, none⟩ = some (.int .i64 x4) := b0x.cell 4; have x_l := b0x.lt
  have HL : Hid (∀ wx, Below w.heap.size w wx → Calls Try.prog 14 #[.agg #[.int .i64 room, .slice A M.length c, .slice D T.length d, .slice C F.length e]] wx fun en w' => en = .returned (.int .i64 (cntT T : Nat)) ∧ Below wx.heap.size wx w') := Lib.hid (fun wx hb => r_Len room ((h.more hB).step hb) hl)
  have HRP : Hid (∀ wx, Below w.heap.size w wx → RPool wx wx.heap.size A c M D d T C e F) := Lib.hid (fun wx hb => (h.more hB).step hb)
  have HF : Hid (∀ n, Fresh Pr n A ∧ Fresh Pr n D ∧ Fresh Pr n C) := Lib.hid (fun n => ⟨fun b f e => .inl (hq.1 b f e), fun b f e => .inl (hq.2.1 b f e), fun b f e => .inl (hq.2.2 b f e)⟩)
  have HPL := Lib.hid hpl
  have HBB := Lib.hid hB
  show Calls Try.prog 24 #[.agg #[.int .i64 room, .slice A M.length c, .slice D T.length d, .slice C F.length e], .agg #[.int .i64 x0, .int .i64 x1, .int .i64 x2, .int .i64 x3, .int .i64 x4]] w _
  clear hpl hq h hB hl hW hX hws b0 b0p b0x
  go_enter Try.func24, Try.ntmps24
  go_upto_region 1 with (go_at_call 999)
  rw [HWW.out]
  have HBD : Hid (Below w.heap.size w W.drew) := Lib.hid HBW.out.drew
  go_region_held3 (fun wx => wx.cell? ⟨w.heap.size, 0, none⟩ = some (.int .i64 room) ∧ wx.cell? ⟨w.heap.size, 1, none⟩ = some (.slice A M.length c) ∧ wx.cell? ⟨w.heap.size, 2, none⟩ = some (.slice D T.length d) ∧ wx.cell? ⟨w.heap.size, 3, none⟩ = some (.slice C F.length e)) (first
      | exact ⟨q0, q1, q2, q3⟩
      | exact ⟨p0, p1, p2, p3⟩
      | go_keep) (first
      | (go_at_call 14; (with_reducible refine (HL.out _ HBD.out).mono ?_); rintro en w1 ⟨rfl, hb1⟩; have hb1 := ((Below.refl W.heap.size W).drew).trans hb1; have b1 := HX.out _ hb1; have b1p := b1.p; have q0 : w1.cell? ⟨w.heap.size, 0, none⟩ = some (.int .i64 room) := b1p.cell 0; have q1 : w1.cell? ⟨w.heap.size, 1, none⟩ = some (.slice A M.length c) := b1p.cell 1; have q2 : w1.cell? ⟨w.heap.size, 2, none⟩ = some (.slice D T.length d) := b1p.cell 2; have q3 : w1.cell? ⟨w.heap.size, 3, none⟩ = some (.slice C F.length e) := b1p.cell 3; have ql := b1p.lt; have HB1 := Lib.hid hb1; clear hb1 b1 b1p))
  all_goals (have b1z := (HX.out _ HB1.out).z; have zz0 : w1.cell? ⟨w.heap.size + 1 + 1, 0, none⟩ = some (.int .i64 0) := b1z.cell 0; have zzf0 := b1z.frozen 0; have zz1 : w1.cell? ⟨w.heap.size + 1 + 1, 1, none⟩ = some (.slice none 0 0) := b1z.cell 1; have zzf1 := b1z.frozen 1; have zz2 : w1.cell? ⟨w.heap.size + 1 + 1, 2, none⟩ = some (.slice none 0 0) := b1z.cell 2; have zzf2 := b1z.frozen 2; have zz3 : w1.cell? ⟨w.heap.size + 1 + 1, 3, none⟩ = some (.slice none 0 0) := b1z.cell 3; have zzf3 := b1z.frozen 3; have zzl := b1z.lt; clear b1z; go_wp2)
  all_goals
    have hz := (HX.out _ HB1.out).z
    have h1 := HWS.out
    have h2 := HBB.out
    have hr := HRP.out w1 (HX.out _ HB1.out).b
    have hf := HF.out (w.heap.size + 1 + 1 + 1)
    exact bodyPost_ret (res_rp3 rfl _ _ (w.heap.size + 1 + 1) _ _ _ _ rfl ((((hz.set_ 0 _).set_ 1 _).set_ 2 _).set_ 3 _)) rfl ⟨A, c, D, d, C, e, rfl, ⟨hr.nodes.put hf.1 (fun b hb => by have := HPL.out b hb; omega) (by omega) _ _ _ _, hr.taken.put hf.2.1 (fun b hb => by have := HPL.out b hb; omega) (by omega) _ _ _ _, hr.free.put hf.2.2 (fun b hb => by have := HPL.out b hb; omega) (by omega) _ _ _ _, hr.cap⟩, HF.out _, below_set4 (HX.out _ HB1.out).b (by omega) _ _ _ _⟩
end
end Go.Proofs.Ytljclikholchmaa
