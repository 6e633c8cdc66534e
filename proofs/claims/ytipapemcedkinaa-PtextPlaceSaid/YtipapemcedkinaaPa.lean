/- Parse of layer 7 (ptext), the program's. -/
import Derived.Test.YtipapemcedkinaaP9
namespace Go.Proofs.Ytipapemcedkinaa
open Go.RowKit Go.PlainAid

/-- What Parse answers: the expression, the place, the fault. -/
def parsR (s : ByteArray) : Ex × Int × Int :=
  if 65536 < s.size then (ex0, 0, 4) else
  match exprF s (2 * s.size + 2) 0 with
  | .bad a => (ex0, a, 3)
  | .ok t a => if a < s.size then (ex0, a, 3) else if chkE t = 0 then (t, s.size, 0) else (ex0, 0, chkE t)
def PR3 (R : Ex × Int × Int) (w : World) (e : Ending) (w' : World) : Prop := ∃ A c, e = .returned (.tuple #[exV R.1 A c, .int .i64 R.2.1, .int .i64 R.2.2]) ∧ Below w.heap.size w w' ∧ Rep w'.heap.size w' A R.1
/-- The three boxes of the results. -/
structure BX (w wx : World) (v0 v1 v2 v3 v4 : Value) : Prop where
  b0 : Blk wx w.heap.size 25 #[v0, v1, v2]
  b1 : Blk wx (w.heap.size + 1) 3 #[v3]
  b2 : Blk wx (w.heap.size + 1 + 1) 26 #[v4]
  be : Below w.heap.size w wx
section
variable {w wx : World} {v0 v1 v2 v3 v4 u0 u1 u2 u3 u4 : Value}
theorem BX.start (w : World) (v0 v1 v2 v3 v4 : Value) : BX w (((w.alloc (.cells #[v0, v1, v2] 25)).alloc (.cells #[v3] 3)).alloc (.cells #[v4] 26)) v0 v1 v2 v3 v4 := by
  have e1 : (w.alloc (.cells #[v0, v1, v2] 25)).heap.size = w.heap.size + 1 := by simp
  have e2 : ((w.alloc (.cells #[v0, v1, v2] 25)).alloc (.cells #[v3] 3)).heap.size = w.heap.size + 1 + 1 := by simp
  refine ⟨((Blk.new w 25 _).alloc _).alloc _, ?_, ?_, al (al (al (Below.refl _ _) _) _) _⟩
  · have h := Blk.new (w.alloc (.cells #[v0, v1, v2] 25)) 3 #[v3]
    rw [e1] at h
    exact h.alloc _
  · have h := Blk.new ((w.alloc (.cells #[v0, v1, v2] 25)).alloc (.cells #[v3] 3)) 26 #[v4]
    rw [e2] at h
    exact h
theorem BX.size (h : BX w wx v0 v1 v2 v3 v4) : w.heap.size + 1 + 1 < wx.heap.size := h.b2.lt
theorem BX.turn (h : BX w wx v0 v1 v2 v3 v4) {w2 : World} {pb : Nat} (hf : Frm (At pb) wx w2) (hp : w.heap.size + 1 + 1 < pb) : BX w w2 v0 v1 v2 v3 v4 :=
  ⟨h.b0.frm hf (by show ¬ _ = _; omega), h.b1.frm hf (by show ¬ _ = _; omega), h.b2.frm hf (by show ¬ _ = _; omega), h.be.trans (hf.below2 (fun k hk e => by have e2 : k = pb := e; omega) (by have := h.size; omega))⟩
theorem BX.put0 (h : BX w wx v0 v1 v2 v3 v4) : BX w (((wx.setCell ⟨w.heap.size, 0, none⟩ u0).setCell ⟨w.heap.size, 1, none⟩ u1).setCell ⟨w.heap.size, 2, none⟩ u2) u0 u1 u2 v3 v4 :=
  ⟨put3 h.b0, ((h.b1.set_other (by omega) _ _).set_other (by omega) _ _).set_other (by omega) _ _, ((h.b2.set_other (by omega) _ _).set_other (by omega) _ _).set_other (by omega) _ _,
   ((h.be.setCell (p := ⟨w.heap.size, 0, none⟩) (Nat.le_refl _) _).setCell (p := ⟨w.heap.size, 1, none⟩) (Nat.le_refl _) _).setCell (p := ⟨w.heap.size, 2, none⟩) (Nat.le_refl _) _⟩
theorem BX.put1 (h : BX w wx v0 v1 v2 v3 v4) : BX w (wx.setCell ⟨w.heap.size + 1, 0, none⟩ u3) v0 v1 v2 u3 v4 :=
  ⟨h.b0.set_other (by omega) _ _, h.b1.set_ 0 _, h.b2.set_other (by omega) _ _, h.be.setCell (p := ⟨w.heap.size + 1, 0, none⟩) (Nat.le_succ _) _⟩
theorem BX.put2 (h : BX w wx v0 v1 v2 v3 v4) : BX w (wx.setCell ⟨w.heap.size + 1 + 1, 0, none⟩ u4) v0 v1 v2 v3 u4 :=
  ⟨h.b0.set_other (by omega) _ _, h.b1.set_other (by omega) _ _, h.b2.set_ 0 _, h.be.setCell (p := ⟨w.heap.size + 1 + 1, 0, none⟩) (by show _ ≤ w.heap.size + 1 + 1; omega) _⟩
theorem BX.all (h : BX w wx v0 v1 v2 v3 v4) : BX w (((((wx.setCell ⟨w.heap.size, 0, none⟩ u0).setCell ⟨w.heap.size, 1, none⟩ u1).setCell ⟨w.heap.size, 2, none⟩ u2).setCell ⟨w.heap.size + 1, 0, none⟩ u3).setCell ⟨w.heap.size + 1 + 1, 0, none⟩ u4) u0 u1 u2 u3 u4 := h.put0.put1.put2
theorem BX.cells (h : BX w wx v0 v1 v2 v3 v4) : (wx.cell? ⟨w.heap.size, 0, none⟩ = some v0 ∧ wx.cell? ⟨w.heap.size, 1, none⟩ = some v1 ∧ wx.cell? ⟨w.heap.size, 2, none⟩ = some v2 ∧ wx.cell? ⟨w.heap.size + 1, 0, none⟩ = some v3 ∧ wx.cell? ⟨w.heap.size + 1 + 1, 0, none⟩ = some v4) ∧
    wx.frozen? ⟨w.heap.size, 0, none⟩ = false ∧ wx.frozen? ⟨w.heap.size, 1, none⟩ = false ∧ wx.frozen? ⟨w.heap.size, 2, none⟩ = false ∧ wx.frozen? ⟨w.heap.size + 1, 0, none⟩ = false ∧ wx.frozen? ⟨w.heap.size + 1 + 1, 0, none⟩ = false :=
  ⟨⟨h.b0.cell 0, h.b0.cell 1, h.b0.cell 2, h.b1.cell 0, h.b2.cell 0⟩, h.b0.frozen 0, h.b0.frozen 1, h.b0.frozen 2, h.b1.frozen 0, h.b2.frozen 0⟩
end
theorem load_one (w : World) (g : Nat) (ty : TypeId) (e : Int) (hu : Try.prog.underlying ty = some (.int .i64)) (hg : w.cell? ⟨g, 0, none⟩ = some (.int .i64 e)) : (loadVar ty ⟨g, 0, none⟩).run Try.prog w = .ok (.int .i64 e) w := by
  simp [loadVar, isAgg, Result.andThen, Sem.run_bind, hg, run_underlying hu]
theorem BX.res {w wx : World} {a b c : Value} {x y : Int} (h : BX w wx a b c (.int .i64 x) (.int .i64 y)) (tmps : Array Value) (h2 : tmps.getD 2 undef = .pointer (some ⟨w.heap.size, 0, none⟩)) (h3 : tmps.getD 3 undef = .pointer (some ⟨w.heap.size + 1, 0, none⟩)) (h4 : tmps.getD 4 undef = .pointer (some ⟨w.heap.size + 1 + 1, 0, none⟩)) :
    (results Try.f8 tmps).run Try.prog wx = .ok (.tuple #[.agg #[a, b, c], .int .i64 x, .int .i64 y]) wx := by
  have l1 := run_loadVar_row (P := Try.prog) wx w.heap.size 25 25 #[a, b, c] (0, 0) _ h.b0 Try.underlying25 rfl size25
  have l2 := load_one wx (w.heap.size + 1) 3 x Try.underlying3 (h.b1.cell 0)
  have l3 := load_one wx (w.heap.size + 1 + 1) 26 y Try.underlying26 (h.b2.cell 0)
  have e : Try.f8.results = #[.cell 2 25, .cell 3 3, .cell 4 26] := rfl
  simp only [Array.getD_eq_getD_getElem?] at h2 h3 h4
  simp [results, h2, h3, h4, asAddr, l1, l2, l3, Result.andThen, Sem.run_bind]
set_option maxRecDepth 100000 in
set_option maxHeartbeats 4000000 in
theorem p_Parse_long (s : ByteArray) (w : World) (h : 65536 < s.size) (hs : s.size ≤ 9223372036854775807) : Calls Try.prog 8 #[.string s] w (PR3 (ex0, 0, 4) w) := by
  have HB := Lib.hid (BX.start w (.int .i64 0) (.int .i64 0) (.slice none 0 0) (.int .i64 0) (.int .i64 0))
  have h1 : (65536 : Int) < (s.size : Int) := by omega
  go_enter_defers Try.func8, Try.ntmps8
  go_wp2
  have hB := BX.start w (.int .i64 0) (.int .i64 0) (.slice none 0 0) (.int .i64 0) (.int .i64 4)
  exact ⟨_, hB.res _ rfl rfl rfl, none, 0, rfl, hB.be, Rep.leaf rfl⟩
/-- Behind a fault: the door. -/
theorem door_fault {w wx : World} {v0 v1 v2 v3 v4 : Value} {a : Nat} {tmps : Array Value} (h : BX w wx v0 v1 v2 v3 v4) (h2 : tmps.getD 2 undef = .pointer (some ⟨w.heap.size, 0, none⟩)) (h3 : tmps.getD 3 undef = .pointer (some ⟨w.heap.size + 1, 0, none⟩)) (h4 : tmps.getD 4 undef = .pointer (some ⟨w.heap.size + 1 + 1, 0, none⟩)) :
    bodyPostD Try.prog Try.f8 (PR3 (ex0, (a : Int), 3) w) (Exit.panic [{ v := .iface 41 (.int .i64 (a : Int)), recovered := false }]) { tmps := tmps, defers := [{ target := .fn (.func 14) #[.pointer (some ⟨w.heap.size, 0, none⟩), .pointer (some ⟨w.heap.size + 1, 0, none⟩), .pointer (some ⟨w.heap.size + 1 + 1, 0, none⟩)], args := #[] }] } wx := by
  refine leaves_cons (f := 14) (args := #[.pointer (some ⟨w.heap.size, 0, none⟩), .pointer (some ⟨w.heap.size + 1, 0, none⟩), .pointer (some ⟨w.heap.size + 1 + 1, 0, none⟩)]) (by simp) (by simp [go_sem]) ?_
  refine (d_fault w.heap.size (w.heap.size + 1) (w.heap.size + 1 + 1) (a : Int) v0 v1 v2 v3 v4 wx h.b0 h.b1 h.b2 (by omega) (by omega) (by omega)).mono ?_
  rintro e u' w'' ⟨rfl, rfl, rfl⟩
  have hB := h.all (u0 := .int .i64 0) (u1 := .int .i64 0) (u2 := .slice none 0 0) (u3 := .int .i64 (a : Int)) (u4 := .int .i64 3)
  exact ⟨_, hB.res _ h2 h3 h4, none, 0, rfl, hB.be, Rep.leaf rfl⟩
/-- At a return: the door. -/
theorem door_ret {w wx : World} {t : Ex} {A : Option Addr} {c : Nat} {x y : Int} {tmps : Array Value} (h : BX w wx (.int .i64 t.op) (.int .i64 t.vr) (.slice A t.ks.length c) (.int .i64 x) (.int .i64 y)) (hR : Rep wx.heap.size wx A t) (h2 : tmps.getD 2 undef = .pointer (some ⟨w.heap.size, 0, none⟩)) (h3 : tmps.getD 3 undef = .pointer (some ⟨w.heap.size + 1, 0, none⟩)) (h4 : tmps.getD 4 undef = .pointer (some ⟨w.heap.size + 1 + 1, 0, none⟩)) :
    bodyPostD Try.prog Try.f8 (PR3 (t, x, y) w) Exit.ret { tmps := tmps, defers := [{ target := .fn (.func 14) #[.pointer (some ⟨w.heap.size, 0, none⟩), .pointer (some ⟨w.heap.size + 1, 0, none⟩), .pointer (some ⟨w.heap.size + 1 + 1, 0, none⟩)], args := #[] }] } wx := by
  refine leaves_cons (f := 14) (args := #[.pointer (some ⟨w.heap.size, 0, none⟩), .pointer (some ⟨w.heap.size + 1, 0, none⟩), .pointer (some ⟨w.heap.size + 1 + 1, 0, none⟩)]) (by simp) (by simp [go_sem]) ?_
  refine (d_idle _ _ _ wx).mono ?_
  rintro e u' w'' ⟨rfl, rfl, rfl⟩
  exact ⟨_, h.res _ h2 h3 h4, A, c, rfl, h.be, hR⟩
end Go.Proofs.Ytipapemcedkinaa
