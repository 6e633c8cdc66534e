/- Contracts of span and typeOfVar, of the specification's numbers, of layer 30 (terms). -/
import Derived.Test.YtcdpjodnbegepaaFn1
import Derived.Laws.ResultCell
namespace Go.Proofs.Ytcdpjodnbegepaa
open Go.RowKit Go.Proofs

/-- A type: Boolean, or a range. -/
structure Ty where
  b : Bool
  lo : Int
  hi : Int
def ty0 : Ty := ⟨false, 0, 0⟩
def tyT : Ty := ⟨true, 0, 0⟩
abbrev tyV (y : Ty) : Value := .agg #[.bool y.b, .int .i64 y.lo, .int .i64 y.hi]
def TyE (R : Ty × Int) (w : World) (e : Ending) (w' : World) : Prop := e = .returned (.tuple #[tyV R.1, .int .i64 R.2]) ∧ Below w.heap.size w w'
def spanS (lo hi : Int) : Ty × Int := if lo < -1048576 ∨ hi < -1048576 ∨ 1048576 < lo ∨ 1048576 < hi ∨ hi < lo ∨ 4096 < hi - lo then (ty0, 2) else (⟨false, lo, hi⟩, 0)
theorem size39 : (Try.prog.info? 39).map (·.size) = some 3 := by kernel_rfl
theorem res_ty {fn : Func} {p u : Tmp} (h : fn.results = #[.cell p 39, .tmp u]) (tmps : Array Value) (w : World) (g : Nat) (a b c : Value) (hp : tmps.getD p undef = .pointer (some ⟨g, 0, none⟩)) (hg : Blk w g 39 #[a, b, c]) :
    (results fn tmps).run Try.prog w = .ok (.tuple #[.agg #[a, b, c], tmps.getD u undef]) w := by
  rw [results_cell_tmp h, hp]
  have h2 := run_loadVar_row (P := Try.prog) w g 39 39 #[a, b, c] (0, 0) _ hg Try.underlying39 rfl size39
  simp [asAddr, Result.andThen, h2]
theorem below_set {B : Nat} {w w1 : World} (h : Below B w w1) {g : Nat} (hg : B ≤ g) (i : Nat) (v : Value) : Below B w (w1.setCell ⟨g, i, none⟩ v) :=
  ⟨h.os, h.tape, h.output, by simpa using h.size, fun k hk => by
    have : g ≠ k := by omega
    rw [← h.block k hk]
    simp [World.setCell, Array.getElem?_modify, this]⟩
set_option maxHeartbeats 4000000 in
theorem pr_span (lo hi : Int) (w : World) : Calls Try.prog 65 #[.int .i64 lo, .int .i64 hi] w (TyE (spanS lo hi) w) := by
  obtain ⟨R, hR⟩ : ∃ R, spanS lo hi = R := ⟨_, rfl⟩
  rw [hR]
  have HB : Hid (∀ ob, Below w.heap.size w (w.alloc ob)) := Lib.hid (fun ob => (Below.refl _ _).alloc (Nat.le_refl _) ob)
  unfold spanS at hR
  by_cases h1 : lo < -1048576 ∨ hi < -1048576 ∨ 1048576 < lo ∨ 1048576 < hi ∨ hi < lo
  · have X : Hid (R = (ty0, 2)) := Lib.hid (by rw [← hR, if_pos (by omega)])
    clear hR
    rw [X.out]
    go_enter Try.func65, Try.ntmps65
    go_wp2
    all_goals (refine bodyPost_ret (v := .tuple #[tyV ty0, .int .i64 2]) ?_ rfl ⟨rfl, HB.out _⟩; rw [results_cell_tmp rfl]; go_simp; (try first | rfl | exact ⟨rfl, rfl, rfl⟩))
  · by_cases h2 : 4096 < hi - lo
    · have X : Hid (R = (ty0, 2)) := Lib.hid (by rw [← hR, if_pos (by omega)])
      clear hR
      have a1 : ¬ lo < -1048576 := by omega
      have a2 : ¬ hi < -1048576 := by omega
      have a3 : ¬ 1048576 < lo := by omega
      have a4 : ¬ 1048576 < hi := by omega
      have a5 : ¬ hi < lo := by omega
      have a6 : lo ≤ hi := by omega
      have a7 : wrap64 (hi - lo) = hi - lo := by unfold wrap64; omega
      clear h1
      rw [X.out]
      go_enter Try.func65, Try.ntmps65
      go_wp2
      all_goals (refine bodyPost_ret (v := .tuple #[tyV ty0, .int .i64 2]) ?_ rfl ⟨rfl, HB.out _⟩; rw [results_cell_tmp rfl]; go_simp; (try first | rfl | exact ⟨rfl, rfl, rfl⟩))
    · have X : Hid (R = (⟨false, lo, hi⟩, 0)) := Lib.hid (by rw [← hR, if_neg (by omega)])
      clear hR
      have a1 : ¬ lo < -1048576 := by omega
      have a2 : ¬ hi < -1048576 := by omega
      have a3 : ¬ 1048576 < lo := by omega
      have a4 : ¬ 1048576 < hi := by omega
      have a5 : ¬ hi < lo := by omega
      have a6 : lo ≤ hi := by omega
      have a7 : wrap64 (hi - lo) = hi - lo := by unfold wrap64; omega
      clear h1
      rw [X.out]
      go_enter Try.func65, Try.ntmps65
      go_wp2
      all_goals (refine bodyPost_ret (v := .tuple #[tyV (⟨false, lo, hi⟩), .int .i64 0]) ?_ rfl ⟨rfl, HB.out _⟩; rw [results_cell_tmp rfl]; go_simp; (try first | rfl | exact ⟨rfl, rfl, rfl⟩))
/-- A variable: its Name, whether it is Boolean, its range. -/
structure Vr where
  nm : ByteArray
  b : Bool
  lo : Int
  hi : Int
abbrev vrV (v : Vr) : Value := .agg #[.string v.nm, .bool v.b, .int .i64 v.lo, .int .i64 v.hi]
def vspan (v : Vr) : Ty × Int := if v.b then (tyT, 0) else spanS v.lo v.hi
set_option maxHeartbeats 1000000 in
theorem pr_typeOfVar (v : Vr) (w : World) : Calls Try.prog 46 #[vrV v] w (TyE (vspan v) w) := by
  obtain ⟨m, b, lo, hi⟩ := v
  have HB : Hid (∀ o1 o2, Below w.heap.size w ((w.alloc o1).alloc o2)) := Lib.hid (fun o1 o2 => al (al (Below.refl _ _) _) _)
  cases b
  · have HS := Lib.hid (fun w => pr_span lo hi w)
    obtain ⟨R, hR⟩ : ∃ R, spanS lo hi = R := ⟨_, rfl⟩
    rw [hR] at HS
    have X : Hid (vspan ⟨m, false, lo, hi⟩ = R) := Lib.hid hR
    clear hR
    obtain ⟨⟨yb, yl, yh⟩, e⟩ := R
    rw [X.out]
    go_enter Try.func46, Try.ntmps46
    have HC : Hid (∀ w1, Below (w.heap.size + 1 + 1) ((w.alloc (.cells #[.string m, .bool false, .int .i64 lo, .int .i64 hi] 57)).alloc (.cells #[.bool false, .int .i64 0, .int .i64 0] 39)) w1 → Blk w1 (w.heap.size + 1) 39 #[.bool false, .int .i64 0, .int .i64 0]) := Lib.hid (fun w1 h => by
      have b1 := Blk.new (w.alloc (.cells #[.string m, .bool false, .int .i64 lo, .int .i64 hi] 57)) 39 #[.bool false, .int .i64 0, .int .i64 0]
      have z : (w.alloc (.cells #[.string m, .bool false, .int .i64 lo, .int .i64 hi] 57)).heap.size = w.heap.size + 1 := by simp
      rw [z] at b1
      exact b1.below h (by omega))
    go_wp2_with (go_at_call 65; (with_reducible refine (HS.out _).mono ?_); rintro e w1 ⟨rfl, hb1⟩; have hb2 : Below (w.heap.size + 1 + 1) _ _ := (by simpa using hb1); have g1 := HC.out _ hb2; have q0 : w1.cell? ⟨w.heap.size + 1, 0, none⟩ = _ := g1.cell 0; have q1 : w1.cell? ⟨w.heap.size + 1, 1, none⟩ = _ := g1.cell 1; have q2 : w1.cell? ⟨w.heap.size + 1, 2, none⟩ = _ := g1.cell 2; have q3 : w1.frozen? ⟨w.heap.size + 1, 0, none⟩ = false := g1.frozen 0; have q5 : w1.frozen? ⟨w.heap.size + 1, 1, none⟩ = false := g1.frozen 1; have q6 : w1.frozen? ⟨w.heap.size + 1, 2, none⟩ = false := g1.frozen 2; have q4 := g1.lt; have G1 := Lib.hid g1; have HB1 := Lib.hid hb1; clear hb1 hb2 g1)
    refine bodyPost_ret (res_ty rfl _ _ (w.heap.size + 1) _ _ _ rfl (((G1.out.set_ 0 _).set_ 1 _).set_ 2 _)) rfl ⟨rfl, ?_⟩
    have hb := (HB.out (.cells #[.string m, .bool false, .int .i64 lo, .int .i64 hi] 57) (.cells #[.bool false, .int .i64 0, .int .i64 0] 39)).trans (HB1.out.mono (HB.out _ _).size)
    exact below_set (below_set (below_set hb (by omega) _ _) (by omega) _ _) (by omega) _ _
  · go_enter Try.func46, Try.ntmps46
    go_wp2
    (refine bodyPost_ret (v := .tuple #[tyV tyT, .int .i64 0]) ?_ rfl ⟨rfl, HB.out _ _⟩; rw [results_cell_tmp rfl]; go_simp; (try first | rfl | exact ⟨rfl, rfl, rfl⟩))
set_option maxHeartbeats 4000000 in
theorem rf_numbers (lo hi : Int) (w : World) : Calls Try.prog 67 #[.int .i64 lo, .int .i64 hi] w (TyE (spanS lo hi) w) := by
  obtain ⟨R, hR⟩ : ∃ R, spanS lo hi = R := ⟨_, rfl⟩
  rw [hR]
  have HB : Hid (∀ ob, Below w.heap.size w (w.alloc ob)) := Lib.hid (fun ob => (Below.refl _ _).alloc (Nat.le_refl _) ob)
  unfold spanS at hR
  by_cases h1 : lo < -1048576 ∨ hi < -1048576 ∨ 1048576 < lo ∨ 1048576 < hi ∨ hi < lo
  · have X : Hid (R = (ty0, 2)) := Lib.hid (by rw [← hR, if_pos (by omega)])
    clear hR
    rw [X.out]
    go_enter Try.func67, Try.ntmps67
    go_wp2
    all_goals (refine bodyPost_ret (v := .tuple #[tyV ty0, .int .i64 2]) ?_ rfl ⟨rfl, HB.out _⟩; rw [results_cell_tmp rfl]; go_simp; (try first | rfl | exact ⟨rfl, rfl, rfl⟩))
  · have a1 : ¬ lo < -1048576 := by omega
    have a2 : ¬ hi < -1048576 := by omega
    have a3 : ¬ 1048576 < lo := by omega
    have a4 : ¬ 1048576 < hi := by omega
    have a5 : ¬ hi < lo := by omega
    have a7 : wrap64 (hi - lo) = hi - lo := by unfold wrap64; omega
    by_cases h2 : 4096 < hi - lo
    · have X : Hid (R = (ty0, 2)) := Lib.hid (by rw [← hR, if_pos (by omega)])
      clear hR h1
      rw [X.out]
      go_enter Try.func67, Try.ntmps67
      go_wp2
      all_goals (refine bodyPost_ret (v := .tuple #[tyV ty0, .int .i64 2]) ?_ rfl ⟨rfl, HB.out _⟩; rw [results_cell_tmp rfl]; go_simp; (try first | rfl | exact ⟨rfl, rfl, rfl⟩))
    · have X : Hid (R = (⟨false, lo, hi⟩, 0)) := Lib.hid (by rw [← hR, if_neg (by omega)])
      clear hR h1
      rw [X.out]
      go_enter Try.func67, Try.ntmps67
      go_wp2
      all_goals (refine bodyPost_ret (v := .tuple #[tyV (⟨false, lo, hi⟩), .int .i64 0]) ?_ rfl ⟨rfl, HB.out _⟩; rw [results_cell_tmp rfl]; go_simp; (try first | rfl | exact ⟨rfl, rfl, rfl⟩))
end Go.Proofs.Ytcdpjodnbegepaa
