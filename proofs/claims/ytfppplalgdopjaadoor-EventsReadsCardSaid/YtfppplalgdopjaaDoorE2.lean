/- What a new manager is made of, second part: dd.New, Vars; layer 28 (events). -/
import Derived.Test.YtfppplalgdopjaaDoorE1
import Derived.WideMake
namespace Go.Proofs.YtfppplalgdopjaaDoor
open Go.RowKit

theorem info157 : (Tryd.prog.info? 157).map (fun i => (i.zero, i.size, i.bytes)) = some (some (.pointer none), 1, 8) := by kernel_rfl
theorem run_mk98 (w : World) : ∃ cs : Array Value, (Instr.makeSlice 98 (.int .i64 512) (.int .i64 512)).run Tryd.prog w = .ok (.slice (some ⟨w.heap.size, 0, none⟩) 512 512) (w.alloc (.cells cs 157)) := by
  obtain ⟨i, hi, hz0, hz1, hz2⟩ := info_parts info157
  have h := run_make (P := Tryd.prog) w 98 157 i _ Tryd.underlying98 hi hz0 .i64 .i64 512 512 (by decide) (by decide) (by rw [hz2]; decide) (by decide)
  rw [hz1] at h
  exact ⟨_, h⟩
theorem e_memoNew (w : World) : Calls Tryd.prog 26 #[.int .i64 65536] w (PtrP w) := by
  obtain ⟨cs, hmk⟩ := run_mk98 w
  have HB : Hid (∀ o, Below w.heap.size w ((w.alloc (.cells cs 157)).alloc o)) := Lib.hid (fun o => (below_al _).alloc (by simp) _)
  go_enter Tryd.func26, Tryd.ntmps26
  go_wp2
  go_ret
  exact ⟨_, rfl, HB.out _⟩
theorem run_upd66 (w : World) (r clock : Nat) (es : Array MapEntry) (x v : Int) (hb : w.heap[r]? = some (.map es clock)) (hf : Instr.findNow (.int .i64) (.int .i64 x) es.toList 0 = some none) :
    (Instr.mapUpdate 66 (.map (some r)) (.int .i64 x) (.int .i64 v)).run Tryd.prog w = .ok () { w with heap := w.heap.setIfInBounds r (.map (es.push { key := .int .i64 x, val := .int .i64 v, born := clock }) (clock + 1)) } := by
  have hc : (Instr.checkKey false 10000 3 (.int .i64 x)).run Tryd.prog w = .ok () w := MapKept.run_checkKey (k := .int .i64 x) Tryd.underlying3 (by simp [MapKept.IsKey]) false 9999
  simp [Instr.mapUpdate, run_underlying Tryd.underlying66, MapKept.run_getObj_map hb, hc, MapKept.run_findKey Tryd.underlying3 hf, MapKept.run_setObj_map _ hb, Result.andThen]
theorem len66 (w : World) (r clock : Nat) (es : Array MapEntry) (ty : TypeId) (hb : w.heap[r]? = some (.map es clock)) : (Builtin.len_ #[66] ty #[.map (some r)]).run Tryd.prog w = .ok (.int .i64 es.size) w := by
  simp [Builtin.len_, run_underlying Tryd.underlying66, MapKept.run_getObj_map hb, goInt, Result.andThen]
theorem upd66 (w : World) (r clock : Nat) (es : Array MapEntry) (x v : Int) (hb : w.heap[r]? = some (.map es clock)) (hf : Instr.findNow (.int .i64) (.int .i64 x) es.toList 0 = some none) {B : Nat} (hB : B ≤ r) :
    ∃ w', (Instr.mapUpdate 66 (.map (some r)) (.int .i64 x) (.int .i64 v)).run Tryd.prog w = .ok () w' ∧ w'.heap[r]? = some (.map (es.push { key := .int .i64 x, val := .int .i64 v, born := clock }) (clock + 1)) ∧ Below B w w' := by
  obtain ⟨h1, k1⟩ := MapKept.heap_set (o' := .map (es.push { key := .int .i64 x, val := .int .i64 v, born := clock }) (clock + 1)) hb
  exact ⟨_, run_upd66 w r clock es x v hb hf, h1, ⟨rfl, rfl, rfl, by simp, fun k hk => k1 k (by omega)⟩⟩
theorem two66 (w : World) : ∃ (w1 w2 : World) (es : Array MapEntry) (clock : Nat), (Instr.makeMap 66 none).run Tryd.prog w = .ok (.map (some w.heap.size)) (w.alloc (.map #[] 0)) ∧
    (Instr.mapUpdate 66 (.map (some w.heap.size)) (.int .i64 0) (.int .i64 1)).run Tryd.prog (w.alloc (.map #[] 0)) = .ok () w1 ∧
    (Instr.mapUpdate 66 (.map (some w.heap.size)) (.int .i64 1) (.int .i64 0)).run Tryd.prog w1 = .ok () w2 ∧ es.size = 2 ∧ w2.heap[w.heap.size]? = some (.map es clock) ∧ Below w.heap.size w w2 := by
  obtain ⟨w1, u1, h1, k1⟩ := upd66 (w.alloc (.map #[] 0)) w.heap.size 0 #[] 0 1 (heap_alloc_new w _) rfl (Nat.le_refl _)
  obtain ⟨w2, u2, h2, k2⟩ := upd66 w1 w.heap.size _ _ 1 0 h1 rfl (Nat.le_refl _)
  exact ⟨w1, w2, _, _, run_makeMap_plain w 66, u1, u2, rfl, h2, ((below_al _).trans k1).trans k2⟩
def ManP (w : World) (vars : Int) (e : Ending) (w' : World) : Prop :=
  (vars < 0 ∨ 64 < vars) ∧ e = .returned (.tuple #[.pointer none, .int .i64 2]) ∧ Below w.heap.size w w' ∨
  ∃ (n g s : Nat) (A : Option Addr) (c r m : Nat), vars = (n : Int) ∧ n ≤ 64 ∧ e = .returned (.tuple #[.pointer (some ⟨g, 0, none⟩), .int .i64 0]) ∧
    Blk w' g 71 #[.pointer (some ⟨s, 0, none⟩), .pointer (some ⟨r, 0, none⟩), .map (some m), .int .i64 2, .slice none 0 0, .int .i64 0, .pointer none] ∧
    w'.cell? ⟨s, 0, none⟩ = some (.slice A n c) ∧ s < g ∧ w.heap.size ≤ s ∧ Below w.heap.size w w'
set_option maxRecDepth 100000 in
theorem e_ddNew (vars room : Int) (w : World) (r1 : 1 ≤ room) (r2 : room ≤ 1000000) : Calls Tryd.prog 12 #[.int .i64 vars, .int .i64 room] w (ManP w vars) := by
  have HN : Hid (∀ wx, Calls Tryd.prog 25 #[.int .i64 vars, .int .i64 room] wx (NodesP wx vars)) := Lib.hid (fun wx => e_nodesNew vars room wx r1 r2)
  have HM := Lib.hid e_memoNew
  by_cases hv : vars < 0 ∨ 64 < vars
  · have HO := Lib.hid hv
    have HN' : Hid (∀ wx, Calls Tryd.prog 25 #[.int .i64 vars, .int .i64 room] wx fun e w' => e = .returned (.tuple #[.pointer none, .int .i64 2]) ∧ Below wx.heap.size wx w') := Lib.hid (fun wx => (HN.out wx).mono (by
      rintro e w' (⟨_, h⟩ | ⟨n, s, A, c, rfl, hn, _⟩)
      · exact h
      · omega))
    go_enter Tryd.func12, Tryd.ntmps12
    go_wp2_with (go_at_call 25; (with_reducible refine (HN'.out w).mono ?_); rintro e w1 ⟨rfl, hb1⟩; have HB1 := Lib.hid hb1; clear hb1)
    go_returns
    exact .inl ⟨HO.out, rfl, HB1.out⟩
  · have HN' : Hid (∀ wx, Calls Tryd.prog 25 #[.int .i64 vars, .int .i64 room] wx fun e w' => ∃ (n s : Nat) (A : Option Addr) (c : Nat), vars = (n : Int) ∧ n ≤ 64 ∧ e = .returned (.tuple #[.pointer (some ⟨s, 0, none⟩), .int .i64 0]) ∧ w'.cell? ⟨s, 0, none⟩ = some (.slice A n c) ∧ s < w'.heap.size ∧ wx.heap.size ≤ s ∧ Below wx.heap.size wx w') := Lib.hid (fun wx => (HN.out wx).mono (by
      rintro e w' (⟨h, _⟩ | h)
      · omega
      · exact h))
    go_enter Tryd.func12, Tryd.ntmps12
    go_upto_region 4 with (go_at_call 25; (with_reducible refine (HN'.out w).mono ?_); rintro e w1 ⟨n, s, A, c, hvn, hn, rfl, hc1, hs1, hs2, hb1⟩; have HB1 := Lib.hid hb1; clear hb1)
    obtain ⟨w3, w4, es, clock, hm, hu1, hu2, hes, hb4, hbw4⟩ := two66 w1
    have hs4 : w1.heap.size ≤ w4.heap.size := hbw4.size
    have hlt4 : w1.heap.size < w4.heap.size := (Array.getElem?_eq_some_iff.1 hb4).1
    have HL5 : Hid (∀ w5, Below w4.heap.size w4 w5 → ∀ ty, (Builtin.len_ #[66] ty #[.map (some w1.heap.size)]).run Tryd.prog w5 = .ok (.int .i64 2) w5) := Lib.hid (fun w5 hb5 ty => by
      have h := len66 w5 w1.heap.size clock es ty ((hb5.block _ hlt4).trans hb4)
      rw [hes] at h
      exact h)
    have HC5 : Hid (∀ w5, Below w4.heap.size w4 w5 → w5.cell? ⟨s, 0, none⟩ = some (.slice A n c) ∧ Below w.heap.size w w5) := Lib.hid (fun w5 hb5 => ⟨(hb5.cell (p := ⟨s, 0, none⟩) (by show s < _; omega)).trans ((hbw4.cell (p := ⟨s, 0, none⟩) hs1).trans hc1), (HB1.out.trans (hbw4.mono HB1.out.size)).trans (hb5.mono (Nat.le_trans HB1.out.size hs4))⟩)
    clear hb4 hbw4 hc1
    go_upto_region 5 with (fail)
    clear hm hu1 hu2
    go_upto_region 6 with (go_at_call 26; (with_reducible refine (HM.out w4).mono ?_); rintro e w5 ⟨r, rfl, hb5⟩; have hl5 := HL5.out w5 hb5; have HC6 := Lib.hid (HC5.out w5 hb5); have HB6 := Lib.hid hb5.size; clear hb5)
    go_returns
    have hsz : s < w5.heap.size := by have := HB6.out; omega
    exact .inr ⟨n, w5.heap.size, s, A, c, r, w1.heap.size, hvn, hn, rfl, Blk.new _ _ _, ((below_al _).cell (p := ⟨s, 0, none⟩) hsz).trans HC6.out.1, hsz, hs2, HC6.out.2.alloc HC6.out.2.size _⟩
/-- A manager of n variables at g: what Plan and flaw look at. -/
structure Man (w : World) (g n : Nat) (evs : Value) : Prop where
  cells : ∃ (s : Nat) (r m : Value) (q : Value), Blk w g 71 #[.pointer (some ⟨s, 0, none⟩), r, m, .int .i64 2, evs, .int .i64 0, q] ∧ ∃ (A : Option Addr) (c : Nat), w.cell? ⟨s, 0, none⟩ = some (.slice A n c) ∧ s < w.heap.size
theorem Man.below {w w' : World} {g n : Nat} {evs : Value} (h : Man w g n evs) (hb : Below w.heap.size w w') : Man w' g n evs := by
  obtain ⟨s, r, m, q, hB, A, c, hc, hs⟩ := h.cells
  exact ⟨s, r, m, q, hB.below hb hB.lt, A, c, (hb.cell (p := ⟨s, 0, none⟩) hs).trans hc, Nat.lt_of_lt_of_le hs hb.size⟩
theorem e_many (s n : Nat) (A : Option Addr) (c : Nat) (w : World) (hc : w.cell? ⟨s, 0, none⟩ = some (.slice A n c)) : Calls Tryd.prog 58 #[.pointer (some ⟨s, 0, none⟩)] w fun e w' => e = .returned (.int .i64 (n : Int)) ∧ w = w' := by
  go_enter Tryd.func58, Tryd.ntmps58
  go_wp2
  go_ret
  exact ⟨rfl, rfl⟩
theorem e_sVars (s n : Nat) (A : Option Addr) (c : Nat) (w : World) (hc : w.cell? ⟨s, 0, none⟩ = some (.slice A n c)) : Calls Tryd.prog 50 #[.pointer (some ⟨s, 0, none⟩)] w fun e w' => e = .returned (.int .i64 (n : Int)) ∧ w = w' := by
  have H := Lib.hid (e_many s n A c w hc)
  go_enter Tryd.func50, Tryd.ntmps50
  go_wp2_with (go_at_call 58; (with_reducible refine H.out.mono ?_); rintro e w' ⟨rfl, rfl⟩)
  go_ret
  exact ⟨rfl, rfl⟩
theorem e_base (g s : Nat) (w : World) (hc : w.cell? ⟨g, 0, none⟩ = some (.pointer (some ⟨s, 0, none⟩))) : Calls Tryd.prog 49 #[.pointer (some ⟨g, 0, none⟩)] w fun e w' => e = .returned (.pointer (some ⟨s, 0, none⟩)) ∧ w = w' := by
  go_enter Tryd.func49, Tryd.ntmps49
  go_wp2
  go_ret
  exact ⟨rfl, rfl⟩
theorem e_Vars (g n : Nat) (evs : Value) (w : World) (hM : Man w g n evs) : Calls Tryd.prog 41 #[.pointer (some ⟨g, 0, none⟩)] w fun e w' => e = .returned (.int .i64 (n : Int)) ∧ w = w' := by
  obtain ⟨s, r, m, q, hB, A, c, hc, hs⟩ := hM.cells
  have H1 := Lib.hid (e_base g s w (hB.cell 0))
  have H2 := Lib.hid (e_sVars s n A c w hc)
  go_enter Tryd.func41, Tryd.ntmps41
  go_wp2_with (first | (go_at_call 49; (with_reducible refine H1.out.mono ?_); rintro e w' ⟨rfl, rfl⟩) | (go_at_call 50; (with_reducible refine H2.out.mono ?_); rintro e w' ⟨rfl, rfl⟩))
  go_ret
  exact ⟨rfl, rfl⟩
end Go.Proofs.YtfppplalgdopjaaDoor
