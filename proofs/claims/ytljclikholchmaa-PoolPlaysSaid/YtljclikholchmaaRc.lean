/- The specification's At, New and All, and the law's comparison of nodes; layer 9 (pool). -/
import Derived.Test.YtljclikholchmaaRb
import Derived.Laws.ResultCell
import Derived.Deep.RegionHeld3
namespace Go.Proofs.Ytljclikholchmaa
open Go.RowKit

theorem size38 : (Try.prog.info? 38).map (·.size) = some 5 := by kernel_rfl
theorem size32 : (Try.prog.info? 32).map (·.size) = some 4 := by kernel_rfl
theorem res_nd {fn : Func} {p u : Tmp} (h : fn.results = #[.cell p 38, .tmp u]) (tmps : Array Value) (w : World) (g : Nat) (a b c d e : Value) (hp : tmps.getD p undef = .pointer (some ⟨g, 0, none⟩)) (hg : Blk w g 38 #[a, b, c, d, e]) :
    (results fn tmps).run Try.prog w = .ok (.tuple #[.agg #[a, b, c, d, e], tmps.getD u undef]) w := by
  rw [results_cell_tmp h, hp]
  have h2 := run_loadVar_row (P := Try.prog) w g 38 38 #[a, b, c, d, e] (0, 0) _ hg Try.underlying38 rfl size38
  simp [asAddr, Result.andThen, h2]
theorem res_rp {fn : Func} {p u : Tmp} (h : fn.results = #[.cell p 32, .tmp u]) (tmps : Array Value) (w : World) (g : Nat) (a b c d : Value) (hp : tmps.getD p undef = .pointer (some ⟨g, 0, none⟩)) (hg : Blk w g 32 #[a, b, c, d]) :
    (results fn tmps).run Try.prog w = .ok (.tuple #[.agg #[a, b, c, d], tmps.getD u undef]) w := by
  rw [results_cell_tmp h, hp]
  have h2 := run_loadVar_row (P := Try.prog) w g 32 32 #[a, b, c, d] (0, 0) _ hg Try.underlying32 rfl size32
  simp [asAddr, Result.andThen, h2]
theorem bal (w : World) (o : Obj) : Below w.heap.size w (w.alloc o) := (Below.refl _ _).alloc (Nat.le_refl _) o
theorem bt {w w1 w2 : World} (h : Below w.heap.size w w1) (h2 : Below w1.heap.size w1 w2) : Below w.heap.size w w2 := h.trans (h2.mono h.size)
theorem al {w w1 : World} (h : Below w.heap.size w w1) (o : Obj) : Below w.heap.size w (w1.alloc o) := h.alloc h.size o
theorem r_New (n : Int) (w : World) : Calls Try.prog 9 #[.int .i64 n] w fun en w' => en = .returned (.tuple #[.agg #[.int .i64 (if n < 1 ∨ 1048576 < n then 0 else n), .slice none 0 0, .slice none 0 0, .slice none 0 0], .int .i64 (if n < 1 ∨ 1048576 < n then 2 else 0)]) ∧ Below w.heap.size w w' := by
  have HB : Hid (∀ ob, Below w.heap.size w (w.alloc ob)) := Lib.hid (bal w)
  by_cases c1 : n < 1
  · rw [if_pos (.inl c1), if_pos (.inl c1)]
    go_enter Try.func9, Try.ntmps9
    go_wp2
    exact bodyPost_ret (res_rp rfl _ _ w.heap.size _ _ _ _ rfl (Blk.new _ _ _)) rfl ⟨rfl, HB.out _⟩
  · by_cases c2 : 1048576 < n
    · rw [if_pos (.inr c2), if_pos (.inr c2)]
      go_enter Try.func9, Try.ntmps9
      go_wp2
      exact bodyPost_ret (res_rp rfl _ _ w.heap.size _ _ _ _ rfl (Blk.new _ _ _)) rfl ⟨rfl, HB.out _⟩
    · rw [if_neg (by omega), if_neg (by omega)]
      go_enter Try.func9, Try.ntmps9
      go_wp2
      exact bodyPost_ret (res_rp rfl _ _ w.heap.size _ _ _ _ rfl (Blk.new _ _ _)) rfl ⟨rfl, HB.out _⟩
section
variable {w w' : World} {A D C : Option Addr} {c d e : Nat} {M : List Nd} {T : List Bool} {F : List Int}
set_option maxHeartbeats 2000000 in
theorem r_At (room id : Int) (h : RPool w w.heap.size A c M D d T C e F) (hl : T.length ≤ 1000000) (hm : M.length = T.length) : Calls Try.prog 12 #[.agg (rpC room A c M.length D d T.length C e F.length), .int .i64 id] w fun en w' =>
    en = .returned (.tuple #[ndV (if hasT T id then M.getD (id - 1).toNat nd0 else nd0), .bool (hasT T id)]) ∧ Below w.heap.size w w' := by
  have HH : Hid (∀ wx, Below w.heap.size w wx → Calls Try.prog 26 #[.agg (rpC room A c M.length D d T.length C e F.length), .int .i64 id] wx fun en w' => en = .returned (.bool (hasT T id)) ∧ Below wx.heap.size wx w') := Lib.hid (fun wx hb => r_Has room id (h.step hb) hl)
  obtain ⟨W, hW⟩ : ∃ W, (w.alloc (.cells (rpC room A c M.length D d T.length C e F.length) 32)).alloc (.cells #[.int .i64 0, .int .i64 0, .int .i64 0, .int .i64 0, .int .i64 0] 38) = W := ⟨_, rfl⟩
  have hb : Below w.heap.size w W := by rw [← hW]; exact al (bal _ _) _
  have hk : Blk W w.heap.size 32 (rpC room A c M.length D d T.length C e F.length) := by rw [← hW]; exact (Blk.new _ _ _).alloc _
  have hz : Blk W (w.heap.size + 1) 38 #[.int .i64 0, .int .i64 0, .int .i64 0, .int .i64 0, .int .i64 0] := by
    rw [← hW]
    have := Blk.new (w.alloc (.cells (rpC room A c M.length D d T.length C e F.length) 32)) 38 #[.int .i64 0, .int .i64 0, .int .i64 0, .int .i64 0, .int .i64 0]
    simpa using this
  have HB := Lib.hid hb
  have HWW := Lib.hid hW
  have HX : Hid (∀ wx, Below W.heap.size W wx → Blk wx w.heap.size 32 (rpC room A c M.length D d T.length C e F.length) ∧ Blk wx (w.heap.size + 1) 38 #[.int .i64 0, .int .i64 0, .int .i64 0, .int .i64 0, .int .i64 0] ∧ Below w.heap.size w wx) := Lib.hid (fun wx hx => ⟨hk.below hx hk.lt, hz.below hx hz.lt, bt hb hx⟩)
  have HN : Hid (∀ wx, Below w.heap.size w wx → RowG wx wx.heap.size A c (ndCells M)) := Lib.hid (fun wx hx => h.nodes.step hx)
  have q0 : W.cell? ⟨w.heap.size, 0, none⟩ = some (.int .i64 room) := hk.cell 0
  have q1 : W.cell? ⟨w.heap.size, 1, none⟩ = some (.slice A M.length c) := hk.cell 1
  have q2 : W.cell? ⟨w.heap.size, 2, none⟩ = some (.slice D T.length d) := hk.cell 2
  have q3 : W.cell? ⟨w.heap.size, 3, none⟩ = some (.slice C F.length e) := hk.cell 3
  have ql := hk.lt
  unfold rpC at HWW HH HX ⊢
  have HM := Lib.hid hm
  clear h hb hk hW hz hm
  by_cases hh : hasT T id = true
  · rw [hh] at HH ⊢
    rw [if_pos rfl]
    unfold hasT at hh
    simp only [Bool.and_eq_true, decide_eq_true_eq] at hh
    obtain ⟨c1, c2, _⟩ := hh
    obtain ⟨i, rfl⟩ : ∃ i : Nat, id = (i : Int) + 1 := ⟨(id - 1).toNat, by omega⟩
    have hi : i < M.length := by have := HM.out; omega
    have e3 : ((i : Int) + 1 - 1).toNat = i := by omega
    rw [e3]
    obtain ⟨x, hx⟩ : ∃ x, M.getD i nd0 = x := ⟨_, rfl⟩
    rw [hx]
    have HXX := Lib.hid hx
    clear hx
    obtain ⟨x0, x1, x2, x3, x4⟩ := x
    have h0 : (0 : Int) ≤ (i : Int) := by omega
    have h1 : (i : Int) < (M.length : Int) := by omega
    have g0 : wrap64 (i : Int) = (i : Int) := by unfold wrap64; omega
    have HI := Lib.hid hi
    clear e3 c1 c2 hi
    go_enter Try.func12, Try.ntmps12
    go_upto_region 1 with (go_at_call 999)
    rw [HWW.out]
    go_upto_region 3 with (go_at_call 26; (with_reducible refine (HH.out _ HB.out).mono ?_); rintro en w1 ⟨rfl, hb1⟩; have HB1 := Lib.hid hb1; clear hb1)
    obtain ⟨k1, k2, hbw⟩ := HX.out w1 HB1.out
    obtain ⟨b, off, rfl, hbb, hc⟩ := (HN.out w1 hbw).out (by rw [ndCells_len]; have := HI.out; omega)
    obtain ⟨n0, n1, n2, n3, n4⟩ := nd_at HI.out
    rw [HXX.out] at n0 n1 n2 n3 n4
    have z0 := hc _ _ n0
    have z1 := hc _ _ n1
    have z2 := hc _ _ n2
    have z3 := hc _ _ n3
    have z4 := hc _ _ n4
    rw [← Nat.add_assoc] at z1 z2 z3 z4
    have y1 : w1.cell? ⟨w.heap.size, 1, none⟩ = some (.slice (some ⟨b, off, none⟩) M.length c) := k1.cell 1
    have yl := k1.lt
    have r0 : w1.cell? ⟨w.heap.size + 1, 0, none⟩ = some (.int .i64 0) := k2.cell 0
    have r1 : w1.cell? ⟨w.heap.size + 1, 1, none⟩ = some (.int .i64 0) := k2.cell 1
    have r2 : w1.cell? ⟨w.heap.size + 1, 2, none⟩ = some (.int .i64 0) := k2.cell 2
    have r3 : w1.cell? ⟨w.heap.size + 1, 3, none⟩ = some (.int .i64 0) := k2.cell 3
    have r4 : w1.cell? ⟨w.heap.size + 1, 4, none⟩ = some (.int .i64 0) := k2.cell 4
    have f0 := k2.frozen 0
    have f1 := k2.frozen 1
    have f2 := k2.frozen 2
    have f3 := k2.frozen 3
    have f4 := k2.frozen 4
    have rl := k2.lt
    have K2 := Lib.hid k2
    have HBW := Lib.hid hbw
    dsimp only at z0 z1 z2 z3 z4
    clear hc n0 n1 n2 n3 n4 k1 k2 q0 q1 q2 q3 hbw
    go_wp2
    refine bodyPost_ret (res_nd rfl _ _ (w.heap.size + 1) _ _ _ _ _ rfl (((((K2.out.set_ 0 _).set_ 1 _).set_ 2 _).set_ 3 _).set_ 4 _)) rfl ⟨rfl, ?_⟩
    have hs : ∀ (w2 : World) (j : Nat) (v : Value), Below w.heap.size w w2 → Below w.heap.size w (w2.setCell ⟨w.heap.size + 1, j, none⟩ v) := fun w2 j v hb => hb.setCell (by show w.heap.size ≤ w.heap.size + 1; omega) _
    exact hs _ _ _ (hs _ _ _ (hs _ _ _ (hs _ _ _ (hs _ _ _ HBW.out))))
  · have hf : hasT T id = false := by simpa using hh
    rw [hf] at HH ⊢
    rw [if_neg (by decide)]
    clear hh hf
    go_enter Try.func12, Try.ntmps12
    go_upto_region 1 with (go_at_call 999)
    rw [HWW.out]
    go_upto_region 2 with (go_at_call 26; (with_reducible refine (HH.out _ HB.out).mono ?_); rintro en w1 ⟨rfl, hb1⟩; have HB1 := Lib.hid hb1; clear hb1)
    obtain ⟨k1, k2, hbw⟩ := HX.out w1 HB1.out
    have r0 : w1.cell? ⟨w.heap.size + 1, 0, none⟩ = some (.int .i64 0) := k2.cell 0
    have r1 : w1.cell? ⟨w.heap.size + 1, 1, none⟩ = some (.int .i64 0) := k2.cell 1
    have r2 : w1.cell? ⟨w.heap.size + 1, 2, none⟩ = some (.int .i64 0) := k2.cell 2
    have r3 : w1.cell? ⟨w.heap.size + 1, 3, none⟩ = some (.int .i64 0) := k2.cell 3
    have r4 : w1.cell? ⟨w.heap.size + 1, 4, none⟩ = some (.int .i64 0) := k2.cell 4
    have f0 := k2.frozen 0
    have f1 := k2.frozen 1
    have f2 := k2.frozen 2
    have f3 := k2.frozen 3
    have f4 := k2.frozen 4
    have rl := k2.lt
    have K2 := Lib.hid k2
    have HBW := Lib.hid hbw
    clear k1 k2 q0 q1 q2 q3 hbw
    go_wp2
    refine bodyPost_ret (res_nd rfl _ _ (w.heap.size + 1) _ _ _ _ _ rfl (((((K2.out.set_ 0 _).set_ 1 _).set_ 2 _).set_ 3 _).set_ 4 _)) rfl ⟨rfl, ?_⟩
    have hs : ∀ (w2 : World) (j : Nat) (v : Value), Below w.heap.size w w2 → Below w.heap.size w (w2.setCell ⟨w.heap.size + 1, j, none⟩ v) := fun w2 j v hb => hb.setCell (by show w.heap.size ≤ w.heap.size + 1; omega) _
    exact hs _ _ _ (hs _ _ _ (hs _ _ _ (hs _ _ _ (hs _ _ _ HBW.out))))
end
end Go.Proofs.Ytljclikholchmaa
