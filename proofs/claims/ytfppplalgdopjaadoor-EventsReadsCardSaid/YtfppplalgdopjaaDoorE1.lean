/- What a new manager is made of: tables, slots, levels, the computed table; layer 28 (events). -/
import Derived.Test.YtfppplalgdopjaaDoorFn4
import Derived.Laws.ResultCell
import Derived.Deep.Cut
import Derived.Deep.RegionHeld3
import Derived.Maps.OwnOps
import Derived.Deep.AppendLies
import Derived.Deep.RegionLaw
namespace Go.Proofs.YtfppplalgdopjaaDoor
open Go.RowKit

theorem below_al {w : World} (o : Obj) : Below w.heap.size w (w.alloc o) := (Below.refl _ _).alloc (Nat.le_refl _) _
def PtrP (w : World) (e : Ending) (w' : World) : Prop := ∃ g : Nat, e = .returned (.pointer (some ⟨g, 0, none⟩)) ∧ Below w.heap.size w w'
theorem make113 (w : World) : (Instr.makeMap 113 none).run Tryd.prog w = .ok (.map (some w.heap.size)) (w.alloc (.map #[] 0)) := by kernel_rfl
theorem e_uniqNew (w : World) : Calls Tryd.prog 40 #[] w (PtrP w) := by
  have mk := make113
  have HB : Hid (Below w.heap.size w ((w.alloc (.map #[] 0)).alloc (.cells #[.map (some w.heap.size)] 115))) := Lib.hid ((below_al _).alloc (by simp) _)
  go_enter Tryd.func40, Tryd.ntmps40
  go_wp2
  go_ret
  exact ⟨_, rfl, HB.out⟩
def Ptr2P (w : World) (e : Ending) (w' : World) : Prop := ∃ g : Nat, e = .returned (.tuple #[.pointer (some ⟨g, 0, none⟩), .int .i64 0]) ∧ Below w.heap.size w w'
theorem e_poolNew (room : Int) (w : World) (h1 : 1 ≤ room) (h2 : room ≤ 1000000) : Calls Tryd.prog 38 #[.int .i64 room] w (Ptr2P w) := by
  have a1 : ¬ room < 1 := by omega
  have a2 : ¬ 1048576 < room := by omega
  have HB : Hid (Below w.heap.size w (w.alloc (.cells #[.int .i64 room, .slice none 0 0, .slice none 0 0, .slice none 0 0] 111))) := Lib.hid (below_al _)
  go_enter Tryd.func38, Tryd.ntmps38
  go_wp2
  go_returns
  exact ⟨_, rfl, HB.out⟩
def RowL (w : World) (n : Nat) (e : Ending) (w' : World) : Prop := ∃ (A : Option Addr) (c : Nat), e = .returned (.slice A n c) ∧ Below w.heap.size w w'
theorem info3e : (Tryd.prog.info? 3).map (fun i => (i.zero, i.size, i.bytes)) = some (some (.int .i64 0), 1, 8) := by kernel_rfl
theorem run_mk89 (n : Nat) (hn : n ≤ 1000000) (w : World) : ∃ cs : Array Value, cs.size = n ∧ (Instr.makeSlice 89 (.int .i64 (n : Int)) (.int .i64 (n : Int))).run Tryd.prog w = .ok (.slice (some ⟨w.heap.size, 0, none⟩) n n) (w.alloc (.cells cs 3)) := by
  obtain ⟨i, hi, hz0, hz1, hz2⟩ := info_parts info3e
  have h := run_make (P := Tryd.prog) w 89 3 i _ Tryd.underlying89 hi hz0 .i64 .i64 n n (by omega) (by omega) (by rw [hz2]; omega) (by omega)
  rw [hz1] at h
  simp only [Int.toNat_natCast, Nat.mul_one] at h
  exact ⟨_, by rw [size_madeCells], h⟩
set_option maxRecDepth 100000 in
theorem e_Ident (n : Nat) (w : World) (hn : n ≤ 64) : Calls Tryd.prog 48 #[.int .i64 (n : Int)] w (RowL w n) := by
  obtain ⟨cs, hcs, hmk⟩ := run_mk89 n (by omega) w
  have hmx : max (n : Int) 0 = (n : Int) := by omega
  have hmn : min (n : Int) 64 = (n : Int) := by omega
  have HB1 : Hid (Blk (w.alloc (.cells cs 3)) w.heap.size 3 cs) := Lib.hid (Blk.new _ _ _)
  have HB2 : Hid (Below w.heap.size w (w.alloc (.cells cs 3))) := Lib.hid (below_al _)
  go_enter Tryd.func48, Tryd.ntmps48
  go_wp2
  clear hmk
  go_loopw [11] (fun i wr => ∃ (k : Nat) (ds : Array Value), k ≤ n ∧ i = .int .i64 (k : Int) ∧ ds.size = n ∧ Hid (Blk wr w.heap.size 3 ds) ∧ Below w.heap.size w wr) (fun i _ => n - (intOf i).toNat)
  case atStart => exact ⟨0, cs, Nat.zero_le _, rfl, hcs, HB1, HB2.out⟩
  case round =>
    obtain ⟨k, ds, hk, rfl, hds, HK, hb⟩ := hrel
    by_cases hkl : k < n
    · have h1 : (k : Int) < (n : Int) := by omega
      have h0 : (0 : Int) ≤ (k : Int) := by omega
      have c0 : wr.cell? ⟨w.heap.size, k, none⟩ = some ds[k] := by rw [HK.out.cell, Array.getElem?_eq_getElem (by omega)]
      have c1 := HK.out.frozen k
      have c2 := HK.out.lt
      have HN : Hid (Blk (wr.setCell ⟨w.heap.size, k, none⟩ (.int .i64 (k : Int))) w.heap.size 3 (ds.setIfInBounds k (.int .i64 (k : Int)))) := Lib.hid (HK.out.set_ k _)
      have HB := Lib.hid (hb.setCell (p := ⟨w.heap.size, k, none⟩) (Nat.le_refl _) (.int .i64 (k : Int)))
      have HS : Hid ((ds.setIfInBounds k (.int .i64 (k : Int))).size = n) := Lib.hid (by rw [Array.size_setIfInBounds]; exact hds)
      generalize ds[k] = dk at *
      go_wp2
      go_roundw
      case rel => exact ⟨k + 1, _, by omega, by go_num, HS.out, HN, HB.out⟩
      case measure => simp [intOf]; omega
    · obtain rfl : k = n := by omega
      have h1 : ¬ (k : Int) < (k : Int) := by omega
      have HB := Lib.hid hb
      clear hb
      go_wp2
      go_ret
      exact ⟨_, _, rfl, HB.out⟩
theorem results_cell_one {fn : Func} {p : Tmp} {ty : TypeId} (h : fn.results = #[.cell p ty]) (tmps : Array Value) (P : Program) (w : World) :
    (results fn tmps).run P w =
      ((asAddr (tmps.getD p undef)).run P w).andThen fun a w₁ => (loadVar ty a).run P w₁ := by
  simp only [results, h]
  simp [Sem.run_bind, Result.andThen]
theorem size91 : (Tryd.prog.info? 91).map (·.size) = some 2 := by kernel_rfl
theorem res_91 {fn : Func} {p : Tmp} (h : fn.results = #[.cell p 91]) (tmps : Array Value) (w : World) (g : Nat) (a b : Value) (hp : tmps.getD p undef = .pointer (some ⟨g, 0, none⟩)) (hg : Blk w g 91 #[a, b]) :
    (results fn tmps).run Tryd.prog w = .ok (.agg #[a, b]) w := by
  have h2 := run_loadVar_row (P := Tryd.prog) w g 91 91 #[a, b] (0, 0) _ hg Tryd.underlying91 rfl size91
  rw [results_cell_one h, hp]
  simp [asAddr, Result.andThen, h2]
set_option maxRecDepth 100000 in
theorem e_newLevels (n : Nat) (w : World) (hn : n ≤ 64) : Calls Tryd.prog 39 #[.int .i64 (n : Int)] w fun e w' => ∃ (A A2 : Option Addr) (c c2 : Nat), e = .returned (.agg #[.slice A n c, .slice A2 n c2]) ∧ Below w.heap.size w w' := by
  have HI : Hid (∀ wx, Calls Tryd.prog 48 #[.int .i64 (n : Int)] wx (RowL wx n)) := Lib.hid (fun wx => e_Ident n wx hn)
  have HB1 : Hid (Blk (w.alloc (.cells #[.slice none 0 0, .slice none 0 0] 91)) w.heap.size 91 #[.slice none 0 0, .slice none 0 0]) := Lib.hid (Blk.new _ _ _)
  have HB2 : Hid (Below w.heap.size w (w.alloc (.cells #[.slice none 0 0, .slice none 0 0] 91))) := Lib.hid (below_al _)
  go_enter Tryd.func39, Tryd.ntmps39
  go_upto_region 1 with (fail)
  obtain ⟨W, hW⟩ : ∃ W, w.alloc (.cells #[.slice none 0 0, .slice none 0 0] 91) = W := ⟨_, rfl⟩
  rw [hW] at HB1 HB2 ⊢
  clear hW
  go_wp2_with (first
    | (go_at_call 48; have _ := HW1; (with_reducible refine (HI.out w1).mono ?_); rintro e w2 ⟨A2, c2, rfl, hb2⟩; have hk2 := HK1.out.below hb2 HK1.out.lt; have d0 : w2.cell? ⟨w.heap.size, 0, none⟩ = _ := hk2.cell 0; have d1 : w2.cell? ⟨w.heap.size, 1, none⟩ = _ := hk2.cell 1; have d2 := hk2.frozen 0; have d3 := hk2.frozen 1; have d4 := hk2.lt; have HK2 := Lib.hid hk2; have HW2 := Lib.hid (HW1.out.trans (hb2.mono HW1.out.size)); clear hb2 hk2)
    | (go_at_call 48; (with_reducible refine (HI.out W).mono ?_); rintro e w1 ⟨A1, c1, rfl, hb1⟩; have HK1 := Lib.hid (HB1.out.below hb1 HB1.out.lt); have HW1 := Lib.hid (HB2.out.trans (hb1.mono HB2.out.size)); clear hb1))
  obtain ⟨W3, hW3⟩ : ∃ W3, (w2.setCell ⟨w.heap.size, 0, none⟩ (.slice A1 n c1)).setCell ⟨w.heap.size, 1, none⟩ (.slice A2 n c2) = W3 := ⟨_, rfl⟩
  have hk3 : Blk W3 w.heap.size 91 #[.slice A1 n c1, .slice A2 n c2] := by rw [← hW3]; exact (HK2.out.set_ 0 _).set_ 1 _
  have hb3 : Below w.heap.size w W3 := by rw [← hW3]; exact (HW2.out.setCell (p := ⟨w.heap.size, 0, none⟩) (Nat.le_refl _) _).setCell (p := ⟨w.heap.size, 1, none⟩) (Nat.le_refl _) _
  rw [hW3]
  refine bodyPost_ret (res_91 rfl _ _ w.heap.size _ _ rfl hk3) rfl ⟨A1, A2, c1, c2, rfl, hb3⟩
theorem info96 : (Tryd.prog.info? 96).map (fun i => (i.zero, i.size, i.bytes)) = some (some (.pointer none), 1, 8) := by kernel_rfl
/-- append of one pointer to a row of the call's own, as a step of a region that draws its order. -/
theorem step_app_ptr {ops : Array Oper} {o : Oper} {a : Act} {w : World} {K : Act → World → Prop} {Q : Exit → Act → World → Prop} {E : Prop} (hgd : o.guard = none) (s x : Operand)
    (ho : o.op = .call { callee := .builtin .append, args := #[s, x], argTypes := #[93, 93] })
    (B : Nat) (v : Value) (n : Nat) (xs : List Value) (hs : a.eval s = v) (hown : w.ownsRow B 96 1 v n xs) (ad : Addr) (p : Value) (hx : a.eval x = .slice (some ad) 1 1) (hc : ∀ j u, [p][j]? = some u → w.cell? (ad.add j) = some u) (hp : p.oneCell' = true)
    (hB : B ≤ w.heap.size) (hlen : n ≤ 1000000) (hK : ∀ v' w', w'.ownsRow B 96 1 v' (n + 1) (xs ++ [p]) → w.grownBy w' v.ownBlock → K (a.put o.dst v') w') :
    if Region.wanted o (yielded ops a.tmps) = true then Oper.wp Tryd.prog o a w K Q else E := by
  obtain ⟨i0, hi0, hz0, hz1, hz2⟩ := info_parts info96
  have hw : Region.wanted o (yielded ops a.tmps) = true := by simp [Region.wanted, hgd]
  rw [if_pos hw]
  obtain ⟨v', w', hr, h2, h3, h4, h5⟩ := run_append_own_at (P := Tryd.prog) w B 93 o.type 96 i0 _ 1 8 Tryd.underlying93 hi0 hz0 hz1 hz2 rfl (by decide) v n xs hown ad 1 1 [p] rfl hc (by intro u hu; simp at hu; rw [hu]; exact hp) (by unfold maxLen; omega) (by omega) hB
  unfold Oper.wp
  simp [execOp, ho, resolve, invoke, builtin, hs, hx, hr, Result.andThen]
  exact hK v' w' h2 h3
theorem own_at {wr w1 : World} {B n : Nat} {v : Value} {xs : List Value} (hO : wr.ownsRow B 96 1 v n xs) (hb : Below wr.heap.size wr w1) (ob : Obj) : (w1.alloc ob).ownsRow B 96 1 v n xs := by
  refine World.ownsRow.alloc ⟨hO.1, ?_⟩ ob
  rcases hO.2 with hn | ⟨g, cap, cur, rfl, hB, hgg, rest⟩
  · exact .inl hn
  · refine .inr ⟨g, cap, cur, rfl, hB, ?_, rest⟩
    rw [hb.block g (Array.getElem?_eq_some_iff.1 hgg).1]
    exact hgg
theorem ptr_keep {w0 wr w1 w8 : World} {s n B : Nat} {v : Value} {t : TypeId} {cs : Array Value} {xs : List Value} (hK : Blk wr s t cs) (hO : wr.ownsRow (s + 1) 96 1 v n xs) (hb : Below B w0 wr) (hBs : B ≤ s) (ob : Obj) (h1 : Below wr.heap.size wr w1) (hg : (w1.alloc ob).grownBy w8 v.ownBlock) :
    Blk w8 s t cs ∧ Below B w0 w8 := by
  have hl := hK.lt
  have ha : Below wr.heap.size wr (w1.alloc ob) := h1.alloc h1.size ob
  have h2 := hg.block s (Nat.lt_of_lt_of_le hl ha.size) (fun e => by have := (hO.lt _ e.symm).1; omega)
  refine ⟨h2.trans ((ha.block _ hl).trans hK), ?_⟩
  exact (hb.trans (ha.mono (Nat.le_trans hBs (Nat.le_of_lt hl)))).grown hg (Nat.le_trans (Nat.le_trans hBs (Nat.le_of_lt hl)) ha.size) (fun k e => by have := (hO.lt k e).1; omega)
theorem cell_one_new (w : World) (t : TypeId) (p : Value) (j : Nat) (u : Value) (h : [p][j]? = some u) : (w.alloc (.cells #[p] t)).cell? ((⟨w.heap.size, 0, none⟩ : Addr).add j) = some u := by
  have h0 := (Blk.new w t #[p]).cell 0
  cases j with
  | zero => simp only [Addr.add, if_true]; rw [h0]; simpa using h
  | succ j => simp at h
theorem owns_slice {w : World} {base size n : Nat} {e : TypeId} {v : Value} {xs : List Value} (h : w.ownsRow base e size v n xs) : ∃ A c, v = .slice A n c := by
  rcases h.2 with ⟨rfl, rfl⟩ | ⟨g, cap, cur, rfl, _⟩
  · exact ⟨none, 0, rfl⟩
  · exact ⟨_, _, rfl⟩
theorem own_set {w : World} {s n : Nat} {v u : Value} {i : Nat} {xs : List Value} (hO : w.ownsRow (s + 1) 96 1 v n xs) : (w.setCell ⟨s, i, none⟩ u).ownsRow (s + 1) 96 1 v n xs := by
  refine ⟨hO.1, ?_⟩
  rcases hO.2 with hn | ⟨g, cap, cur, rfl, hB, hgg, rest⟩
  · exact .inl hn
  · refine .inr ⟨g, cap, cur, rfl, hB, ?_, rest⟩
    have h1 : s ≠ g := by omega
    rw [← hgg]
    simp [World.setCell, Array.getElem?_modify, h1]
def NodesP (w : World) (vars : Int) (e : Ending) (w' : World) : Prop :=
  (vars < 0 ∨ 64 < vars) ∧ e = .returned (.tuple #[.pointer none, .int .i64 2]) ∧ Below w.heap.size w w' ∨
  ∃ (n s : Nat) (A : Option Addr) (c : Nat), vars = (n : Int) ∧ n ≤ 64 ∧ e = .returned (.tuple #[.pointer (some ⟨s, 0, none⟩), .int .i64 0]) ∧ w'.cell? ⟨s, 0, none⟩ = some (.slice A n c) ∧ s < w'.heap.size ∧ w.heap.size ≤ s ∧ Below w.heap.size w w'
set_option maxRecDepth 100000 in
set_option maxHeartbeats 4000000 in
theorem e_nodesNew (vars room : Int) (w : World) (r1 : 1 ≤ room) (r2 : room ≤ 1000000) : Calls Tryd.prog 25 #[.int .i64 vars, .int .i64 room] w (NodesP w vars) := by
  have HPO : Hid (∀ wx, Calls Tryd.prog 38 #[.int .i64 room] wx (Ptr2P wx)) := Lib.hid (fun wx => e_poolNew room wx r1 r2)
  by_cases v0 : vars < 0
  · have HO := Lib.hid v0
    go_enter Tryd.func25, Tryd.ntmps25
    go_wp2
    go_returns
    exact .inl ⟨.inl HO.out, rfl, Below.refl _ _⟩
  · by_cases v1 : 64 < vars
    · have HO := Lib.hid v1
      go_enter Tryd.func25, Tryd.ntmps25
      go_wp2
      go_returns
      exact .inl ⟨.inr HO.out, rfl, Below.refl _ _⟩
    · obtain ⟨n, rfl⟩ : ∃ n : Nat, vars = (n : Int) := ⟨vars.toNat, by omega⟩
      have HL : Hid (∀ wx, Calls Tryd.prog 39 #[.int .i64 (n : Int)] wx fun e w' => ∃ (A A2 : Option Addr) (c c2 : Nat), e = .returned (.agg #[.slice A n c, .slice A2 n c2]) ∧ Below wx.heap.size wx w') := Lib.hid (fun wx => e_newLevels n wx (by omega))
      have HU := Lib.hid e_uniqNew
      have hn64 : n ≤ 64 := by omega
      go_enter Tryd.func25, Tryd.ntmps25
      go_upto_region 7 with (first
        | (go_at_call 39; have _ := HW1; (with_reducible refine (HL.out w1).mono ?_); rintro e w2 ⟨A1, A2, c1, c2, rfl, hb2⟩; have HW2 := Lib.hid (HW1.out.trans (hb2.mono HW1.out.size)); clear hb2)
        | (go_at_call 38; (with_reducible refine (HPO.out w).mono ?_); rintro e w1 ⟨p, rfl, hb1⟩; have HW1 := Lib.hid hb1; clear hb1))
      obtain ⟨W3, hW3⟩ : ∃ W, w2.alloc (.cells #[.slice A1 n c1, .slice A2 n c2, .pointer (some ⟨p, 0, none⟩), .slice none 0 0, .slice none 0 0, .int .i64 0] 95) = W := ⟨_, rfl⟩
      have HK3 : Hid (Blk W3 w2.heap.size 95 #[.slice A1 n c1, .slice A2 n c2, .pointer (some ⟨p, 0, none⟩), .slice none 0 0, .slice none 0 0, .int .i64 0]) := Lib.hid (by rw [← hW3]; exact Blk.new _ _ _)
      have HB3 : Hid (Below w.heap.size w W3) := Lib.hid (by rw [← hW3]; exact HW2.out.alloc HW2.out.size _)
      have hsz := HW2.out.size
      rw [hW3]
      clear hW3
      obtain ⟨s, hs⟩ : ∃ s, w2.heap.size = s := ⟨_, rfl⟩
      rw [hs] at HK3 hsz ⊢
      clear hs HW1 HW2 HL HPO
      go_wp2
      go_loopw [27] (fun i wr => ∃ (k : Nat) (A : Option Addr) (c : Nat) (xs : List Value), k ≤ n ∧ i = .int .i64 (k : Int) ∧ Hid (Blk wr s 95 #[.slice A1 n c1, .slice A2 n c2, .pointer (some ⟨p, 0, none⟩), .slice A k c, .slice none 0 0, .int .i64 0]) ∧ Hid (wr.ownsRow (s + 1) 96 1 (.slice A k c) k xs) ∧ Below w.heap.size w wr) (fun i _ => n - (intOf i).toNat)
      case atStart => exact ⟨0, none, 0, [], Nat.zero_le _, rfl, HK3, Lib.hid (World.ownsRow_nil _ _ _ _), HB3.out⟩
      case round =>
        obtain ⟨k, A, c, xs, hk, rfl, HK, HO, hb⟩ := hrel
        by_cases hkl : k < n
        · have h1 : (k : Int) < (n : Int) := by omega
          have c0 : wr.cell? ⟨s, 3, none⟩ = some (.slice A k c) := HK.out.cell 3
          have c1' := HK.out.lt
          have c2' := HK.out.frozen 3
          have HOA : Hid (∀ w1, Below wr.heap.size wr w1 → ∀ ob, (w1.alloc ob).ownsRow (s + 1) 96 1 (.slice A k c) k xs) := Lib.hid (fun w1 hw ob => own_at HO.out hw ob)
          have HKE : Hid (∀ w1 w8 ob, Below wr.heap.size wr w1 → (w1.alloc ob).grownBy w8 (Value.slice A k c).ownBlock → Blk w8 s 95 #[.slice A1 n c1, .slice A2 n c2, .pointer (some ⟨p, 0, none⟩), .slice A k c, .slice none 0 0, .int .i64 0] ∧ Below w.heap.size w w8) := Lib.hid (fun w1 w8 ob hw hg => ptr_keep HK.out HO.out hb hsz ob hw hg)
          clear hb
          have hk1 : k ≤ 1000000 := by omega
          go_upto_region 9 with (fail)
          go_region_law (first
            | (refine step_app_ptr (by rfl) (.tmp 33) (.tmp 35) (by rfl) (s + 1) (.slice A k c) k xs (by rfl) (HOA.out _ HQ5.out _) ⟨_, 0, none⟩ (.pointer (some ⟨g5, 0, none⟩)) (by rfl) (fun j u h => cell_one_new _ _ _ j u h) (by rfl) (by simp; omega) (by omega) ?_; intro v8 w8 hO8 hg8; obtain ⟨k8, b8⟩ := HKE.out _ _ _ HQ5.out hg8; obtain ⟨A8, c8, hv8⟩ := owns_slice hO8; subst hv8; have e0 : w8.cell? ⟨s, 3, none⟩ = some (.slice A k c) := k8.cell 3; have e1 := k8.lt; have e2 := k8.frozen 3; have K8 := Lib.hid k8; have B8 := Lib.hid b8; have O8 := Lib.hid hO8; clear hO8 hg8 k8 b8)
            | (go_simp; go_at_call 40; (with_reducible refine (HU.out _).mono ?_); rintro e w5 ⟨g5, rfl, hb5⟩; have hq5 : Below wr.heap.size wr w5 := ((Below.refl wr.heap.size wr).drew).trans hb5; have d0 : w5.cell? ⟨s, 3, none⟩ = some (.slice A k c) := (hq5.cell (p := ⟨s, 3, none⟩) c1').trans c0; have d1 := Nat.lt_of_lt_of_le c1' hq5.size; have d2 : w5.frozen? ⟨s, 3, none⟩ = false := (hq5.frozen (p := ⟨s, 3, none⟩) c1').trans c2'; have HQ5 := Lib.hid hq5; clear hb5 hq5))
          all_goals
            have HFI : Hid (Blk (w8.setCell ⟨s, 3, none⟩ (.slice A8 (k + 1) c8)) s 95 #[.slice A1 n c1, .slice A2 n c2, .pointer (some ⟨p, 0, none⟩), .slice A8 (k + 1) c8, .slice none 0 0, .int .i64 0] ∧ (w8.setCell ⟨s, 3, none⟩ (.slice A8 (k + 1) c8)).ownsRow (s + 1) 96 1 (.slice A8 (k + 1) c8) (k + 1) (xs ++ [.pointer (some ⟨g5, 0, none⟩)]) ∧ Below w.heap.size w (w8.setCell ⟨s, 3, none⟩ (.slice A8 (k + 1) c8))) := Lib.hid ⟨K8.out.set_ 3 _, own_set O8.out, B8.out.setCell (p := ⟨s, 3, none⟩) hsz _⟩
            clear e0 e1 e2
            go_wp2
            go_roundw
            case rel => exact ⟨k + 1, A8, c8, _, by omega, by go_num, Lib.hid HFI.out.1, Lib.hid HFI.out.2.1, HFI.out.2.2⟩
            case measure => simp [intOf]; omega
        · obtain rfl : k = n := by omega
          have h1 : ¬ (k : Int) < (k : Int) := by omega
          have HB := Lib.hid hb
          clear hb
          go_wp2
          go_returns
          exact .inr ⟨k, s, A1, c1, rfl, by omega, rfl, HK.out.cell 0, HK.out.lt, hsz, HB.out⟩
end Go.Proofs.YtfppplalgdopjaaDoor
