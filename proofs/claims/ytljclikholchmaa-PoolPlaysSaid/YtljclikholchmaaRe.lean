/- The law's comparison of nodes; the specification's put; layer 9 (pool). -/
import Derived.Test.YtljclikholchmaaRd
namespace Go.Proofs.Ytljclikholchmaa
open Go.RowKit

section
variable {w w' : World} {A B D C : Option Addr} {b c d e : Nat} {M : List Nd} {T : List Bool} {F : List Int}
set_option maxHeartbeats 4000000 in
theorem lw_same (hA : RowG w w.heap.size A c (ndCells M)) (hB : RowG w w.heap.size B d (ndCells M)) (hl : M.length ≤ 1000000) : Calls Try.prog 16 #[.slice A M.length c, .slice B M.length d] w fun en w' => en = .returned (.bool true) ∧ Below w.heap.size w w' := by
  have HT := Lib.hid hA
  have HU := Lib.hid hB
  have g1 : ((M.length : Int) != (M.length : Int)) = false := by simp
  clear hA hB
  go_enter Try.func16, Try.ntmps16
  go_wp2
  go_loopw [5] (fun i wr => ∃ k : Nat, k ≤ M.length ∧ i = .int .i64 (k : Int) ∧ Hid (Below w.heap.size w wr)) (fun i _ => M.length - (intOf i).toNat)
  case atStart => exact ⟨0, Nat.zero_le _, rfl, Lib.hid (Below.refl _ _)⟩
  case round =>
    obtain ⟨k, hk, rfl, HB⟩ := hrel
    by_cases hlt : k < M.length
    · have l1 : (k : Int) < (M.length : Int) := by omega
      have l0 : (0 : Int) ≤ (k : Int) := by omega
      obtain ⟨b1, f1, rfl, hb1, hc1⟩ := HT.out.out (by rw [ndCells_len]; omega)
      obtain ⟨b2, f2, rfl, hb2, hc2⟩ := HU.out.out (by rw [ndCells_len]; omega)
      obtain ⟨n0, n1, n2, n3, n4⟩ := nd_at hlt
      have y0 := (HB.out.cell (p := ⟨b1, f1 + k * 5, none⟩) hb1).trans (hc1 _ _ n0)
      have y1 := (HB.out.cell (p := ⟨b1, f1 + (k * 5 + 1), none⟩) hb1).trans (hc1 _ _ n1)
      have y2 := (HB.out.cell (p := ⟨b1, f1 + (k * 5 + 2), none⟩) hb1).trans (hc1 _ _ n2)
      have y3 := (HB.out.cell (p := ⟨b1, f1 + (k * 5 + 3), none⟩) hb1).trans (hc1 _ _ n3)
      have y4 := (HB.out.cell (p := ⟨b1, f1 + (k * 5 + 4), none⟩) hb1).trans (hc1 _ _ n4)
      have z0 := (HB.out.cell (p := ⟨b2, f2 + k * 5, none⟩) hb2).trans (hc2 _ _ n0)
      have z1 := (HB.out.cell (p := ⟨b2, f2 + (k * 5 + 1), none⟩) hb2).trans (hc2 _ _ n1)
      have z2 := (HB.out.cell (p := ⟨b2, f2 + (k * 5 + 2), none⟩) hb2).trans (hc2 _ _ n2)
      have z3 := (HB.out.cell (p := ⟨b2, f2 + (k * 5 + 3), none⟩) hb2).trans (hc2 _ _ n3)
      have z4 := (HB.out.cell (p := ⟨b2, f2 + (k * 5 + 4), none⟩) hb2).trans (hc2 _ _ n4)
      rw [← Nat.add_assoc] at y1 y2 y3 y4 z1 z2 z3 z4
      generalize M.getD k nd0 = x at y0 y1 y2 y3 y4 z0 z1 z2 z3 z4
      clear hc1 hc2 n0 n1 n2 n3 n4
      obtain ⟨x0, x1, x2, x3, x4⟩ := x
      dsimp only at y0 y1 y2 y3 y4 z0 z1 z2 z3 z4
      go_wp2
      go_big_quiet (fail)
      go_wp2
      go_roundw
      case rel => exact ⟨k + 1, by omega, by go_num, Lib.hid (by first | exact below_drewN HB.out _ | exact HB.out)⟩
      case measure => simp [intOf]; try omega
    · have l1 : ¬ (k : Int) < (M.length : Int) := by omega
      obtain rfl : k = M.length := by omega
      go_wp2
      go_ret
      exact ⟨rfl, HB.out⟩
theorem res_rp1 {fn : Func} {p : Tmp} (h : fn.results = #[.cell p 32]) (tmps : Array Value) (w : World) (g : Nat) (a b c d : Value) (hp : tmps.getD p undef = .pointer (some ⟨g, 0, none⟩)) (hg : Blk w g 32 #[a, b, c, d]) :
    (results fn tmps).run Try.prog w = .ok (.agg #[a, b, c, d]) w :=
  results_cell_row (P := Try.prog) h tmps w g 32 #[a, b, c, d] (0, 0) _ hp hg Try.underlying32 rfl size32
theorem set_blk1 (w : World) {g x : Nat} (i : Nat) (v : Value) (h : x ≠ g) : (w.setCell ⟨g, i, none⟩ v).heap[x]? = w.heap[x]? := by
  have h2 : g ≠ x := fun e => h e.symm
  simp [World.setCell, Array.getElem?_modify, h2]
theorem RowG.blocks {w w' : World} {B : Nat} {A : Option Addr} {c : Nat} {cs : List Value} (h : RowG w B A c cs) (hb : ∀ b off, A = some ⟨b, off, none⟩ → w'.heap[b]? = w.heap[b]?) : RowG w' B A c cs := by
  rcases h with h | ⟨b, off, e, hB, hc⟩
  · exact .inl h
  · exact .inr ⟨b, off, e, hB, fun i u hi => (World.cell?_of_block (a := ⟨b, off + i, none⟩) (hb b off e)).trans (hc i u hi)⟩
/-- What put gives. -/
def PutG (w : World) (room : Int) (N : List Nd) (D : Option Addr) (d m : Nat) (C : Option Addr) (e k : Nat) (en : Ending) (w' : World) : Prop := ∃ A' c', en = .returned (.agg #[.int .i64 room, .slice A' N.length c', .slice D m d, .slice C k e]) ∧ RowG w' w'.heap.size A' c' (ndCells N) ∧ (∀ b f, A' = some ⟨b, f, none⟩ → w.heap.size ≤ b) ∧ Below w.heap.size w w'
set_option maxRecDepth 100000 in
set_option maxHeartbeats 4000000 in
theorem r_put (room : Int) (m k : Nat) (hA : RowG w w.heap.size A c (ndCells M)) (hl : M.length ≤ 1000000) (i : Nat) (hi : i < M.length) (x1 x2 x3 x4 : Int) :
    Calls Try.prog 28 #[.agg (rpC room A c M.length D d m C e k), ndV ⟨(i : Int) + 1, x1, x2, x3, x4⟩] w (PutG w room (M.set i ⟨(i : Int) + 1, x1, x2, x3, x4⟩) D d m C e k) := by
  obtain ⟨i0, hi0, hz0, hz1, hz2⟩ := info_parts info38
  obtain ⟨W, hW⟩ : ∃ W, ((w.alloc (.cells (rpC room A c M.length D d m C e k) 32)).alloc (.cells #[.int .i64 ((i : Int) + 1), .int .i64 x1, .int .i64 x2, .int .i64 x3, .int .i64 x4] 38)).alloc (.cells #[.int .i64 0, .slice none 0 0, .slice none 0 0, .slice none 0 0] 32) = W := ⟨_, rfl⟩
  have hb : Below w.heap.size w W := by rw [← hW]; exact al (al (bal _ _) _) _
  have blk : ∀ (w : World) (g : Nat) (ty : TypeId) (cs : Array Value), w.heap.size = g → Blk (w.alloc (.cells cs ty)) g ty cs := fun w g ty cs e => by rw [← e]; exact Blk.new w ty cs
  have k1 : Blk W w.heap.size 32 (rpC room A c M.length D d m C e k) := by rw [← hW]; exact ((blk _ _ _ _ rfl).alloc _).alloc _
  have k2 : Blk W (w.heap.size + 1) 38 #[.int .i64 ((i : Int) + 1), .int .i64 x1, .int .i64 x2, .int .i64 x3, .int .i64 x4] := by rw [← hW]; exact (blk _ _ _ _ (by simp)).alloc _
  have k3 : Blk W (w.heap.size + 1 + 1) 32 #[.int .i64 0, .slice none 0 0, .slice none 0 0, .slice none 0 0] := by rw [← hW]; exact blk _ _ _ _ (by simp)
  have hws : W.heap.size = w.heap.size + 1 + 1 + 1 := by rw [← hW]; simp
  have HWS := Lib.hid hws
  have HB := Lib.hid hb
  have HWW := Lib.hid hW
  have HX : Hid (∀ wx, Below W.heap.size W wx → Blk wx w.heap.size 32 (rpC room A c M.length D d m C e k) ∧ Blk wx (w.heap.size + 1) 38 #[.int .i64 ((i : Int) + 1), .int .i64 x1, .int .i64 x2, .int .i64 x3, .int .i64 x4] ∧ Blk wx (w.heap.size + 1 + 1) 32 #[.int .i64 0, .slice none 0 0, .slice none 0 0, .slice none 0 0]) := Lib.hid (fun wx h => ⟨k1.below h k1.lt, k2.below h k2.lt, k3.below h k3.lt⟩)
  have HN : Hid (RowG (W.alloc (.cells #[] 38)) (W.alloc (.cells #[] 38)).heap.size A c (ndCells M)) := Lib.hid (hA.step (al hb _))
  have q1 : W.cell? ⟨w.heap.size, 1, none⟩ = some (.slice A M.length c) := k1.cell 1
  have ql := k1.lt
  have HE : Hid (OwnN (W.alloc (.cells #[] 38)) W.heap.size (.slice (some ⟨W.heap.size, 0, none⟩) 0 0) []) := Lib.hid (ownN_empty W)
  have HBE : Hid (Below W.heap.size W (W.alloc (.cells #[] 38))) := Lib.hid (bal _ _)
  have HI := Lib.hid hi
  have h0 : (0 : Int) ≤ (i : Int) := by omega
  have h1 : (i : Int) < (M.length : Int) := by omega
  have g0 : wrap64 (i : Int) = (i : Int) := by unfold wrap64; omega
  have g1 : IntKind.i64.wrap (i : Int) = (i : Int) := IntWalk.i64_in _ (by omega)
  unfold rpC at HWW HX ⊢
  unfold ndV ndRow
  dsimp only
  clear hA hb k1 k2 k3 hW hws hi
  go_enter Try.func28, Try.ntmps28
  go_upto_region 1 with (go_at_call 999)
  rw [HWW.out]
  go_upto_region 2 with (at_builtin; (refine wpList_app_row rfl (.tmp 6) (.tmp 8) 28 rfl W.heap.size 38 i0 _ 5 40 Try.underlying28 hi0 hz0 hz1 hz2 rfl (by decide) _ _ 0 [] rfl HE.out A M.length c _ (ndCells M) rfl HN.out (by rw [ndCells_len]) (ndCells_one _) (max_fits (by omega)).1 (max_fits (by omega)).2 (by simp) ?_); intro v4 w4 hO4 hb4; rw [Nat.zero_add, List.nil_append] at hO4; obtain ⟨A4, c4, e4, _⟩ := RowG.own (by decide) hO4; subst e4; have HO4 := Lib.hid hO4; have HB4 := Lib.hid (HBE.out.trans hb4); clear hO4 hb4)
  have hO : OwnN w4 W.heap.size (.slice A4 M.length c4) M := HO4.out
  obtain ⟨y, hy⟩ : ∃ y, M[i]? = some y := ⟨_, List.getElem?_eq_getElem HI.out⟩
  obtain ⟨g, rfl, hg, hzz⟩ := hO.at hy
  clear hzz
  obtain ⟨z0, z1, z2, z3, z4⟩ := OwnN.cells hO hy
  have hfz := own_frozen hO
  have f0 := hfz (i * 5)
  have f1 := hfz (i * 5 + 1)
  have f2 := hfz (i * 5 + 2)
  have f3 := hfz (i * 5 + 3)
  have f4 := hfz (i * 5 + 4)
  obtain ⟨_, hgl⟩ := World.ownsRow.lt hO g rfl
  obtain ⟨k1, k2, k3⟩ := HX.out w4 HB4.out
  have r0 : w4.cell? ⟨w.heap.size + 1, 0, none⟩ = some (.int .i64 ((i : Int) + 1)) := k2.cell 0
  have r1 : w4.cell? ⟨w.heap.size + 1, 1, none⟩ = some (.int .i64 x1) := k2.cell 1
  have r2 : w4.cell? ⟨w.heap.size + 1, 2, none⟩ = some (.int .i64 x2) := k2.cell 2
  have r3 : w4.cell? ⟨w.heap.size + 1, 3, none⟩ = some (.int .i64 x3) := k2.cell 3
  have r4 : w4.cell? ⟨w.heap.size + 1, 4, none⟩ = some (.int .i64 x4) := k2.cell 4
  have rl := k2.lt
  obtain ⟨w5, hw5⟩ : ∃ w5, put5 w4 g (i * 5) ⟨(i : Int) + 1, x1, x2, x3, x4⟩ = w5 := ⟨_, rfl⟩
  have hb5 : Below W.heap.size W w5 := by rw [← hw5]; exact put5_below HB4.out hg _ _
  have ho5 : OwnN w5 W.heap.size (.slice (some ⟨g, 0, none⟩) (M.set i ⟨(i : Int) + 1, x1, x2, x3, x4⟩).length c4) (M.set i ⟨(i : Int) + 1, x1, x2, x3, x4⟩) := by rw [← hw5]; exact hO.put HI.out _
  have HO5 := Lib.hid ho5
  have HB5 := Lib.hid hb5
  have HGG := Lib.hid hg
  have HP5 := Lib.hid hw5
  unfold put5 at HP5
  dsimp only at HP5
  clear hO hy hfz hw5 hb5 ho5 k1 k2 k3 hg q1 ql
  go_upto_region 3 with (fail)
  rw [HP5.out]
  clear z0 z1 z2 z3 z4 f0 f1 f2 f3 f4 hgl r0 r1 r2 r3 r4 rl
  obtain ⟨k1, _, k3⟩ := HX.out w5 HB5.out
  have s1 : w5.cell? ⟨w.heap.size, 1, none⟩ = some (.slice A M.length c) := k1.cell 1
  have s2 := k1.frozen 1
  have s3 := k1.lt
  have K1 := Lib.hid k1
  have K3 := Lib.hid k3
  clear k1 k3
  go_upto_region 4 with (fail)
  obtain ⟨w6, hw6⟩ : ∃ w6, w5.setCell ⟨w.heap.size, 1, none⟩ (.slice (some ⟨g, 0, none⟩) M.length c4) = w6 := ⟨_, rfl⟩
  have k1 : Blk w6 w.heap.size 32 #[.int .i64 room, .slice (some ⟨g, 0, none⟩) M.length c4, .slice D m d, .slice C k e] := by rw [← hw6]; exact K1.out.set_ 1 _
  have k3 : Blk w6 (w.heap.size + 1 + 1) 32 #[.int .i64 0, .slice none 0 0, .slice none 0 0, .slice none 0 0] := by rw [← hw6]; exact (set_blk1 _ _ _ (by omega)).trans K3.out
  have HW6 := Lib.hid hw6
  rw [hw6]
  have t0 : w6.cell? ⟨w.heap.size, 0, none⟩ = some (.int .i64 room) := k1.cell 0
  have t1 : w6.cell? ⟨w.heap.size, 1, none⟩ = some (.slice (some ⟨g, 0, none⟩) M.length c4) := k1.cell 1
  have t2 : w6.cell? ⟨w.heap.size, 2, none⟩ = some (.slice D m d) := k1.cell 2
  have t3 : w6.cell? ⟨w.heap.size, 3, none⟩ = some (.slice C k e) := k1.cell 3
  have tl := k1.lt
  have u0 : w6.cell? ⟨w.heap.size + 1 + 1, 0, none⟩ = some (.int .i64 0) := k3.cell 0
  have u1 : w6.cell? ⟨w.heap.size + 1 + 1, 1, none⟩ = some (.slice none 0 0) := k3.cell 1
  have u2 : w6.cell? ⟨w.heap.size + 1 + 1, 2, none⟩ = some (.slice none 0 0) := k3.cell 2
  have u3 : w6.cell? ⟨w.heap.size + 1 + 1, 3, none⟩ = some (.slice none 0 0) := k3.cell 3
  have v0 := k3.frozen 0
  have v1 := k3.frozen 1
  have v2 := k3.frozen 2
  have v3 := k3.frozen 3
  have ul := k3.lt
  have K6 := Lib.hid k3
  clear s1 s2 s3 k1 k3 hw6
  go_wp2
  refine bodyPost_ret (res_rp1 rfl _ _ (w.heap.size + 1 + 1) _ _ _ _ rfl ((((K6.out.set_ 0 _).set_ 1 _).set_ 2 _).set_ 3 _)) rfl ⟨some ⟨g, 0, none⟩, c4, ?_, ?_, fun b f e => (by cases e; have h2 := HWS.out; have h3 := HGG.out; omega), ?_⟩
  · rw [show (M.set i (⟨(i : Int) + 1, x1, x2, x3, x4⟩ : Nd)).length = M.length from List.length_set]
  · obtain ⟨A6, c6, e6, hR⟩ := RowG.own (by decide) HO5.out
    cases e6
    have h2 := HWS.out
    have h3 := HGG.out
    refine (hR.blocks (w' := _) (fun b off e => ?_)).more ?_
    · cases e
      rw [set_blk1 _ _ _ (by omega), set_blk1 _ _ _ (by omega), set_blk1 _ _ _ (by omega), set_blk1 _ _ _ (by omega), ← HW6.out, set_blk1 _ _ _ (by omega)]
    · rw [← HW6.out]; simp
  · have hs : ∀ (w2 : World) (q j : Nat) (v : Value), w.heap.size ≤ q → Below w.heap.size w w2 → Below w.heap.size w (w2.setCell ⟨q, j, none⟩ v) := fun w2 q j v hq hb => hb.setCell hq _
    refine hs _ _ _ _ (by omega) (hs _ _ _ _ (by omega) (hs _ _ _ _ (by omega) (hs _ _ _ _ (by omega) ?_)))
    rw [← HW6.out]
    exact hs _ _ _ _ (by omega) (bt HB.out HB5.out)
end
end Go.Proofs.Ytljclikholchmaa
