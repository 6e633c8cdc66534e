/- Contract of Take of a pool that takes a new slot, of layer 9 (pool), over the translation. -/
import Derived.Test.YtljclikholchmaaFn7
namespace Go.Proofs.Ytljclikholchmaa
open Go.RowKit

section
variable {w : World} {base bp : Nat} {room : Int} {An As : Option Addr} {cn cs : Nat} {N : List Nd} {st : List Int} {nf : Nat}
theorem PoolIn.set_out (h : PoolIn w base bp room An As cn cs N st nf) {b : Nat} (hb : ¬ PoolS bp An As b) (o : Nat) (u : Value) : PoolIn (w.setCell ⟨b, o, none⟩ u) base bp room An As cn cs N st nf := by
  refine ⟨h.head.set_other (fun e => hb (.inl e)) _ _, own_set_other h.nodes ?_ _ _, own_set_other h.stack ?_ _ _, h.le, h.lo, h.nn, h.ns, h.ndist⟩
  · intro e
    cases An with
    | none => cases e
    | some a => exact hb (.inr (.inl ⟨a, rfl, by simpa [Value.ownBlock] using e⟩))
  · intro e
    cases As with
    | none => cases e
    | some a => exact hb (.inr (.inr ⟨a, rfl, by simpa [Value.ownBlock] using e⟩))
end
section
variable {w : World} {base bp : Nat} {room : Int} {An As : Option Addr} {cn cs : Nat} {N : List Nd} {st : List Int} {nf : Nat}
def TakeNew (w : World) (base bp : Nat) (room : Int) (An As : Option Addr) (cs : Nat) (N : List Nd) (st : List Int) (x : Nd) (e : Ending) (w' : World) : Prop :=
  ∃ g' c', e = .returned (.tuple #[.int .i64 ((N.length : Int) + 1), .int .i64 0]) ∧ PoolIn w' base bp room (some ⟨g', 0, none⟩) As c' cs (N ++ [{ x with id := (N.length : Int) + 1 }]) st 0 ∧ Frm (PoolS bp An As) w w' ∧ (An = some ⟨g', 0, none⟩ ∨ w.heap.size < g')
set_option maxRecDepth 100000 in
set_option maxHeartbeats 4000000 in
theorem pool_Take_new (h : PoolIn w base bp room An As cn cs N st 0) (hN : N.length < 1048576) (hr : (N.length : Int) < room) (x : Nd) : Calls Try.prog 19 #[.pointer (some ⟨bp, 0, none⟩), ndV x] w (TakeNew w base bp room An As cs N st x) := by
  have hb : Below w.heap.size w (w.alloc (.cells (ndRow x) 38)) := (Below.refl _ _).alloc (Nat.le_refl _) _
  have hP := h.below hb
  have e0 := hP.head.cell 0
  have e1 := hP.head.cell 1
  have e3 := hP.head.cell 3
  simp [freeV] at e0 e1 e3
  have HP := Lib.hid hP
  have HB := Lib.hid hb
  have HH := Lib.hid h
  obtain ⟨i0, hi0, hz0, hz1, hz2⟩ := info_parts info38
  obtain ⟨x0, x1, x2, x3, x4⟩ := x
  unfold ndV ndRow
  unfold ndRow at HB HP e0 e1 e3
  dsimp only at HB HP e0 e1 e3 ⊢
  have hr2 : decide ((N.length : Int) < room) = true := decide_eq_true hr
  have HN := Lib.hid hN
  clear h hb hP hr
  go_enter Try.func19, Try.ntmps19
  go_wp2
  go_quiet (fail)
  have hP2 := HP.out.below (below_drewN (Below.refl _ _) nq)
  have hPa := hP2.below ((Below.refl _ _).alloc (Nat.le_refl _) (.cells (ndRow nd0) 38))
  have hbe : base ≤ w.heap.size := Nat.le_trans HH.out.lo (Nat.le_of_lt HH.out.head.lt)
  have hmx : N.length + 1 ≤ maxLen := by have := HN.out; unfold maxLen; omega
  have hby : (N.length + 1) * 40 ≤ 140737488355328 := by have := HN.out; omega
  have HPA := Lib.hid hPa
  have HMX := Lib.hid hmx
  have HBY := Lib.hid hby
  have HBE := Lib.hid hbe
  have hO : World.ownsRow _ base 38 5 (.slice An N.length cn) N.length (ndCells N) := hPa.nodes
  have HO := Lib.hid hO
  clear hO hP2 hPa hmx hby hbe
  unfold ndRow nd0 at HO HPA
  dsimp only at HO HPA
  have e1' : ((w.alloc (.cells #[.int .i64 x0, .int .i64 x1, .int .i64 x2, .int .i64 x3, .int .i64 x4] 38)).drewN nq).cell? ⟨bp, 1, none⟩ = some (.slice An N.length cn) := e1
  have hPush : ∀ v2 w1, w1.ownsRow base 38 5 v2 (N.length + 1) (ndCells N ++ (ndRow nd0).toList) → (((w.alloc (.cells #[.int .i64 x0, .int .i64 x1, .int .i64 x2, .int .i64 x3, .int .i64 x4] 38)).drewN nq).alloc (.cells #[.int .i64 0, .int .i64 0, .int .i64 0, .int .i64 0, .int .i64 0] 38)).grownBy w1 (Value.slice An N.length cn).ownBlock →
      (v2.ownBlock = (Value.slice An N.length cn).ownBlock ∨ v2.ownBlock = some (w.heap.size + 2)) → ∃ g' c', v2 = .slice (some ⟨g', 0, none⟩) (N.length + 1) c' ∧ w1.frozen? ⟨bp, 1, none⟩ = false ∧ w1.cell? ⟨bp, 1, none⟩ = some (.slice An N.length cn) ∧
        PoolIn (w1.setCell ⟨bp, 1, none⟩ v2) base bp room (some ⟨g', 0, none⟩) As c' cs (N ++ [nd0]) st 0 ∧ Blk (w1.setCell ⟨bp, 1, none⟩ v2) w.heap.size 38 #[.int .i64 x0, .int .i64 x1, .int .i64 x2, .int .i64 x3, .int .i64 x4] ∧
        Frm (PoolS bp An As) w (w1.setCell ⟨bp, 1, none⟩ v2) ∧ (An = some ⟨g', 0, none⟩ ∨ w.heap.size < g') := by
    intro v2 w1 hown hg hat
    obtain ⟨g', c', rfl, h1, h2, h3⟩ := HPA.out.push hown hg (by simpa using hat)
    have hlt := HH.out.head.lt
    have hX : Blk (((w.alloc (.cells #[.int .i64 x0, .int .i64 x1, .int .i64 x2, .int .i64 x3, .int .i64 x4] 38)).drewN nq).alloc (.cells #[.int .i64 0, .int .i64 0, .int .i64 0, .int .i64 0, .int .i64 0] 38)) w.heap.size 38 #[.int .i64 x0, .int .i64 x1, .int .i64 x2, .int .i64 x3, .int .i64 x4] :=
      ((Blk.new w 38 _).drewN nq).alloc _
    have hX1 : Blk w1 w.heap.size 38 #[.int .i64 x0, .int .i64 x1, .int .i64 x2, .int .i64 x3, .int .i64 x4] := (hg.block _ hX.lt (fun e => by
      have := own_lt HH.out.nodes _ e.symm
      omega)).trans hX
    have hf : Frm (PoolS bp An As) w w1 := (Frm.of_below ((HB.out.trans (below_drewN (Below.refl _ _) nq)).trans ((Below.refl w.heap.size _).alloc (by simp) _))).trans (Frm.grown hg (fun k e => by
      cases An with
      | none => cases e
      | some a => exact .inr (.inl ⟨a, rfl, by simpa [Value.ownBlock] using e⟩)))
    refine ⟨g', c', rfl, h1, h2, h3, hX1.set_other (by omega) _ _, hf.set (.inl rfl) _ _, ?_⟩
    rcases hat with e | e
    · left
      cases An with
      | none => cases e
      | some a =>
        have ha : a = ⟨a.block, 0, none⟩ := by
          rcases HH.out.nodes.2 with ⟨hv, _⟩ | ⟨g, cap, cur, hv, _⟩
          · cases hv
          · cases hv; rfl
        rw [ha]
        have e2 : g' = a.block := by simpa [Value.ownBlock] using e
        rw [e2]
    · right
      have e3 : g' = w.heap.size + 2 := Option.some.inj e
      omega
  have HPU := Lib.hid hPush
  have hn5 : (((w.alloc (.cells #[.int .i64 x0, .int .i64 x1, .int .i64 x2, .int .i64 x3, .int .i64 x4] 38)).drewN nq)).heap.size = w.heap.size + 1 := by simp
  have hc5 := cells_five ((w.alloc (.cells #[.int .i64 x0, .int .i64 x1, .int .i64 x2, .int .i64 x3, .int .i64 x4] 38)).drewN nq) nd0 38
  rw [hn5] at hc5
  unfold ndRow nd0 at hc5
  dsimp only at hc5
  have hb5 : base ≤ (((w.alloc (.cells #[.int .i64 x0, .int .i64 x1, .int .i64 x2, .int .i64 x3, .int .i64 x4] 38)).drewN nq).alloc (.cells #[.int .i64 0, .int .i64 0, .int .i64 0, .int .i64 0, .int .i64 0] 38)).heap.size := by have := HBE.out; simp; omega
  have HC5 := Lib.hid hc5
  have HB5 := Lib.hid hb5
  clear hPush hc5 hb5 hn5
  go_wp2_with (at_builtin; go_loud (refine wpList_append_own_at _ rfl _ _ 28 rfl base 38 i0 _ 5 40 Try.underlying28 hi0 hz0 hz1 hz2 rfl (by decide) (.slice An N.length cn) N.length (ndCells N) rfl HO.out ⟨w.heap.size + 1, 0, none⟩ 1 1 (ndRow nd0).toList rfl rfl HC5.out (nd_one _) HMX.out HBY.out HB5.out ?_); intro v2 w1 hown hg _ hat; obtain ⟨g', c', rfl, f1, z1, hP3, hX3, hF3, hA3⟩ := HPU.out _ _ hown hg (hat.imp (fun h => h) (fun h => h.trans (by simp))); have HP3 := Lib.hid hP3; have HX3 := Lib.hid hX3; have HF3 := Lib.hid hF3; have HA3 := Lib.hid hA3; have q1 := hP3.head.cell 1; have x0' := hX3.cell 0; have xf := hX3.frozen 0; simp at q1 x0'; clear hown hg hat HPU HC5 HO hP3 hX3 hF3 hA3 e0 e1 e3 e1')
  obtain ⟨w3, hw3⟩ : ∃ w3, w1.setCell ⟨bp, 1, none⟩ (.slice (some ⟨g', 0, none⟩) (N.length + 1) c') = w3 := ⟨_, rfl⟩
  rw [hw3] at HP3 HX3 HF3 ⊢
  have hbx : ¬ PoolS bp (some ⟨g', 0, none⟩) As w.heap.size := by
    rintro (e | ⟨a, ha, e⟩ | ⟨a, ha, e⟩)
    · have := HH.out.head.lt; omega
    · cases ha
      simp only at e
      rcases HA3.out with q | q
      · have := own_lt HH.out.nodes g' (by rw [q]; rfl); omega
      · omega
    · have := own_lt HH.out.stack a.block (by rw [ha]; rfl); omega
  have hP4 := HP3.out.set_out hbx 0 (.int .i64 ((N.length : Int) + 1))
  have hX4 := HX3.out.set_ 0 (.int .i64 ((N.length : Int) + 1))
  have hF4 : Below w.heap.size w3 (w3.setCell ⟨w.heap.size, 0, none⟩ (.int .i64 ((N.length : Int) + 1))) := (Below.refl _ _).setCell (p := ⟨w.heap.size, 0, none⟩) (Nat.le_refl _) _
  have hF5 : Frm (PoolS bp An As) w (w3.setCell ⟨w.heap.size, 0, none⟩ (.int .i64 ((N.length : Int) + 1))) :=
    HF3.out.trans2 (S' := fun k => w.heap.size ≤ k) ⟨hF4.os, hF4.tape, hF4.output, hF4.size, fun k _ hn => hF4.block k (by omega)⟩ (fun k hk => .inr hk)
  obtain ⟨w4, hw4⟩ : ∃ w4, w3.setCell ⟨w.heap.size, 0, none⟩ (.int .i64 ((N.length : Int) + 1)) = w4 := ⟨_, rfl⟩
  rw [hw4] at hP4 hX4 hF5 ⊢
  clear hF4 hw4 hw3 q1 x0' xf f1 z1 HP HB hr2 HPA
  refine still_tail 8 (by kernel_rfl) (by kernel_rfl) fun w5 hw5 => ?_
  simp only [List.take_succ_cons, List.take_zero, List.drop_succ_cons, List.drop_zero]
  have hdr : Below w4.heap.size w4 w5 := by rw [hw5]; exact (Below.refl _ _).drew
  have hP5 := hP4.below hdr
  have hX5 := hX4.below hdr hX4.lt
  have hi5 : N.length < (N ++ [nd0]).length := by simp
  have hy5 : (N ++ [nd0])[N.length]? = some nd0 := by simp
  obtain ⟨z0, z1, z2, z3, z4⟩ := show w5.cell? ⟨w.heap.size, 0, none⟩ = some (.int .i64 ((N.length : Int) + 1)) ∧ w5.cell? ⟨w.heap.size, 1, none⟩ = some (.int .i64 x1) ∧ w5.cell? ⟨w.heap.size, 2, none⟩ = some (.int .i64 x2) ∧ w5.cell? ⟨w.heap.size, 3, none⟩ = some (.int .i64 x3) ∧ w5.cell? ⟨w.heap.size, 4, none⟩ = some (.int .i64 x4) from
    ⟨hX5.cell 0, hX5.cell 1, hX5.cell 2, hX5.cell 3, hX5.cell 4⟩
  have e1 := hP5.head.cell 1
  simp [freeV] at e1
  obtain ⟨n0, hn0⟩ : ∃ n0, N.length = n0 := ⟨_, rfl⟩
  have hlen1 : (N ++ [nd0]).length = N.length + 1 := by simp
  obtain ⟨y0, y1, y2, y3, y4⟩ := OwnN.cells hP5.nodes hy5
  have hfz := own_frozen hP5.nodes
  have f0 := hfz (N.length * 5)
  have f1 := hfz (N.length * 5 + 1)
  have f2 := hfz (N.length * 5 + 2)
  have f3 := hfz (N.length * 5 + 3)
  have f4 := hfz (N.length * 5 + 4)
  have hset : (N ++ [nd0]).set N.length ⟨(N.length : Int) + 1, x1, x2, x3, x4⟩ = N ++ [⟨(N.length : Int) + 1, x1, x2, x3, x4⟩] := by simp
  have hS5 := hP5.set hi5 ⟨(N.length : Int) + 1, x1, x2, x3, x4⟩
  rw [hset] at hS5
  have HS := Lib.hid hS5
  have hwi : IntKind.i64.wrap (N.length : Int) = (N.length : Int) := IntWalk.i64_in _ (by omega)
  have hgS : PoolS bp An As g' ∨ w.heap.size ≤ g' := by
    rcases HA3.out with e | e
    · exact .inl (.inr (.inl ⟨_, e, rfl⟩))
    · exact .inr (by omega)
  have HFE := Lib.hid (show Frm (PoolS bp An As) w (put5 w5 g' (N.length * 5) ⟨(N.length : Int) + 1, x1, x2, x3, x4⟩) from
    (hF5.trans (Frm.of_below hdr)).trans2 (S' := fun k => k = g') (put5_frm (S := fun k => k = g') (Frm.refl _ w5) rfl _ _) (fun k e => by subst e; exact hgS))
  have HPost := Lib.hid (show TakeNew w base bp room An As cs N st ⟨x0, x1, x2, x3, x4⟩ (.returned (.tuple #[.int .i64 ((N.length : Int) + 1), .int .i64 0])) (put5 w5 g' (N.length * 5) ⟨(N.length : Int) + 1, x1, x2, x3, x4⟩) from
    ⟨g', c', rfl, HS.out, HFE.out, HA3.out.imp (fun h => h) (fun h => h)⟩)
  clear hP4 hX4 hF5 hw5 hdr hP5 hX5 hi5 hy5 hfz hset hS5 hgS HS HFE HP3 HX3 HF3 HA3 HN HMX HBY HBE HB5 hlen1 hn0 hbx
  have h0 : (0 : Int) ≤ (N.length : Int) := by omega
  have h1 : (N.length : Int) < (N.length : Int) + 1 := by omega
  have h2 : (N.length : Int) < ((N.length + 1 : Nat) : Int) := by omega
  repeat still_step
  refine wpStill_nil ?_
  go_wp2
  go_ret2
  exact HPost.out
end
end Go.Proofs.Ytljclikholchmaa
