/- Contract of Take of a pool that has a released slot, of layer 9 (pool), over the translation. -/
import Derived.Test.YtljclikholchmaaFn5
namespace Go.Proofs.Ytljclikholchmaa
open Go.RowKit

theorem ownI_at {w : World} {base : Nat} {As : Option Addr} {cs : Nat} {l : List Int} (h : OwnI w base (.slice As l.length cs) l) {i : Nat} {x : Int} (hx : l[i]? = some x) :
    ∃ g, As = some ⟨g, 0, none⟩ ∧ w.cell? ⟨g, i, none⟩ = some (.int .i64 x) := by
  have hil : i < l.length := (List.getElem?_eq_some_iff.1 hx).1
  rcases h.2 with ⟨_, h0⟩ | ⟨g, cap, cur, hv, hg, hh, hn, hc, hsz, htk⟩
  · omega
  · simp only [Value.slice.injEq] at hv
    obtain ⟨rfl, _, rfl⟩ := hv
    refine ⟨g, rfl, ?_⟩
    have hB : Blk w g 3 cur := hh
    have : (l.map (Value.int .i64))[i]? = some (.int .i64 x) := by simp [hx]
    rw [hB.cell, ← this, ← htk, List.getElem?_take_of_lt (by omega), Array.getElem?_toList]
section
variable {w : World} {base bp : Nat} {room : Int} {An As : Option Addr} {cn cs : Nat} {N : List Nd} {st : List Int} {nf : Nat}
theorem own_set_other {w : World} {b e size n g : Nat} {v : Value} {xs : List Value} (h : w.ownsRow b e size v n xs) (hv : v.ownBlock ≠ some g) (o : Nat) (u : Value) : (w.setCell ⟨g, o, none⟩ u).ownsRow b e size v n xs := by
  obtain ⟨h1, h2⟩ := h
  refine ⟨h1, ?_⟩
  rcases h2 with h2 | ⟨g2, cap, cur, rfl, hg, hh, r⟩
  · exact .inl h2
  · have hB : Blk w g2 e cur := hh
    have hne : g ≠ g2 := fun e => hv (by rw [e]; rfl)
    exact .inr ⟨g2, cap, cur, rfl, hg, hB.set_other hne o u, r⟩
theorem PoolIn.free (h : PoolIn w base bp room An As cn cs N st nf) {k : Nat} (hk : k ≤ st.length) : PoolIn (w.setCell ⟨bp, 3, none⟩ (freeV As k)) base bp room An As cn cs N st k := by
  refine ⟨?_, own_set_other h.nodes ?_ _ _, own_set_other h.stack ?_ _ _, hk, h.lo, h.nn, h.ns, h.ndist⟩
  · have := h.head.set_ 3 (freeV As k)
    simpa using this
  · intro e
    cases An with
    | none => cases e
    | some a => exact h.nn _ rfl (by simpa [Value.ownBlock] using e)
  · intro e
    cases As with
    | none => cases e
    | some a => exact h.ns _ rfl (by simpa [Value.ownBlock] using e)
set_option maxRecDepth 100000 in
set_option maxHeartbeats 2000000 in
theorem pool_Take_free {k i : Nat} (h : PoolIn w base bp room An As cn cs N st (k + 1)) (hN : N.length ≤ 1048576) (hst : st.length ≤ 1048576) (hk : st[k]? = some ((i : Int) + 1)) (hi : i < N.length) (x : Nd) : Calls Try.prog 19 #[.pointer (some ⟨bp, 0, none⟩), ndV x] w fun e w' =>
    e = .returned (.tuple #[.int .i64 ((i : Int) + 1), .int .i64 0]) ∧ PoolIn w' base bp room An As cn cs (N.set i { x with id := (i : Int) + 1 }) st k ∧ Frm (PoolS bp An As) w w' := by
  have hb : Below w.heap.size w (w.alloc (.cells (ndRow x) 38)) := (Below.refl _ _).alloc (Nat.le_refl _) _
  have hbl : base ≤ w.heap.size := Nat.le_trans h.lo (Nat.le_of_lt h.head.lt)
  have hP := h.below hb
  have hkl : k < st.length := (List.getElem?_eq_some_iff.1 hk).1
  obtain ⟨gs, rfl, _⟩ := ownI_at h.stack hk
  obtain ⟨gs2, he, s0⟩ := ownI_at hP.stack hk
  simp only [Option.some.injEq, Addr.mk.injEq, and_true] at he
  subst he
  have e1 := hP.head.cell 1
  have e3 := hP.head.cell 3
  have f3 := hP.head.frozen 3
  simp [freeV] at e1 e3
  have HP := Lib.hid hP
  have HB := Lib.hid hb
  have HL := Lib.hid hbl
  have hlt := h.head.lt
  have h0 : (0 : Int) ≤ (k : Int) := by omega
  have h1 : (k : Int) < (k : Int) + 1 := by omega
  have h2 : (k : Int) + 1 ≤ 1048576 := by omega
  obtain ⟨x0, x1, x2, x3, x4⟩ := x
  unfold ndV ndRow
  unfold ndRow at HB HP e1 e3 f3 s0
  dsimp only at HB HP e1 e3 f3 s0 ⊢
  have hF : PoolIn (w.setCell ⟨bp, 3, none⟩ (.slice (some ⟨gs, 0, none⟩) k k)) base bp room An (some ⟨gs, 0, none⟩) cn cs N st k := h.free (by omega)
  have hlo := h.lo
  have HF := Lib.hid hF
  have HFB := Lib.hid (show Frm (PoolS bp An (some ⟨gs, 0, none⟩)) w (w.setCell ⟨bp, 3, none⟩ (.slice (some ⟨gs, 0, none⟩) k k)) from (Frm.refl _ w).set (.inl rfl) 3 _)
  have hzw : (w.setCell ⟨bp, 3, none⟩ (.slice (some ⟨gs, 0, none⟩) k k)).heap.size = w.heap.size := by simp
  have HZ := Lib.hid hzw
  obtain ⟨y, hy⟩ : ∃ y, N[i]? = some y := ⟨_, List.getElem?_eq_getElem hi⟩
  obtain ⟨g, rfl, _, _⟩ := h.nodes.at hy
  have HY := Lib.hid hy
  clear h hb hbl hP hF hlo hzw hy
  go_enter Try.func19, Try.ntmps19
  go_wp2
  obtain ⟨w0, hw0⟩ : ∃ w0, w.setCell ⟨bp, 3, none⟩ (.slice (some ⟨gs, 0, none⟩) k k) = w0 := ⟨_, rfl⟩
  rw [hw0] at HF HFB HZ ⊢
  rw [← HZ.out]
  clear hw0 HP HB e1 e3 f3 s0 h0 h1 h2
  refine still_tail 8 (by kernel_rfl) (by kernel_rfl) fun w2 hw2 => ?_
  simp only [List.take_succ_cons, List.take_zero, List.drop_succ_cons, List.drop_zero]
  have hX := Blk.new w0 38 (ndRow ⟨(i : Int) + 1, x1, x2, x3, x4⟩)
  have hal : Below w0.heap.size w0 (w0.alloc (.cells (ndRow ⟨(i : Int) + 1, x1, x2, x3, x4⟩) 38)) := (Below.refl _ _).alloc (Nat.le_refl _) _
  have hdr : Below (w0.alloc (.cells (ndRow ⟨(i : Int) + 1, x1, x2, x3, x4⟩) 38)).heap.size (w0.alloc (.cells (ndRow ⟨(i : Int) + 1, x1, x2, x3, x4⟩) 38)) w2 := by rw [hw2]; exact (Below.refl _ _).drew
  have hall := hal.trans (hdr.mono (by simp))
  have hP2 := HF.out.below hall
  obtain ⟨z0, z1, z2, z3, z4⟩ := show w2.cell? ⟨w0.heap.size, 0, none⟩ = some (.int .i64 ((i : Int) + 1)) ∧ w2.cell? ⟨w0.heap.size, 1, none⟩ = some (.int .i64 x1) ∧ w2.cell? ⟨w0.heap.size, 2, none⟩ = some (.int .i64 x2) ∧ w2.cell? ⟨w0.heap.size, 3, none⟩ = some (.int .i64 x3) ∧ w2.cell? ⟨w0.heap.size, 4, none⟩ = some (.int .i64 x4) from
    have hX2 := hX.below hdr hX.lt
    ⟨hX2.cell 0, hX2.cell 1, hX2.cell 2, hX2.cell 3, hX2.cell 4⟩
  have e1 := hP2.head.cell 1
  simp [freeV] at e1
  obtain ⟨y0, y1, y2, y3, y4⟩ := OwnN.cells hP2.nodes HY.out
  have hfz := own_frozen hP2.nodes
  have f0 := hfz (i * 5)
  have f1 := hfz (i * 5 + 1)
  have f2 := hfz (i * 5 + 2)
  have f3 := hfz (i * 5 + 3)
  have f4 := hfz (i * 5 + 4)
  have HS := Lib.hid (hP2.set hi ⟨(i : Int) + 1, x1, x2, x3, x4⟩)
  have HG := Lib.hid (show base ≤ g from ownN_lo hP2.nodes)
  have hwi : IntKind.i64.wrap (i : Int) = (i : Int) := IntWalk.i64_in _ (by omega)
  have h0 : (0 : Int) ≤ (i : Int) := by omega
  have h1 : (i : Int) < (N.length : Int) := by omega
  have HBS := Lib.hid (show Frm (PoolS bp (some ⟨g, 0, none⟩) (some ⟨gs, 0, none⟩)) w (put5 w2 g (i * 5) ⟨(i : Int) + 1, x1, x2, x3, x4⟩) from put5_frm (HFB.out.trans (Frm.of_below hall)) (.inr (.inl ⟨_, rfl, rfl⟩)) _ _)
  clear hfz hP2 hdr hw2 HF hX hal hall
  repeat still_step
  refine wpStill_nil ?_
  go_wp2
  go_ret2
  exact ⟨rfl, HS.out, HBS.out⟩
end
end Go.Proofs.Ytljclikholchmaa
