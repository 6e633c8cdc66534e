/- Contract of Set of a pool, of layer 9 (pool), over the translation. -/
import Derived.Test.YtljclikholchmaaFn3
namespace Go.Proofs.Ytljclikholchmaa
open Go.RowKit

/-- A region that reads and ends in one forced tail: the world behind its draw under a name of its own. -/
theorem still_tail {P : Program} {id : Nat} {Q : Exit → Act → World → Prop} {a : Act} {w : World} {l : List Oper} (n : Nat) (hm : P.follows .mixedOrders = true) (hB : Region.lexTailB .any l.toArray n = true)
    (h : ∀ w2, w2 = w.drew → wpStill P l.toArray w2 (fun a' => wpList P l.toArray Q (l.drop n) a' w2) (l.take n) a) : (Code.region id l.toArray true).wp P Q a w :=
  wp_region_still_tail n hm hB (h _ rfl)
section
variable {w : World} {base bp : Nat} {room : Int} {An As : Option Addr} {cn cs : Nat} {N : List Nd} {st : List Int} {nf : Nat}
theorem own_frozen {w : World} {base e size n g m c : Nat} {xs : List Value} (h : w.ownsRow base e size (.slice (some ⟨g, 0, none⟩) m c) n xs) (k : Nat) : w.frozen? ⟨g, k, none⟩ = false := by
  rcases h.2 with ⟨hv, _⟩ | ⟨g2, cap, cur, hv, hg, hh, _⟩
  · cases hv
  · simp only [Value.slice.injEq, Option.some.injEq, Addr.mk.injEq, and_true] at hv
    obtain ⟨rfl, _, _⟩ := hv
    exact Blk.frozen (w := w) (t := e) (cs := cur) hh k
theorem ownN_lo {w : World} {base g c : Nat} {l : List Nd} (h : OwnN w base (.slice (some ⟨g, 0, none⟩) l.length c) l) : base ≤ g := by
  rcases h.2 with ⟨hv, _⟩ | ⟨g2, cap, cur, hv, hg, _⟩
  · cases hv
  · simp only [Value.slice.injEq, Option.some.injEq, Addr.mk.injEq, and_true] at hv
    obtain ⟨rfl, _, _⟩ := hv
    exact hg
theorem PoolIn.set {g : Nat} (h : PoolIn w base bp room (some ⟨g, 0, none⟩) As cn cs N st nf) {i : Nat} (hi : i < N.length) (x : Nd) : PoolIn (put5 w g (i * 5) x) base bp room (some ⟨g, 0, none⟩) As cn cs (N.set i x) st nf := by
  have hne : g ≠ bp := h.nn _ rfl
  refine ⟨?_, OwnN.put h.nodes hi x, own_other h.stack ?_ _ _, h.le, h.lo, h.nn, h.ns, h.ndist⟩
  · rw [List.length_set]
    exact put5_other h.head hne _ _
  · intro e
    cases As with
    | none => cases e
    | some a => exact h.ndist _ _ rfl rfl (by simpa [Value.ownBlock] using e.symm)
set_option maxRecDepth 100000 in
set_option maxHeartbeats 1000000 in
theorem pool_Set (h : PoolIn w base bp room An As cn cs N st nf) (hN : N.length ≤ 1048576) (x : Nd) (hid : (Lit.int .i64 x.id).wf = true) : Calls Try.prog 21 #[.pointer (some ⟨bp, 0, none⟩), ndV x] w fun e w' =>
    e = .returned (.int .i64 (if hasF N x.id then 0 else 5)) ∧ PoolIn w' base bp room An As cn cs (if hasF N x.id then N.set (x.id - 1).toNat x else N) st nf ∧ Frm (PoolS bp An As) w w' := by
  have hb : Below w.heap.size w (w.alloc (.cells (ndRow x) 38)) := (Below.refl _ _).alloc (Nat.le_refl _) _
  have hX := Blk.new w 38 (ndRow x)
  have hB := h.below hb
  have hbl : base ≤ w.heap.size := Nat.le_trans h.lo (Nat.le_of_lt h.head.lt)
  have H := Lib.hid (pool_has hB hN x.id hid)
  have HP := Lib.hid hB
  have HX := Lib.hid hX
  have HBB := Lib.hid hb
  have HL := Lib.hid hbl
  have z0 := hX.cell 0
  have z1 := hX.cell 1
  have z2 := hX.cell 2
  have z3 := hX.cell 3
  have z4 := hX.cell 4
  by_cases hh : hasF N x.id = true
  · rw [hh] at H ⊢
    rw [if_pos rfl, if_pos rfl]
    unfold hasF at hh
    simp only [Bool.and_eq_true, decide_eq_true_eq] at hh
    obtain ⟨c1, c2, _⟩ := hh
    obtain ⟨x0, x1, x2, x3, x4⟩ := x
    dsimp only at c1 c2 H hid ⊢
    obtain ⟨i, rfl⟩ : ∃ i : Nat, x0 = (i : Int) + 1 := ⟨(x0 - 1).toNat, by omega⟩
    have hi : i < N.length := by omega
    obtain ⟨y, hy⟩ : ∃ y, N[i]? = some y := ⟨_, List.getElem?_eq_getElem hi⟩
    obtain ⟨g, rfl, _, _⟩ := h.nodes.at hy
    have e3 : ((i : Int) + 1 - 1).toNat = i := by omega
    rw [e3]
    have h0 : (0 : Int) ≤ (i : Int) := by omega
    have h1 : (i : Int) < (N.length : Int) := by omega
    unfold ndV ndRow
    unfold ndRow at HBB H
    dsimp only at HBB H ⊢
    have HY := Lib.hid hy
    clear h hB hX hid hy hb e3 c1 c2 hbl z0 z1 z2 z3 z4
    go_enter Try.func21, Try.ntmps21
    go_wp2_with fail
    refine H.out.mono ?_; rintro e w1 ⟨rfl, rfl⟩
    clear H
    go_wp2_with fail
    refine still_tail 9 (by kernel_rfl) (by kernel_rfl) fun w2 hw2 => ?_
    simp only [List.take_succ_cons, List.take_zero, List.drop_succ_cons, List.drop_zero]
    have hdr : Below (w.alloc (.cells (ndRow ⟨(i : Int) + 1, x1, x2, x3, x4⟩) 38)).heap.size (w.alloc (.cells (ndRow ⟨(i : Int) + 1, x1, x2, x3, x4⟩) 38)) w2 := by rw [hw2]; exact (Below.refl _ _).drew
    have hP2 := HP.out.below hdr
    have HB2 := Lib.hid (HBB.out.trans (hdr.mono (by simp)))
    obtain ⟨z0, z1, z2, z3, z4⟩ := show w2.cell? ⟨w.heap.size, 0, none⟩ = some (.int .i64 ((i : Int) + 1)) ∧ w2.cell? ⟨w.heap.size, 1, none⟩ = some (.int .i64 x1) ∧ w2.cell? ⟨w.heap.size, 2, none⟩ = some (.int .i64 x2) ∧ w2.cell? ⟨w.heap.size, 3, none⟩ = some (.int .i64 x3) ∧ w2.cell? ⟨w.heap.size, 4, none⟩ = some (.int .i64 x4) from
      have hX2 := HX.out.below hdr HX.out.lt
      ⟨hX2.cell 0, hX2.cell 1, hX2.cell 2, hX2.cell 3, hX2.cell 4⟩
    have e1 := hP2.head.cell 1
    simp at e1
    obtain ⟨y0, y1, y2, y3, y4⟩ := OwnN.cells hP2.nodes HY.out
    have hfz := own_frozen hP2.nodes
    have f0 := hfz (i * 5)
    have f1 := hfz (i * 5 + 1)
    have f2 := hfz (i * 5 + 2)
    have f3 := hfz (i * 5 + 3)
    have f4 := hfz (i * 5 + 4)
    have HS := Lib.hid (hP2.set hi ⟨(i : Int) + 1, x1, x2, x3, x4⟩)
    have HG := Lib.hid (show base ≤ g from ownN_lo hP2.nodes)
    have hwi : IntKind.i64.wrap (i : Int) = (i : Int) := IntWalk.i64_in _ (by omega)
    have HBS := Lib.hid (show Frm (PoolS bp (some ⟨g, 0, none⟩) As) w (put5 w2 g (i * 5) ⟨(i : Int) + 1, x1, x2, x3, x4⟩) from put5_frm (Frm.of_below HB2.out) (.inr (.inl ⟨_, rfl, rfl⟩)) _ _)
    clear hfz hP2 hdr hw2 HP HX
    repeat still_step
    refine wpStill_nil ?_
    go_wp2
    go_ret
    exact ⟨rfl, HS.out, HBS.out⟩
  · have hf : hasF N x.id = false := by simpa using hh
    rw [hf] at H ⊢
    rw [if_neg (by decide), if_neg (by decide)]
    obtain ⟨x0, x1, x2, x3, x4⟩ := x
    unfold ndV ndRow
    unfold ndRow at HBB H
    dsimp only at HBB H ⊢
    clear h hB hX hid hb hh hf hbl z0 z1 z2 z3 z4
    go_enter Try.func21, Try.ntmps21
    go_wp2_with fail
    refine H.out.mono ?_; rintro e w1 ⟨rfl, rfl⟩
    clear H
    go_wp2
    go_ret
    exact ⟨rfl, HP.out, Frm.of_below HBB.out⟩
end
end Go.Proofs.Ytljclikholchmaa
