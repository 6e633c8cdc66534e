/- Contract of Give of a pool, of layer 9 (pool), over the translation. -/
import Derived.Test.YtljclikholchmaaFn7b
import Derived.Deep.Cut
namespace Go.Proofs.Ytljclikholchmaa
open Go.RowKit

theorem info3 : (Try.prog.info? 3).map (fun i => (i.zero, i.size, i.bytes)) = some (some (.int .i64 0), 1, 8) := by kernel_rfl
theorem OwnI.put {w : World} {base g cs : Nat} {l : List Int} (h : OwnI w base (.slice (some ⟨g, 0, none⟩) l.length cs) l) (k : Nat) (x : Int) :
    OwnI (w.setCell ⟨g, k, none⟩ (.int .i64 x)) base (.slice (some ⟨g, 0, none⟩) (l.set k x).length cs) (l.set k x) := by
  have hlen : (l.set k x).length = l.length := List.length_set
  obtain ⟨h1, h2⟩ := h
  unfold OwnI
  rw [hlen]
  refine ⟨by simp, ?_⟩
  rcases h2 with ⟨hv, h0⟩ | ⟨g2, cap, cur, hv, hg, hh, hn, hc, hsz, htk⟩
  · cases hv
  · simp only [Value.slice.injEq, Option.some.injEq, Addr.mk.injEq, and_true] at hv
    obtain ⟨rfl, _, rfl⟩ := hv
    have hB : Blk w g 3 cur := hh
    refine .inr ⟨g, cs, _, rfl, hg, hB.set_ k (.int .i64 x), hn, hc, by simpa using hsz, ?_⟩
    rw [Array.toList_setIfInBounds, List.map_set, ← htk, List.take_set]
section
variable {w : World} {base bp : Nat} {room : Int} {An As : Option Addr} {cn cs : Nat} {N : List Nd} {st : List Int} {nf : Nat}
theorem PoolIn.stk {gs : Nat} (h : PoolIn w base bp room An (some ⟨gs, 0, none⟩) cn cs N st nf) (k : Nat) (x : Int) : PoolIn (w.setCell ⟨gs, k, none⟩ (.int .i64 x)) base bp room An (some ⟨gs, 0, none⟩) cn cs N (st.set k x) nf := by
  have hne : gs ≠ bp := h.ns _ rfl
  refine ⟨?_, own_set_other h.nodes ?_ _ _, OwnI.put h.stack k x, by rw [List.length_set]; exact h.le, h.lo, h.nn, h.ns, h.ndist⟩
  · rw [List.length_set]
    exact h.head.set_other hne _ _
  · intro e
    cases An with
    | none => cases e
    | some a => exact h.ndist _ _ rfl rfl (by simpa [Value.ownBlock] using e)
def GiveOk (w : World) (base bp : Nat) (room : Int) (An As : Option Addr) (cn : Nat) (N : List Nd) (st : List Int) (nf i : Nat) (e : Ending) (w' : World) : Prop :=
  ∃ gs cs', e = .returned (.int .i64 0) ∧ PoolIn w' base bp room An (some ⟨gs, 0, none⟩) cn cs' (N.set i nd0) (st.take nf ++ ((i : Int) + 1) :: st.drop (nf + 1)) (nf + 1) ∧ Frm (PoolS bp An As) w w' ∧ (As = some ⟨gs, 0, none⟩ ∨ w.heap.size ≤ gs)
theorem pool_Give_none (h : PoolIn w base bp room An As cn cs N st nf) (hN : N.length ≤ 1048576) (id : Int) (hid : (Lit.int .i64 id).wf = true) (hf : hasF N id = false) : Calls Try.prog 20 #[.pointer (some ⟨bp, 0, none⟩), .int .i64 id] w fun e w' => e = .returned (.int .i64 5) ∧ w = w' := by
  have H := pool_has h hN id hid
  rw [hf] at H
  have HH := Lib.hid H
  clear h hid hf H
  go_enter Try.func20, Try.ntmps20
  go_wp2_with fail
  refine HH.out.mono ?_; rintro e w1 ⟨rfl, rfl⟩
  go_wp2
  go_ret
  exact ⟨rfl, rfl⟩
set_option maxRecDepth 100000 in
set_option maxHeartbeats 400000 in
theorem pool_Give_old {i : Nat} (h : PoolIn w base bp room An As cn cs N st nf) (hN : N.length ≤ 1048576) (hst : st.length ≤ 1048576) (hi : i < N.length) (hx : (N.getD i nd0).id = (i : Int) + 1) (hnf : nf < st.length) :
    Calls Try.prog 20 #[.pointer (some ⟨bp, 0, none⟩), .int .i64 ((i : Int) + 1)] w (GiveOk w base bp room An As cn N st nf i) := by
  have hcall := pool_has h hN ((i : Int) + 1) (WalkArith.wf_i64 (by omega))
  have hhas : hasF N ((i : Int) + 1) = true := by
    unfold hasF
    have e3 : ((i : Int) + 1 - 1).toNat = i := by omega
    rw [e3, hx]
    simp
    omega
  rw [hhas] at hcall
  obtain ⟨y, hy⟩ : ∃ y, N[i]? = some y := ⟨_, List.getElem?_eq_getElem hi⟩
  obtain ⟨g, rfl, -, -⟩ := h.nodes.at hy
  obtain ⟨gs, rfl, -⟩ := ownI_at h.stack (List.getElem?_eq_getElem hnf)
  have hP1 := h.set hi nd0
  have hP2 := hP1.stk nf ((i : Int) + 1)
  have hP3 := hP2.free (k := nf + 1) (by rw [List.length_set]; omega)
  have hF : Frm (PoolS bp (some ⟨g, 0, none⟩) (some ⟨gs, 0, none⟩)) w (((put5 w g (i * 5) nd0).setCell ⟨gs, nf, none⟩ (.int .i64 ((i : Int) + 1))).setCell ⟨bp, 3, none⟩ (freeV (some ⟨gs, 0, none⟩) (nf + 1))) :=
    ((put5_frm (Frm.refl _ _) (.inr (.inl ⟨_, rfl, rfl⟩)) _ _).set (.inr (.inr ⟨_, rfl, rfl⟩)) _ _).set (.inl rfl) _ _
  have hset : st.set nf ((i : Int) + 1) = st.take nf ++ ((i : Int) + 1) :: st.drop (nf + 1) := by
    rw [List.set_eq_take_append_cons_drop, if_pos hnf]
  rw [hset] at hP3
  have hPost : GiveOk w base bp room (some ⟨g, 0, none⟩) (some ⟨gs, 0, none⟩) cn N st nf i (.returned (.int .i64 0)) (((put5 w g (i * 5) nd0).setCell ⟨gs, nf, none⟩ (.int .i64 ((i : Int) + 1))).setCell ⟨bp, 3, none⟩ (freeV (some ⟨gs, 0, none⟩) (nf + 1))) :=
    ⟨gs, cs, rfl, hP3, hF, .inl rfl⟩
  obtain ⟨y0, y1, y2, y3, y4⟩ := OwnN.cells h.nodes hy
  have hfz := own_frozen h.nodes
  have f0 := hfz (i * 5)
  have f1 := hfz (i * 5 + 1)
  have f2 := hfz (i * 5 + 2)
  have f3 := hfz (i * 5 + 3)
  have f4 := hfz (i * 5 + 4)
  have e1 := h.head.cell 1
  obtain ⟨w1, hw1⟩ : ∃ w1, put5 w g (i * 5) nd0 = w1 := ⟨_, rfl⟩
  rw [hw1] at hP1 hP2 hPost
  obtain ⟨w2, hw2⟩ : ∃ w2, w1.setCell ⟨gs, nf, none⟩ (.int .i64 ((i : Int) + 1)) = w2 := ⟨_, rfl⟩
  rw [hw2] at hP2 hPost
  unfold put5 nd0 at hw1
  dsimp only at hw1
  have HW1 := Lib.hid hw1
  have HW2 := Lib.hid hw2
  have HP1 := Lib.hid hP1
  have HP2 := Lib.hid hP2
  have HPost := Lib.hid hPost
  simp at e1
  have h0 : (0 : Int) ≤ (i : Int) := by omega
  have h1 : (i : Int) < (N.length : Int) := by omega
  have hcapn : st.length ≤ cs := by
    rcases h.stack.2 with ⟨hv, _⟩ | ⟨g2, cap, cur, hv, _, _, hn, _⟩
    · cases hv
    · cases hv; omega
  have hcmx : cs ≤ maxLen := by
    rcases h.stack.2 with ⟨hv, _⟩ | ⟨g2, cap, cur, hv, _, _, hn, hc, _⟩
    · cases hv
    · cases hv; exact hc
  have hib : (N.length : Int) ≤ 1048576 := by omega
  have HC := Lib.hid hcall
  have HNF := Lib.hid hnf
  have HST := Lib.hid hst
  have HCA := Lib.hid hcapn
  clear h hcall hhas hx hi hy hP1 hP2 hP3 hF hset hfz hst hN hnf hw1 hw2 hPost hcapn hcmx
  go_enter Try.func20, Try.ntmps20
  go_wp2_with fail
  refine HC.out.mono ?_; rintro e w0 ⟨rfl, rfl⟩
  clear HC
  go_upto_region 4 with (fail)
  rw [HW1.out]
  clear HW1 y0 y1 y2 y3 y4 f0 f1 f2 f3 f4 e1 h0 h1
  have a2 := HP1.out.head.cell 2
  have a3 := HP1.out.head.cell 3
  have s1 := own_frozen HP1.out.stack nf
  obtain ⟨s0, hs0⟩ : ∃ s0, st[nf]? = some s0 := ⟨_, List.getElem?_eq_getElem HNF.out⟩
  obtain ⟨gs2, he, s2⟩ := ownI_at HP1.out.stack hs0
  simp only [Option.some.injEq, Addr.mk.injEq, and_true] at he
  subst he
  simp [freeV] at a2 a3
  have h2 : (0 : Int) ≤ (nf : Int) := by omega
  have h3 : (nf : Int) < (st.length : Int) := by have := HNF.out; omega
  have h4 : (st.length : Int) ≤ 1048576 := by have := HST.out; omega
  have hne : decide ((nf : Int) = (st.length : Int)) = false := decide_eq_false (by omega)
  have hne2 : ((nf : Int) == (st.length : Int)) = false := by simp; omega
  clear hs0
  go_upto_region 8 with (fail)
  rw [HW2.out]
  clear HW2 a2 a3 s1 s2 hne hne2
  have b2 := HP2.out.head.cell 2
  have b3 := HP2.out.head.frozen 3
  have b4 := HP2.out.head.cell 3
  rw [List.length_set] at b2
  simp [freeV] at b2 b4
  have h5 : (nf : Int) + 1 ≤ (cs : Int) := by have := HCA.out; omega
  have h6 : (0 : Int) ≤ (nf : Int) + 1 := by omega
  go_wp2
  go_ret
  exact HPost.out
end
end Go.Proofs.Ytljclikholchmaa
