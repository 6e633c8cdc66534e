/- Contract of Give of a pool whose memory of free has to grow, of layer 9 (pool), over the translation. -/
import Derived.Test.YtljclikholchmaaFn7c
namespace Go.Proofs.Ytljclikholchmaa
open Go.RowKit

/-- A pool whose field free is fv. -/
structure PoolH (w : World) (base bp : Nat) (room : Int) (An As : Option Addr) (cn cs : Nat) (N : List Nd) (st : List Int) (fv : Value) : Prop where
  head : Blk w bp 57 #[.int .i64 room, .slice An N.length cn, .slice As st.length cs, fv]
  nodes : OwnN w base (.slice An N.length cn) N
  stack : OwnI w base (.slice As st.length cs) st
  lo : base ≤ bp
  nn : ∀ a, An = some a → a.block ≠ bp
  ns : ∀ a, As = some a → a.block ≠ bp
  ndist : ∀ a b, An = some a → As = some b → a.block ≠ b.block
section
variable {w : World} {base bp : Nat} {room : Int} {An As : Option Addr} {cn cs : Nat} {N : List Nd} {st : List Int} {nf : Nat} {fv : Value}
theorem PoolIn.toH (h : PoolIn w base bp room An As cn cs N st nf) : PoolH w base bp room An As cn cs N st (freeV As nf) :=
  ⟨h.head, h.nodes, h.stack, h.lo, h.nn, h.ns, h.ndist⟩
theorem not_own {A : Option Addr} {m c b : Nat} (h : ∀ a, A = some a → a.block ≠ b) : (Value.slice A m c).ownBlock ≠ some b := by
  intro e
  cases A with
  | none => cases e
  | some a => exact h _ rfl (by simpa [Value.ownBlock] using e)
theorem PoolH.free (h : PoolH w base bp room An As cn cs N st fv) {k : Nat} (hk : k ≤ st.length) : PoolIn (w.setCell ⟨bp, 3, none⟩ (freeV As k)) base bp room An As cn cs N st k := by
  refine ⟨?_, own_set_other h.nodes (not_own h.nn) _ _, own_set_other h.stack (not_own h.ns) _ _, hk, h.lo, h.nn, h.ns, h.ndist⟩
  have := h.head.set_ 3 (freeV As k)
  simpa using this
theorem PoolH.stk {gs : Nat} (h : PoolH w base bp room An (some ⟨gs, 0, none⟩) cn cs N st fv) (k : Nat) (x : Int) : PoolH (w.setCell ⟨gs, k, none⟩ (.int .i64 x)) base bp room An (some ⟨gs, 0, none⟩) cn cs N (st.set k x) fv := by
  have hne : gs ≠ bp := h.ns _ rfl
  refine ⟨?_, own_set_other h.nodes (not_own (fun a ha => h.ndist a _ ha rfl)) _ _, OwnI.put h.stack k x, h.lo, h.nn, h.ns, h.ndist⟩
  rw [List.length_set]
  exact h.head.set_other hne _ _
theorem PoolIn.spush (h : PoolIn w base bp room An As cn cs N st nf) {w1 : World} {v' : Value} {x : Int} (hown : w1.ownsRow base 3 1 v' (st.length + 1) (st.map (Value.int .i64) ++ [.int .i64 x])) (hg : w.grownBy w1 (Value.slice As st.length cs).ownBlock)
    (hat : v'.ownBlock = (Value.slice As st.length cs).ownBlock ∨ ∃ b, v'.ownBlock = some b ∧ w.heap.size ≤ b) :
    ∃ g' c', v' = .slice (some ⟨g', 0, none⟩) (st.length + 1) c' ∧ st.length + 1 ≤ c' ∧ w1.frozen? ⟨bp, 2, none⟩ = false ∧ w1.cell? ⟨bp, 2, none⟩ = some (.slice As st.length cs) ∧
      PoolH (w1.setCell ⟨bp, 2, none⟩ v') base bp room An (some ⟨g', 0, none⟩) cn c' N (st ++ [x]) (freeV As nf) ∧ Frm (PoolS bp An As) w (w1.setCell ⟨bp, 2, none⟩ v') ∧ (As = some ⟨g', 0, none⟩ ∨ w.heap.size ≤ g') := by
  have hbp : (Value.slice As st.length cs).ownBlock ≠ some bp := not_own h.ns
  have hno : ∀ k, (Value.slice An N.length cn).ownBlock = some k → (Value.slice As st.length cs).ownBlock ≠ some k := by
    intro k hk e
    cases As with
    | none => cases e
    | some a =>
      cases An with
      | none => cases hk
      | some b =>
        simp only [Value.ownBlock, Option.some.injEq] at e hk
        exact h.ndist _ _ rfl rfl (by rw [e, hk])
  have hH : Blk w1 bp 57 #[.int .i64 room, .slice An N.length cn, .slice As st.length cs, freeV As nf] := (hg.block bp h.head.lt hbp.symm).trans h.head
  have hN : OwnN w1 base (.slice An N.length cn) N := own_grown h.nodes hg hno
  obtain ⟨g', c', rfl, hcc⟩ : ∃ g' c', v' = .slice (some ⟨g', 0, none⟩) (st.length + 1) c' ∧ st.length + 1 ≤ c' := by
    rcases hown.2 with ⟨_, h0⟩ | ⟨g, cap, cur, rfl, _, _, hn, _⟩
    · omega
    · exact ⟨g, cap, rfl, hn⟩
  have hne : g' ≠ bp := by
    rcases hat with e | ⟨b, e, hb⟩
    · exact fun e2 => hbp (e.symm.trans (congrArg some e2))
    · have := h.head.lt
      have e3 : g' = b := Option.some.inj e
      omega
  have hns : ∀ b, An = some b → b.block ≠ g' := by
    intro b hb e2
    subst hb
    rcases hat with e | ⟨q, e, hq⟩
    · exact hno b.block rfl (e.symm.trans (congrArg some e2.symm))
    · have := own_lt h.nodes b.block rfl
      have e3 : g' = q := Option.some.inj e
      omega
  have hA : As = some ⟨g', 0, none⟩ ∨ w.heap.size ≤ g' := by
    rcases hat with e | ⟨q, e, hq⟩
    · left
      cases As with
      | none => cases e
      | some a =>
        have ha : a = ⟨a.block, 0, none⟩ := by
          rcases h.stack.2 with ⟨hv, _⟩ | ⟨g, cap, cur, hv, _⟩
          · cases hv
          · cases hv; rfl
        rw [ha]
        have e2 : g' = a.block := by simpa [Value.ownBlock] using e
        rw [e2]
    · right
      have e3 : g' = q := Option.some.inj e
      omega
  refine ⟨g', c', rfl, hcc, hH.frozen 2, by rw [hH.cell]; rfl, ⟨?_, ?_, ?_, h.lo, h.nn, ?_, ?_⟩, ?_, hA⟩
  · have := hH.set_ 2 (.slice (some ⟨g', 0, none⟩) (st.length + 1) c')
    simpa using this
  · exact own_set_other hN (not_own h.nn) 2 _
  · unfold OwnI
    rw [List.map_append, List.length_append]
    exact own_set_other hown (by simp only [Value.ownBlock, ne_eq, Option.some.injEq]; exact hne) 2 _
  · intro a ha
    cases ha
    exact hne
  · intro a b ha hb
    cases hb
    exact hns a ha
  · refine (Frm.grown hg (fun k e => ?_)).set (.inl rfl) _ _
    cases As with
    | none => cases e
    | some a => exact .inr (.inr ⟨a, rfl, by simpa [Value.ownBlock] using e⟩)
set_option maxRecDepth 100000 in
set_option maxHeartbeats 1000000 in
theorem pool_Give_new {i : Nat} (h : PoolIn w base bp room An As cn cs N st nf) (hN : N.length ≤ 1048576) (hst : st.length ≤ 1048576) (hi : i < N.length) (hx : (N.getD i nd0).id = (i : Int) + 1) (hnf : nf = st.length) :
    Calls Try.prog 20 #[.pointer (some ⟨bp, 0, none⟩), .int .i64 ((i : Int) + 1)] w (GiveOk w base bp room An As cn N st nf i) := by
  subst hnf
  have hcall := pool_has h hN ((i : Int) + 1) (WalkArith.wf_i64 (by omega))
  have hhas : hasF N ((i : Int) + 1) = true := by
    unfold hasF
    have e3 : ((i : Int) + 1 - 1).toNat = i := by omega
    rw [e3, hx]
    simp
    omega
  rw [hhas] at hcall
  obtain ⟨y, hy⟩ : ∃ y, N[i]? = some y := ⟨_, List.getElem?_eq_getElem hi⟩
  obtain ⟨g, rfl, -, -⟩ := h.nodes.at hy
  have hP1 := h.set hi nd0
  have hF1 : Frm (PoolS bp (some ⟨g, 0, none⟩) As) w (put5 w g (i * 5) nd0) := put5_frm (Frm.refl _ _) (.inr (.inl ⟨_, rfl, rfl⟩)) _ _
  obtain ⟨y0, y1, y2, y3, y4⟩ := OwnN.cells h.nodes hy
  have hfz := own_frozen h.nodes
  have f0 := hfz (i * 5)
  have f1 := hfz (i * 5 + 1)
  have f2 := hfz (i * 5 + 2)
  have f3 := hfz (i * 5 + 3)
  have f4 := hfz (i * 5 + 4)
  have e1 := h.head.cell 1
  obtain ⟨w1, hw1⟩ : ∃ w1, put5 w g (i * 5) nd0 = w1 := ⟨_, rfl⟩
  rw [hw1] at hP1 hF1
  unfold put5 nd0 at hw1
  dsimp only at hw1
  have HW1 := Lib.hid hw1
  have HP1 := Lib.hid hP1
  have HF1 := Lib.hid hF1
  simp at e1
  have h0 : (0 : Int) ≤ (i : Int) := by omega
  have h1 : (i : Int) < (N.length : Int) := by omega
  have hib : (N.length : Int) ≤ 1048576 := by omega
  have HC := Lib.hid hcall
  have HST := Lib.hid hst
  have HLO := Lib.hid (Nat.le_trans h.lo (Nat.le_of_lt h.head.lt))
  clear h hcall hhas hx hi hy hP1 hF1 hfz hst hN hw1
  go_enter Try.func20, Try.ntmps20
  go_wp2_with fail
  refine HC.out.mono ?_; rintro e w0 ⟨rfl, rfl⟩
  clear HC
  go_upto_region 4 with (fail)
  rw [HW1.out]
  clear HW1 y0 y1 y2 y3 y4 f0 f1 f2 f3 f4 e1 h0 h1
  have a2 := HP1.out.head.cell 2
  have a3 := HP1.out.head.cell 3
  simp [freeV] at a2 a3
  have h4 : (st.length : Int) ≤ 1048576 := by have := HST.out; omega
  go_upto_region 6 with (fail)
  obtain ⟨i0, hi0, hz0, hz1, hz2⟩ := info_parts info3
  have hO : World.ownsRow (w1.alloc (.cells #[.int .i64 0] 3)) base 3 1 (.slice As st.length cs) st.length (st.map (Value.int .i64)) := own_keep HP1.out.stack ((Below.refl _ _).alloc (Nat.le_refl _) _)
  have hmx : st.length + 1 ≤ maxLen := by have := HST.out; unfold maxLen; omega
  have hby : (st.length + 1) * 8 ≤ 140737488355328 := by have := HST.out; omega
  have hbs : base ≤ (w1.alloc (.cells #[.int .i64 0] 3)).heap.size := by have := HP1.out.lo; have := HP1.out.head.lt; simp; omega
  have hPU : ∀ v2 W, W.ownsRow base 3 1 v2 (st.length + 1) (st.map (Value.int .i64) ++ [.int .i64 0]) → (w1.alloc (.cells #[.int .i64 0] 3)).grownBy W (Value.slice As st.length cs).ownBlock →
      (v2.ownBlock = (Value.slice As st.length cs).ownBlock ∨ v2.ownBlock = some (w1.heap.size + 1)) → ∃ g' c', v2 = .slice (some ⟨g', 0, none⟩) (st.length + 1) c' ∧ st.length + 1 ≤ c' ∧ W.frozen? ⟨bp, 2, none⟩ = false ∧ W.cell? ⟨bp, 2, none⟩ = some (.slice As st.length cs) ∧
      PoolH (W.setCell ⟨bp, 2, none⟩ v2) base bp room (some ⟨g, 0, none⟩) (some ⟨g', 0, none⟩) cn c' (N.set i nd0) (st ++ [0]) (freeV As st.length) ∧ Frm (PoolS bp (some ⟨g, 0, none⟩) As) w (W.setCell ⟨bp, 2, none⟩ v2) ∧ (As = some ⟨g', 0, none⟩ ∨ w.heap.size ≤ g') := by
    intro v2 W hown hg hat
    have hal : Below w1.heap.size w1 (w1.alloc (.cells #[.int .i64 0] 3)) := (Below.refl _ _).alloc (Nat.le_refl _) _
    obtain ⟨g', c', r1, r2, r3, r4, r5, r6, r7⟩ := (HP1.out.below hal).spush hown hg (hat.imp (fun h => h) (fun h => ⟨_, h, by simp⟩))
    refine ⟨g', c', r1, r2, r3, r4, r5, (HF1.out.trans (Frm.of_below hal)).trans r6, r7.imp (fun h => h) (fun h => ?_)⟩
    have := HF1.out.size
    simp at h
    omega
  have HO := Lib.hid hO
  have HMX := Lib.hid hmx
  have HBY := Lib.hid hby
  have HBS := Lib.hid hbs
  have HPU := Lib.hid hPU
  clear hO hmx hby hbs hPU
  go_upto_region 7 with (at_builtin; refine wpList_append_own_at _ rfl _ _ 30 rfl base 3 i0 _ 1 8 Try.underlying30 hi0 hz0 hz1 hz2 rfl (by decide) (.slice As st.length cs) st.length (st.map (Value.int .i64)) rfl HO.out ⟨w1.heap.size, 0, none⟩ 1 1 [.int .i64 0] rfl rfl (cell_one_new _ _ _) (by simp [Value.oneCell']) HMX.out HBY.out HBS.out ?_; intro v2 W hown hg _ hat; obtain ⟨g', c', rfl, hc1, z1, z2, hH, hF, hA⟩ := HPU.out _ _ hown hg (hat.imp (fun h => h) (fun h => h.trans (by simp))); have HH := Lib.hid hH; have HF := Lib.hid hF; have HA := Lib.hid hA; have HCC := Lib.hid hc1; clear hown hg hat HPU HO hH hF hA hc1 a2 a3 hi0 hz0 hz1 hz2)
  obtain ⟨w2, hw2⟩ : ∃ w2, W.setCell ⟨bp, 2, none⟩ (.slice (some ⟨g', 0, none⟩) (st.length + 1) c') = w2 := ⟨_, rfl⟩
  rw [hw2] at HH HF ⊢
  clear hw2 z1 z2
  have hl1 : (st ++ [0]).length = st.length + 1 := by simp
  have a2 := HH.out.head.cell 2
  have s1 := own_frozen HH.out.stack st.length
  have hs0 : (st ++ [0])[st.length]? = some 0 := by simp
  obtain ⟨gs2, he, s2⟩ := ownI_at HH.out.stack hs0
  simp only [Option.some.injEq, Addr.mk.injEq, and_true] at he
  subst he
  rw [hl1] at a2
  simp at a2
  have h2 : (0 : Int) ≤ (st.length : Int) := by omega
  have h3 : (st.length : Int) < (st.length : Int) + 1 := by omega
  have h3' : (st.length : Int) < ((st.length + 1 : Nat) : Int) := by omega
  clear hs0 hl1
  go_upto_region 8 with (fail)
  have hH3 := HH.out.stk st.length ((i : Int) + 1)
  have hF3 := HF.out.trans2 (S' := fun k => k = g') ((Frm.refl (fun k => k = g') w2).set (g := g') rfl st.length (.int .i64 ((i : Int) + 1))) (fun k e => by
    subst e
    exact HA.out.imp (fun h => .inr (.inr ⟨_, h, rfl⟩)) (fun h => h))
  obtain ⟨w3, hw3⟩ : ∃ w3, w2.setCell ⟨g', st.length, none⟩ (.int .i64 ((i : Int) + 1)) = w3 := ⟨_, rfl⟩
  rw [hw3] at hH3 hF3 ⊢
  have hset : (st ++ [0]).set st.length ((i : Int) + 1) = st.take st.length ++ ((i : Int) + 1) :: st.drop (st.length + 1) := by simp
  rw [hset] at hH3
  have hl3 : (st.take st.length ++ ((i : Int) + 1) :: st.drop (st.length + 1)).length = st.length + 1 := by simp
  have b2 := hH3.head.cell 2
  have b3 := hH3.head.frozen 3
  have b4 := hH3.head.cell 3
  rw [hl3] at b2
  have hP4 := hH3.free (k := st.length + 1) (by rw [hl3]; omega)
  have hF4 := hF3.set (g := bp) (.inl rfl) 3 (freeV (some ⟨g', 0, none⟩) (st.length + 1))
  have HPost := Lib.hid (show GiveOk w base bp room (some ⟨g, 0, none⟩) As cn N st st.length i (.returned (.int .i64 0)) (w3.setCell ⟨bp, 3, none⟩ (freeV (some ⟨g', 0, none⟩) (st.length + 1))) from
    ⟨g', c', rfl, hP4, hF4, HA.out⟩)
  clear hH3 hF3 hw3 hset hl3 hP4 hF4 a2 s1 s2 HH HF HA
  simp [freeV] at b2 b4
  have h5 : (st.length : Int) + 1 ≤ (c' : Int) := by have := HCC.out; omega
  have h6 : (0 : Int) ≤ (st.length : Int) + 1 := by omega
  go_wp2
  go_ret
  exact HPost.out
end
end Go.Proofs.Ytljclikholchmaa
