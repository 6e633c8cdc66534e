/- The iterator over the nodes of a pool, of layer 9 (pool), over the translation. -/
import Derived.Test.YtljclikholchmaaFn8
namespace Go.Proofs.Ytljclikholchmaa
open Go.RowKit Go.Shelf
attribute [local go_sem] Oper.semAt_some wide_fn wide_depth

theorem grownBy_drew (W : World) : W.grownBy W.drew none := ⟨rfl, rfl, rfl, Nat.le_refl _, fun _ _ _ => rfl⟩
theorem ownFrom_blk {β : Type} {B g : Nat} {t : TypeId} {cs : Array Value} (h : g < B) : OwnFrom B (fun (_ : β) W => Blk W g t cs) :=
  fun _ X Y row hs hg hr => (hg.block g (Blk.lt hs) (fun e => by have := (hr g e.symm).1; omega)).trans hs
theorem ownFrom_kept {β : Type} {B : Nat} {S : Nat → Prop} {V : World} (hS : ∀ b, S b → b < B) (hV : ∀ b, S b → b < V.heap.size) : OwnFrom B (fun (_ : β) W => V.heap.size ≤ W.heap.size ∧ Kept S V W) :=
  fun _ X Y row hs hg hr => ⟨Nat.le_trans hs.1 hg.size, fun b hb => (hg.block b (Nat.lt_of_lt_of_le (hV b hb) hs.1) (fun e => by have := (hr b e.symm).1; have := hS b hb; omega)).trans (hs.2 b hb)⟩
def eachV (N : List Nd) : List (Array Value) := (takenL N N.length).map fun (i : Nat) => #[ndV (N.getD i nd0)]
theorem takenL_lt {N : List Nd} {k i : Nat} (h : (takenL N N.length)[k]? = some i) : i < N.length := by
  have := List.mem_of_getElem? h
  unfold takenL at this
  rw [List.mem_filter, List.mem_range] at this
  exact this.1
def PtE (t : TypeId) : Bool := t == 24 || t == 66
section
variable {w w' : World} {base bp : Nat} {room : Int} {An As : Option Addr} {cn cs : Nat} {N : List Nd} {st : List Int} {nf : Nat} {S : Nat → Prop}
set_option maxRecDepth 100000 in
set_option maxHeartbeats 4000000 in
theorem iter_each (h : PoolIn w base bp room An As cn cs N st nf) (hN : N.length ≤ 1048576) {Bc : Nat} (hB : Blk w Bc 24 #[.pointer (some ⟨bp, 0, none⟩)]) (hS : ∀ b, PoolS bp An As b → S b) (hSB : S Bc) (hSl : ∀ b, S b → b < w.heap.size) :
    Iter Try.prog 29 #[.pointer (some ⟨Bc, 0, none⟩)] PtE S (eachV N) w := by
  intro l J Jx W hW hJ hJx hY h0
  have hKW : Kept S w W := Kept.below hW hSl
  have hP := h.kept hKW hS
  have hBW : Blk W Bc 24 #[.pointer (some ⟨bp, 0, none⟩)] := (hKW _ hSB).trans hB
  have hSW : ∀ b, S b → b < W.heap.size := fun b hb => Nat.lt_of_lt_of_le (hSl b hb) hW.size
  have hbc := hBW.lt
  obtain ⟨W0, hW0⟩ : ∃ W0, (W.alloc (.cells #[.func (.yield l) #[] #[]] 66)).alloc (.cells #[.pointer (some ⟨bp, 0, none⟩)] 24) = W0 := ⟨_, rfl⟩
  have hz0 : W0.heap.size = W.heap.size + 2 := by rw [← hW0]; simp
  have hb0 : Below W.heap.size W W0 := by rw [← hW0]; exact ((Below.refl _ _).alloc (Nat.le_refl _) _).alloc (by simp) _
  have hBy : Blk W0 W.heap.size 66 #[.func (.yield l) #[] #[]] := by rw [← hW0]; exact (Blk.new _ _ _).alloc _
  have hBt : Blk W0 (W.heap.size + 1) 24 #[.pointer (some ⟨bp, 0, none⟩)] := by
    rw [← hW0]
    have h1 := Blk.new (W.alloc (.cells #[.func (.yield l) #[] #[]] 66)) 24 #[.pointer (some ⟨bp, 0, none⟩)]
    rw [World.size_alloc] at h1
    exact h1
  have hP0 := hP.below hb0
  have e0 : (W.alloc (.cells #[.func (.yield l) #[] #[]] 66)).cell? ⟨Bc, 0, none⟩ = some (.pointer (some ⟨bp, 0, none⟩)) := by
    have := (hBW.alloc (.cells #[.func (.yield l) #[] #[]] 66)).cell 0
    simpa using this
  have hit := iter_taken (S := fun b => S b ∨ b = W.heap.size + 1) hP0 hN hBt (fun b hb => .inl (hS b hb)) (.inr rfl) (fun b hb => by
    rcases hb with hb | rfl
    · have := hSW b hb; omega
    · omega)
  have HY := Lib.hid hY
  have HW0 := Lib.hid hW0
  have HI := Lib.hid hit
  have HBy := Lib.hid hBy
  have HBt := Lib.hid hBt
  have HP := Lib.hid hP
  have HZ := Lib.hid hz0
  have HB0 := Lib.hid hb0
  have HJ := Lib.hid hJ
  have HJx := Lib.hid hJx
  have H0 := Lib.hid h0
  have HS := Lib.hid hS
  have HSW := Lib.hid hSW
  have HBW := Lib.hid hBW
  have HSB := Lib.hid hSB
  clear h hB hJ hJx hY h0 hP hBW hKW hW hSl hS hSB hSW hW0 hz0 hb0 hBy hBt hP0 hit
  refine callsIn_of_wp_marks Try.func29 rfl trivial ?_ rfl
  simp only [Try.ntmps29, List.size_toArray, List.length_cons, List.length_nil, Nat.reduceAdd, Nat.reduceSub, Array.replicate_succ, Array.replicate_zero, List.push_toArray, List.append_toArray, List.nil_append, List.cons_append]
  gi_wp2_with (gi_at_call 30; refine (callsIn_wide.2 (run_taken _ _)).mono ?_; rintro e w1 ⟨rfl, rfl⟩)
  rw [HW0.out]
  have HPk : Hid (∀ W', Kept S W W' → PoolIn W' base bp room An As cn cs N st nf) := Lib.hid (fun W' hk => HP.out.kept hk HS.out)
  refine wp_range (gf := 31) (lb := #[.pointer (some ⟨W.heap.size + 1, 0, none⟩)]) rfl (enters_of Try.func31 (by kernel_rfl) rfl) HI.out (Below.refl _ _) ?hSl ?hps
    (fun k V => ((J k V ∧ Blk V W.heap.size 66 #[.func (.yield l) #[] #[]]) ∧ Blk V (W.heap.size + 1) 24 #[.pointer (some ⟨bp, 0, none⟩)]) ∧ (W.heap.size ≤ V.heap.size ∧ Kept S W V))
    (fun c k V => c = .ret ∧ Jx k V)
    ?hI ?hIx ?h0
    (fun k a' _ => ∃ i, (takenL N N.length)[k]? = some i ∧ a' = { tmps := #[.func (.yield l) #[] #[], .pointer (some ⟨Bc, 0, none⟩), .pointer (some ⟨W.heap.size, 0, none⟩), .int .i64 ((i : Int) + 1),
          .pointer (some ⟨bp, 0, none⟩), .func (.func 31) #[] #[.pointer (some ⟨W.heap.size + 1, 0, none⟩)], .int .i64 ((i : Int) + 1), undef, undef, undef, undef, undef, undef, undef, undef, undef, undef, undef], defers := [] })
    (fun k a' _ X Y row hs hg hr => hs) ?assign ?body ?done ?stop
  case hSl =>
    rintro b (hb | rfl)
    · have := HSW.out b hb; rw [HZ.out]; omega
    · rw [HZ.out]; omega
  case hps =>
    intro k x hx
    unfold takenV at hx
    rw [List.getElem?_map] at hx
    cases hq : (takenL N N.length)[k]? with
    | none => rw [hq] at hx; cases hx
    | some i => rw [hq] at hx; cases hx; rfl
  case hI =>
    rw [HZ.out]
    exact OwnFrom.and (OwnFrom.and (OwnFrom.and (OwnFrom.mono HJ.out (by omega)) (ownFrom_blk (by omega))) (ownFrom_blk (by omega))) (ownFrom_kept (fun b hb => by have := HSW.out b hb; omega) HSW.out)
  case hIx =>
    intro c
    rw [HZ.out]
    exact OwnFrom.and (ownFrom_pure _ _) (OwnFrom.mono HJx.out (by omega))
  case h0 =>
    intro V hV
    have hV2 : Below W.heap.size W V := HB0.out.trans (hV.mono (by rw [HZ.out]; omega))
    exact ⟨⟨⟨H0.out V hV2, HBy.out.below hV HBy.out.lt⟩, HBt.out.below hV HBt.out.lt⟩, hV2.size, Kept.below hV2 HSW.out⟩
  case assign =>
    intro l2 k x V K hx hi hz hK
    unfold takenV at hx
    rw [List.getElem?_map] at hx
    cases hq : (takenL N N.length)[k]? with
    | none => rw [hq] at hx; cases hx
    | some i =>
      rw [hq] at hx
      cases hx
      have HK := Lib.hid (hK _ V (KeepsP.refl _ _ _) (Kept.refl _ _) hi ⟨i, hq, rfl⟩)
      clear hi hK hq
      gi_wp2
      exact HK.out
  case body =>
    rintro l2 k x a' V hx ⟨⟨⟨hJ, hBy⟩, hBt⟩, hz, hK⟩ ⟨i, hi, rfl⟩ hzz
    have hilt := takenL_lt hi
    have hil : (i : Int) < (N.length : Int) := by omega
    have hi0 : (0 : Int) ≤ (i : Int) := by omega
    have HIi := Lib.hid hi
    have HJJ := Lib.hid hJ
    have HBy2 := Lib.hid hBy
    have HBt2 := Lib.hid hBt
    have HK2 := Lib.hid hK
    have hBc : Blk V Bc 24 #[.pointer (some ⟨bp, 0, none⟩)] := (hK _ HSB.out).trans HBW.out
    have HBc := Lib.hid hBc
    have HVz := Lib.hid hz
    clear hx hi hJ hBy hBt hK hBc
    gi_wp2_with fail
    refine still_tailR 9 (by kernel_rfl) (by kernel_rfl) (by kernel_rfl) fun w2 hw2 => ?_
    simp only [List.take_succ_cons, List.take_zero, List.drop_succ_cons, List.drop_zero]
    have hg2 : V.grownBy w2 none := by rw [hw2]; exact grownBy_drew V
    have hJ2 : J k w2 := HJ.out k V w2 none HJJ.out hg2 (fun r e => by cases e)
    have hz2 : w2.heap.size = V.heap.size := by rw [hw2]; rfl
    have hK2 : Kept S W w2 := HK2.out.trans (fun b _ => by rw [hw2]; rfl)
    have hBy2 : Blk w2 W.heap.size 66 #[.func (.yield l) #[] #[]] := by rw [hw2]; exact HBy2.out
    have hBt2 : Blk w2 (W.heap.size + 1) 24 #[.pointer (some ⟨bp, 0, none⟩)] := by rw [hw2]; exact HBt2.out
    have hBc2 : Blk w2 Bc 24 #[.pointer (some ⟨bp, 0, none⟩)] := by rw [hw2]; exact HBc.out
    have hkp : ∀ B, KeepsP (fun _ => false) B V w2 := fun B => KeepsP.grown hg2 (fun r e => by cases e)
    have hkS : Kept (fun b => S b ∨ b = W.heap.size + 1) V w2 := fun b _ => by rw [hw2]; rfl
    have hP2 := HPk.out w2 hK2
    have hv : (eachV N)[k]? = some #[ndV (N.getD i nd0)] := by
      unfold eachV
      rw [List.getElem?_map, HIi.out]
      rfl
    have hy := hP2.nodes
    obtain ⟨y, hyl⟩ : ∃ y, N[i]? = some y := ⟨_, List.getElem?_eq_getElem hilt⟩
    obtain ⟨g, rfl, -, -⟩ := hP2.nodes.at hyl
    obtain ⟨y0, y1, y2, y3, y4⟩ := OwnN.cells hP2.nodes hyl
    have e1 := hP2.head.cell 1
    have e66 := hBy2.cell 0
    have e24 := hBc2.cell 0
    simp at e1 e66 e24
    have hgd : N.getD i nd0 = y := by rw [List.getD, hyl]; rfl
    rw [hgd] at hv
    obtain ⟨fn, tmps, assign, body, hyy, hR⟩ := HY.out k _ w2 hv hJ2
    have HR := Lib.hid hR
    have HK2' := Lib.hid hK2
    have HBy3 := Lib.hid hBy2
    have HBt3 := Lib.hid hBt2
    have HKP := Lib.hid hkp
    have HKS := Lib.hid hkS
    have HZ2 := Lib.hid hz2
    have hwi : IntKind.i64.wrap (i : Int) = (i : Int) := IntWalk.i64_in _ (by omega)
    have HYL := Lib.hid hyl
    obtain ⟨x0, x1, x2, x3, x4⟩ := y
    dsimp only at y0 y1 y2 y3 y4
    unfold ndV ndRow at hyy
    dsimp only at hyy
    clear hw2 hg2 hJ2 hK2 hBy2 hBt2 hBc2 hkp hkS hP2 hv hy hyl hgd hR hz2 e0 hz hzz
    repeat still_step
    refine wpStill_nil ?_
    clear y0 y1 y2 y3 y4 e1 e66 e24 hwi
    gi_wp2
    refine (RoundIn.inRoundR l2 HR.out).mono ?_
    rintro e W3 (⟨rfl, hJ3, hKP3, hK3⟩ | ⟨rfl, hX3, hKP3⟩)
    · have hB3 : Blk W3 W.heap.size 66 #[.func (.yield l) #[] #[]] := hKP3.same _ _ (Nat.le_refl _) HBy3.out rfl
      have hT3 : Blk W3 (W.heap.size + 1) 24 #[.pointer (some ⟨bp, 0, none⟩)] := hKP3.same _ _ (by omega) HBt3.out rfl
      have HF := Lib.hid (show KeepsP (fun _ => false) W0.heap.size V W3 from (HKP.out _).trans (hKP3.mono (by rw [HZ.out]; omega) (fun _ h => by cases h)))
      have HFS := Lib.hid (show Kept (fun b => S b ∨ b = W.heap.size + 1) V W3 from HKS.out.trans (fun b hb => by
        rcases hb with hb | rfl
        · exact hK3 b hb
        · exact Eq.trans hT3 (Eq.symm HBt3.out)))
      have HI3 := Lib.hid (show ((J (k + 1) W3 ∧ Blk W3 W.heap.size 66 #[.func (.yield l) #[] #[]]) ∧ Blk W3 (W.heap.size + 1) 24 #[.pointer (some ⟨bp, 0, none⟩)]) ∧ (W.heap.size ≤ W3.heap.size ∧ Kept S W W3) from
        ⟨⟨⟨hJ3, hB3⟩, hT3⟩, by have := hKP3.size; have := HZ2.out; have := HVz.out; omega, HK2'.out.trans hK3⟩)
      clear hJ3 hKP3 hK3 hB3 hT3 HR hyy
      gi_wp2
      exact ⟨HF.out, HFS.out, HI3.out⟩
    · have HF := Lib.hid (show KeepsP (fun _ => false) W0.heap.size V W3 from (HKP.out _).trans (hKP3.mono (by rw [HZ.out]; omega) (fun _ h => by cases h)))
      have HX := Lib.hid hX3
      clear hX3 hKP3 HR hyy
      gi_wp2
      exact ⟨HF.out, rfl, HX.out⟩
  case done =>
    rintro D V hD ⟨⟨⟨hJ, hBy⟩, hBt⟩, hz, hK⟩ hDf
    have HF := Lib.hid (HJ.out.putObj (.deferred none) hJ (by rw [HZ.out] at hD; omega) hDf rfl)
    clear hJ hBy hBt hK
    gi_wp2
    refine ⟨by simp, .inl ⟨_, _, rfl, run_takeDeferred hDf, ?_⟩⟩
    refine ⟨_, results_none rfl _ _ _, ⟨_, rfl⟩, .inl ?_⟩
    have h5 := HF.out
    unfold takenV at h5
    unfold eachV
    rw [List.length_map] at h5 ⊢
    exact h5
  case stop =>
    rintro D c k V hD hk ⟨rfl, hX⟩ hDf
    have HF := Lib.hid (HJx.out.putObj (.deferred none) hX (by rw [HZ.out] at hD; omega) hDf rfl)
    clear hX
    gi_wp2
    refine ⟨by simp, .inl ⟨_, _, rfl, run_takeDeferred hDf, ?_⟩⟩
    refine ⟨_, results_none rfl _ _ _, ⟨_, rfl⟩, .inr ⟨k, ?_, HF.out⟩⟩
    unfold takenV at hk
    unfold eachV
    rw [List.length_map] at hk ⊢
    exact hk
set_option maxRecDepth 100000 in
set_option maxHeartbeats 4000000 in
theorem iter_each_nil {Bc : Nat} (hB : Blk w Bc 24 #[.pointer none]) (hSB : S Bc) (hSl : ∀ b, S b → b < w.heap.size) :
    Iter Try.prog 29 #[.pointer (some ⟨Bc, 0, none⟩)] PtE S [] w := by
  intro l J Jx W hW hJ hJx hY h0
  have hKW : Kept S w W := Kept.below hW hSl
  have hBW : Blk W Bc 24 #[.pointer none] := (hKW _ hSB).trans hB
  have hSW : ∀ b, S b → b < W.heap.size := fun b hb => Nat.lt_of_lt_of_le (hSl b hb) hW.size
  have hbc := hBW.lt
  obtain ⟨W0, hW0⟩ : ∃ W0, (W.alloc (.cells #[.func (.yield l) #[] #[]] 66)).alloc (.cells #[.pointer none] 24) = W0 := ⟨_, rfl⟩
  have hz0 : W0.heap.size = W.heap.size + 2 := by rw [← hW0]; simp
  have hb0 : Below W.heap.size W W0 := by rw [← hW0]; exact ((Below.refl _ _).alloc (Nat.le_refl _) _).alloc (by simp) _
  have hBy : Blk W0 W.heap.size 66 #[.func (.yield l) #[] #[]] := by rw [← hW0]; exact (Blk.new _ _ _).alloc _
  have hBt : Blk W0 (W.heap.size + 1) 24 #[.pointer none] := by
    rw [← hW0]
    have h1 := Blk.new (W.alloc (.cells #[.func (.yield l) #[] #[]] 66)) 24 #[.pointer none]
    rw [World.size_alloc] at h1
    exact h1
  have e0 : (W.alloc (.cells #[.func (.yield l) #[] #[]] 66)).cell? ⟨Bc, 0, none⟩ = some (.pointer none) := by
    have := (hBW.alloc (.cells #[.func (.yield l) #[] #[]] 66)).cell 0
    simpa using this
  have hit := iter_taken_nil (S := fun b => S b ∨ b = W.heap.size + 1) hBt (.inr rfl) (fun b hb => by
    rcases hb with hb | rfl
    · have := hSW b hb; omega
    · omega)
  have HW0 := Lib.hid hW0
  have HI := Lib.hid hit
  have HBy := Lib.hid hBy
  have HBt := Lib.hid hBt
  have HZ := Lib.hid hz0
  have HB0 := Lib.hid hb0
  have HJ := Lib.hid hJ
  have HJx := Lib.hid hJx
  have H0 := Lib.hid h0
  have HSW := Lib.hid hSW
  have HBW := Lib.hid hBW
  have HSB := Lib.hid hSB
  clear hB hJ hJx hY h0 hBW hKW hW hSl hSB hSW hW0 hz0 hb0 hBy hBt hit
  refine callsIn_of_wp_marks Try.func29 rfl trivial ?_ rfl
  simp only [Try.ntmps29, List.size_toArray, List.length_cons, List.length_nil, Nat.reduceAdd, Nat.reduceSub, Array.replicate_succ, Array.replicate_zero, List.push_toArray, List.append_toArray, List.nil_append, List.cons_append]
  gi_wp2_with (gi_at_call 30; refine (callsIn_wide.2 (run_taken _ _)).mono ?_; rintro e w1 ⟨rfl, rfl⟩)
  rw [HW0.out]
  refine wp_range (gf := 31) (lb := #[.pointer (some ⟨W.heap.size + 1, 0, none⟩)]) rfl (enters_of Try.func31 (by kernel_rfl) rfl) HI.out (Below.refl _ _) ?hSl ?hps
    (fun k V => ((J k V ∧ Blk V W.heap.size 66 #[.func (.yield l) #[] #[]]) ∧ Blk V (W.heap.size + 1) 24 #[.pointer none]) ∧ (W.heap.size ≤ V.heap.size ∧ Kept S W V))
    (fun c k V => c = .ret ∧ Jx k V)
    ?hI ?hIx ?h0
    (fun _ _ _ => False) (fun _ _ _ _ _ _ hs _ _ => hs) ?assign ?body ?done ?stop
  case hSl =>
    rintro b (hb | rfl)
    · have := HSW.out b hb; rw [HZ.out]; omega
    · rw [HZ.out]; omega
  case hps =>
    intro k x hx
    simp at hx
  case hI =>
    rw [HZ.out]
    exact OwnFrom.and (OwnFrom.and (OwnFrom.and (OwnFrom.mono HJ.out (by omega)) (ownFrom_blk (by omega))) (ownFrom_blk (by omega))) (ownFrom_kept (fun b hb => by have := HSW.out b hb; omega) HSW.out)
  case hIx =>
    intro c
    rw [HZ.out]
    exact OwnFrom.and (ownFrom_pure _ _) (OwnFrom.mono HJx.out (by omega))
  case h0 =>
    intro V hV
    have hV2 : Below W.heap.size W V := HB0.out.trans (hV.mono (by rw [HZ.out]; omega))
    exact ⟨⟨⟨H0.out V hV2, HBy.out.below hV HBy.out.lt⟩, HBt.out.below hV HBt.out.lt⟩, hV2.size, Kept.below hV2 HSW.out⟩
  case assign =>
    intro l2 k x V K hx
    simp at hx
  case body =>
    intro l2 k x a' V hx
    simp at hx
  case done =>
    rintro D V hD ⟨⟨⟨hJ, hBy⟩, hBt⟩, hz, hK⟩ hDf
    have HF := Lib.hid (HJ.out.putObj (.deferred none) hJ (by rw [HZ.out] at hD; omega) hDf rfl)
    clear hJ hBy hBt hK
    gi_wp2
    refine ⟨by simp, .inl ⟨_, _, rfl, run_takeDeferred hDf, ?_⟩⟩
    refine ⟨_, results_none rfl _ _ _, ⟨_, rfl⟩, .inl ?_⟩
    exact HF.out
  case stop =>
    rintro D c k V hD hk
    simp at hk
end
end Go.Proofs.Ytljclikholchmaa
