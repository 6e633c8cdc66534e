/- Parse of a text that is its events' text; layer 28 (events). -/
import Derived.Test.YtfppplalgdopjaaDoorEa
namespace Go.Proofs.YtfppplalgdopjaaDoor
open Go.RowKit Go.Shelf
attribute [local go_sem] Oper.semAt_some wide_fn wide_depth

def evl (E : Nat → Ev) (k : Nat) : List Ev := (List.range k).map E
theorem evl_succ (E : Nat → Ev) (k : Nat) : evl E (k + 1) = evl E k ++ [E k] := by unfold evl; rw [List.range_succ]; simp
theorem evl_len (E : Nat → Ev) (k : Nat) : (evl E k).length = k := by unfold evl; simp
/-- The state of Parse's loop: the result's cell R, its row from Z on. -/
def PI (w : World) (R Z : Nat) (E : Nat → Ev) (k : Nat) (V : World) : Prop := (∃ A c, Blk V R 22 #[.slice A k c] ∧ V.ownsRow Z 47 3 (.slice A k c) k (evC (evl E k))) ∧ Below w.heap.size w V ∧ Z ≤ V.heap.size
theorem pi_own {w : World} {R Z : Nat} {E : Nat → Ev} {B : Nat} (hB : w.heap.size ≤ B) : OwnFrom B (PI w R Z E) := by
  intro k X Y row ⟨⟨A, c, h1, h2⟩, h3, h4⟩ hg hr
  refine ⟨⟨A, c, ?_, ?_⟩, h3.grown hg h3.size (fun r e => Nat.le_trans hB (hr r e).1), Nat.le_trans h4 hg.size⟩
  · refine (hg.block R h1.lt (fun e => ?_)).trans h1
    obtain ⟨o, ho, hc⟩ := (hr R e.symm).2
    unfold Blk at h1
    rw [h1] at ho
    cases ho
    cases hc
  · refine h2.kept hg ?_
    rcases hob : (Value.slice A k c).ownBlock with _ | g
    · exact .inl rfl
    · refine .inr (fun e => ?_)
      obtain ⟨o, ho, hc⟩ := (hr g e.symm).2
      rcases h2.2 with ⟨hv, _⟩ | ⟨g', cap, cur, hv, _, hg', _⟩
      · rw [hv] at hob; cases hob
      · rw [hv] at hob
        cases hob
        rw [hg'] at ho
        cases ho
        cases hc
theorem pi_set {w : World} {R Z g0 : Nat} {E : Nat → Ev} (h0 : g0 ≠ R) (h1 : g0 < Z) (h2 : w.heap.size ≤ g0) (k : Nat) (X : World) (u : Value) (h : PI w R Z E k X) : PI w R Z E k (X.setCell ⟨g0, 0, none⟩ u) := by
  obtain ⟨⟨A, c, q1, q2⟩, q3, q4⟩ := h
  refine ⟨⟨A, c, q1.set_other h0 _ _, ⟨q2.1, ?_⟩⟩, q3.setCell (p := ⟨g0, 0, none⟩) h2 _, by rw [World.size_setCell]; exact q4⟩
  rcases q2.2 with hn | ⟨g, cap, cur, e, hb, hg, rest⟩
  · exact .inl hn
  · exact .inr ⟨g, cap, cur, e, hb, (Below.heap_setCell X _ u g (by show g ≠ g0; omega)).trans hg, rest⟩
theorem size22 : (Tryd.prog.info? 22).map (·.size) = some 1 := by kernel_rfl
theorem load22 (w : World) (g : Nat) (A : Option Addr) (n c : Nat) (hg : w.cell? ⟨g, 0, none⟩ = some (.slice A n c)) : (loadVar 22 ⟨g, 0, none⟩).run Tryd.prog w = .ok (.slice A n c) w := by
  simp [loadVar, isAgg, Result.andThen, Sem.run_bind, hg, run_underlying Tryd.underlying22]
theorem res_22 {fn : Func} {p u : Tmp} (h : fn.results = #[.cell p 22, .tmp u]) (tmps : Array Value) (w : World) (g : Nat) {A : Option Addr} {n c : Nat} (v : Value) (hp : tmps.getD p undef = .pointer (some ⟨g, 0, none⟩)) (hv : tmps.getD u undef = v) (hg : w.cell? ⟨g, 0, none⟩ = some (.slice A n c)) :
    (results fn tmps).run Tryd.prog w = .ok (.tuple #[.slice A n c, v]) w := by
  rw [results_cell_tmp h, hp, hv]
  simp [asAddr, Result.andThen, load22 w g A n c hg]
set_option maxRecDepth 100000 in
set_option maxHeartbeats 4000000 in
theorem e_Parse {N : Nat} (s : ByteArray) (w : World) (hG : Gl w) (rs : Nat → ByteArray) (E : Nat → Ev) (h0 : rs 0 = s) (hrs : ∀ k, k < N → 0 < (rs k).size ∧ (rs k).size ≤ 1000000 ∧ rs (k + 1) = cutR (rs k) ∧ ixB (rs k) < (rs k).size) (hN : (rs N).size = 0)
    (hE : ∀ k, k < N → ∀ wx, Below w.heap.size w wx → Calls Tryd.prog 29 #[.string (lineR (rs k))] wx fun e w' => e = .returned (.agg #[.int .i64 (E k).a, .int .i64 (E k).k, .int .i64 (E k).l]) ∧ Below wx.heap.size wx w')
    (hs : s.size ≤ 65536) (hNN : N ≤ 65536) (hI : ∀ k, k < N → InE (E k)) (hT : textR (evl E N) = (s.data.toList, 0)) :
    Calls Tryd.prog 14 #[.string s] w fun e w' => ∃ A c, e = .returned (.tuple #[.slice A N c, .int .i64 0]) ∧ RowG w' w'.heap.size A c (evC (evl E N)) ∧ Below w.heap.size w w' := by
  obtain ⟨R, hRw⟩ : ∃ R, w.heap.size = R := ⟨_, rfl⟩
  obtain ⟨W1, hW1⟩ : ∃ W1, w.alloc (.cells #[.slice none 0 0] 22) = W1 := ⟨_, rfl⟩
  have hz1 : W1.heap.size = R + 1 := by rw [← hW1, ← hRw]; simp
  obtain ⟨W2, hW2⟩ : ∃ W2, W1.alloc (.cells #[.string s] 9) = W2 := ⟨_, rfl⟩
  have hz2 : W2.heap.size = R + 2 := by rw [← hW2]; simp [hz1]
  have hb1 : Below w.heap.size w W1 := by rw [← hW1]; exact below_al _
  have hb2 : Below w.heap.size w W2 := by rw [← hW2]; exact hb1.alloc hb1.size _
  have k1 : Blk W2 R 22 #[.slice none 0 0] := by rw [← hW2, ← hW1, ← hRw]; exact (Blk.new _ _ _).alloc _
  have k2 : Blk W2 (R + 1) 9 #[.string (rs 0)] := by rw [h0, ← hW2, ← hz1]; exact Blk.new _ _ _
  have l1 : ¬ (65536 : Int) < (s.size : Int) := by omega
  have HIT := Lib.hid (iter_lines (w := W2) (S := fun b => b = R + 1) rs hrs hN k2 rfl (by rintro b rfl; omega))
  have HB2 := Lib.hid hb2
  have HK1 := Lib.hid k1
  have HK2 := Lib.hid k2
  have HZ1 := Lib.hid hz1
  have HZ2 := Lib.hid hz2
  have HRW := Lib.hid hRw
  have HG := Lib.hid hG
  have HE := Lib.hid hE
  have HIN := Lib.hid hI
  have HT := Lib.hid hT
  have HRS := Lib.hid hrs
  have HW2 := Lib.hid hW2
  have HLN : Hid (∀ wx, Calls Tryd.prog 28 #[.string s] wx fun e w' => e = .returned (.func (.func 42) #[] #[.pointer (some ⟨wx.heap.size, 0, none⟩)]) ∧ wx.alloc (.cells #[.string s] 9) = w') := Lib.hid (fun wx => run_Lines s wx)
  clear hb1 hb2 k1 k2 hG hE hI hT hrs hz2 hW2
  refine (callsIn_wide (n := 0)).1 ?_
  refine callsIn_of_wp_marks Tryd.func14 rfl trivial ?_ rfl
  simp only [Tryd.ntmps14, List.size_toArray, List.length_cons, List.length_nil, Nat.reduceAdd, Nat.reduceSub, Array.replicate_succ, Array.replicate_zero, List.push_toArray, List.append_toArray, List.nil_append, List.cons_append]
  gi_wp2_with (gi_at_call 28; refine (callsIn_wide.2 (HLN.out _)).mono ?_; rintro e w1 ⟨rfl, rfl⟩)
  rw [HW2.out]
  refine wp_range (gf := 42) (lb := #[.pointer (some ⟨R + 1, 0, none⟩)]) (g0 := R + 1) rfl (enters_of Tryd.func42 (by kernel_rfl) rfl) HIT.out (by rw [HZ2.out]; omega) (Below.refl _ _) (by rintro b rfl; rw [HZ2.out]; omega) ?hps
    (PI w R (R + 2) E) (fun _ _ _ => False) ?hIm ?hIxm ?hI ?hIx ?h0
    (fun k a' _ => a' = { tmps := #[.string s, undef, .pointer (some ⟨R, 0, none⟩), .int .i64 0, .string (lineR (rs k)), undef, undef, .string s, .int .i64 (s.size : Int), .bool false, .string s, .func (.func 42) #[] #[.pointer (some ⟨R + 1, 0, none⟩)], .string (lineR (rs k)), undef, undef, undef, undef, undef, undef, undef, undef, undef, undef, undef, undef, undef, undef, undef, undef, undef, undef], defers := [] })
    ?hAx ?assign ?body ?done ?stop
  case hps =>
    rintro k x W rfl
    rfl
  case hIm => exact fun k X u h => pi_set (by omega) (by omega) (by rw [HRW.out]; omega) k X u h
  case hIxm => exact fun c k X u h => h.elim
  case hI => exact pi_own (by rw [HRW.out, HZ2.out]; omega)
  case hIx =>
    intro c k X Y row h
    exact h.elim
  case h0 =>
    intro V hV
    exact ⟨⟨none, 0, HK1.out.below hV HK1.out.lt, World.ownsRow_nil _ _ _ _⟩, HB2.out.trans (hV.mono HB2.out.size), by rw [← HZ2.out]; exact hV.size⟩
  case hAx =>
    rintro k a' _ X Y row h hg hr
    exact h
  case assign =>
    rintro l k x V K hk rfl hI hz hK
    have HK := Lib.hid (hK _ V (KeepsP.refl _ _ _) (Kept.refl _ _) hI rfl)
    clear hK hI hz
    gi_wp2
    exact HK.out
  case body =>
    rintro l k a' V hk hI rfl hz
    obtain ⟨⟨A, c, q1, q2⟩, q3, q4⟩ := hI
    have HQ1 := Lib.hid q1
    have HQ2 := Lib.hid q2
    have HQ3 := Lib.hid q3
    have HQ4 := Lib.hid q4
    clear q1 q2 q3 q4
    have hk6 : k ≤ 1000000 := by omega
    have HC : Hid (∀ wx, Below V.heap.size V wx → Calls Tryd.prog 29 #[.string (lineR (rs k))] wx fun e w' => e = .returned (.agg #[.int .i64 (E k).a, .int .i64 (E k).k, .int .i64 (E k).l]) ∧ Below wx.heap.size wx w') := Lib.hid (fun wx hb => HE.out k hk wx (HQ3.out.trans (hb.mono HQ3.out.size)))
    have c0 : V.cell? ⟨R, 0, none⟩ = some (.slice A k c) := HQ1.out.cell 0
    have HLT := Lib.hid HQ1.out.lt
    have hlt := HQ1.out.lt
    have hVd : Below V.heap.size V V.drew := (Below.refl _ _).drew
    have hR2 : R + 2 ≤ W2.heap.size := by rw [HZ2.out]; omega
    have HEND : Hid (∀ A' c' V7 w8, Below V.heap.size V V7 → w8.ownsRow (R + 2) 47 3 (.slice A' (k + 1) c') (k + 1) (evC (evl E k ++ [E k])) → (V7.alloc (.cells #[.int .i64 (E k).a, .int .i64 (E k).k, .int .i64 (E k).l] 47)).grownBy w8 (Value.slice A k c).ownBlock →
        w8.cell? ⟨R, 0, none⟩ = some (.slice A k c) ∧ w8.frozen? ⟨R, 0, none⟩ = false ∧ R < w8.heap.size ∧
        (KeepsP (fun _ => false) W2.heap.size V (w8.setCell ⟨R, 0, none⟩ (.slice A' (k + 1) c')) ∧ Kept (fun b => b = R + 1) V (w8.setCell ⟨R, 0, none⟩ (.slice A' (k + 1) c')) ∧ PI w R (R + 2) E (k + 1) (w8.setCell ⟨R, 0, none⟩ (.slice A' (k + 1) c')))) := Lib.hid (by
      intro A' c' V7 w8 hb7 hO hg
      have hal : Below V.heap.size V (V7.alloc (.cells #[.int .i64 (E k).a, .int .i64 (E k).k, .int .i64 (E k).l] 47)) := hb7.alloc hb7.size _
      have hne : ∀ b, b < R + 2 → some b ≠ (Value.slice A k c).ownBlock := fun b hb e => by
        have := (HQ2.out.lt b e.symm).1
        omega
      have hR : Blk w8 R 22 #[.slice A k c] := (hg.block R (Nat.lt_of_lt_of_le HLT.out hal.size) (hne R (by omega))).trans ((hal.block R HLT.out).trans HQ1.out)
      have hbl : Below w.heap.size w w8 := (HQ3.out.trans (hal.mono HQ3.out.size)).grown hg (Nat.le_trans HQ3.out.size hal.size) (fun b e => by have := (HQ2.out.lt b e).1; have := HRW.out; omega)
      refine ⟨hR.cell 0, hR.frozen 0, hR.lt, ?_, ?_, ⟨A', c', hR.set_ 0 _, ?_⟩, hbl.setCell (p := ⟨R, 0, none⟩) (by rw [HRW.out]; exact Nat.le_refl _) _, ?_⟩
      · refine ((KeepsP.below hal).trans (KeepsP.grown hg fun b e => .inr fun o ho => ?_)).trans (KeepsP.set _ _ _ _ (.inl (by omega)))
        have hown := own_keep HQ2.out hal
        rcases hown.2 with ⟨hv, _⟩ | ⟨g, cap, cur, hv, _, hgg, _⟩
        · rw [hv] at e; cases e
        · rw [hv] at e
          cases e
          rw [hgg] at ho
          cases ho
          rfl
      · rintro b rfl
        rw [Below.heap_setCell w8 _ _ _ (by show R + 1 ≠ R; omega)]
        have hl1 : R + 1 < V.heap.size := by have := HQ4.out; omega
        exact (hg.block (R + 1) (Nat.lt_of_lt_of_le hl1 hal.size) (hne _ (by omega))).trans (hal.block _ hl1)
      · rw [evl_succ]
        refine ⟨hO.1, ?_⟩
        rcases hO.2 with hn | ⟨g, cap, cur, hv, hb, hgg, rest⟩
        · exact .inl hn
        · exact .inr ⟨g, cap, cur, hv, hb, (Below.heap_setCell w8 _ _ g (by show g ≠ R; omega)).trans hgg, rest⟩
      · rw [World.size_setCell]
        exact Nat.le_trans HQ4.out (Nat.le_trans hal.size hg.size))
    generalize E k = x at *
    refine wpIn_block ?_
    refine wpIn_region_any (by kernel_rfl) ?_
    change wpAnyIn _ _ _ _ _ _ _ _ _ V.drew
    refine wpAnyIn_all (rs := [0, 1]) (by kernel_rfl) (by simp) ?_
    refine AllReadyIn.cons (o := { dst := some 13, op := Op.load 22 (Operand.tmp 2), type := 22, pos := "events.go:68", after := #[], guard := none }) rfl (fun K hK => rd_step (by intro c hc; cases hc) rfl ?_) ?_
    · unfold Oper.wp; go_simp
      refine hK _ _ ?_
      clear hK K
      refine wpAnyIn_all (rs := [1]) (by kernel_rfl) (by simp) ?_
      refine AllReadyIn.cons (o := { dst := some 14, op := Op.move (Operand.tmp 4), type := 9, pos := "events.go:68", after := #[], guard := none }) rfl (fun K hK => rd_step (by intro c hc; cases hc) rfl ?_) ?_
      · unfold Oper.wp; go_simp
        refine hK _ _ ?_
        clear hK K
        refine wpAnyIn_all (rs := [2]) (by kernel_rfl) (by simp) ?_
        refine AllReadyIn.cons (o := { dst := some 15, op := Op.call { callee := Callee.value (Operand.func 29), args := #[Operand.tmp 14], argTypes := #[9] }, type := 47, pos := "events.go:68", after := #[{ on := 1, ground := Ground.data }], guard := none }) rfl (fun K hK => rd_step (by intro c hc; cases hc) rfl ?_) ?_
        · unfold Oper.wp; go_simp; go_at_call 29; (with_reducible refine (HC.out _ hVd).mono ?_); rintro e V7 ⟨rfl, hb7⟩; have HB7 : Hid (Below V.heap.size V V7) := Lib.hid (hVd.trans hb7); have d0 := (HB7.out.cell (p := ⟨R, 0, none⟩) HLT.out).trans c0; have d1 := Nat.lt_of_lt_of_le HLT.out HB7.out.size; clear hb7
          refine hK _ _ ?_
          clear hK K
          refine wpAnyIn_all (rs := [3]) (by kernel_rfl) (by simp) ?_
          refine AllReadyIn.cons (o := { dst := some 16, op := Op.buildSlice 22 1 #[(0, Operand.tmp 15)], type := 22, pos := "events.go:68", after := #[{ on := 2, ground := Ground.data }], guard := none }) rfl (fun K hK => rd_step (by intro c hc; cases hc) rfl ?_) ?_
          · unfold Oper.wp; go_simp
            refine hK _ _ ?_
            clear hK K
            refine wpAnyIn_all (rs := [4]) (by kernel_rfl) (by simp) ?_
            refine AllReadyIn.cons (o := { dst := some 17, op := Op.call { callee := Callee.builtin Builtin.append, args := #[Operand.tmp 13, Operand.tmp 16], argTypes := #[22, 22] }, type := 22, pos := "events.go:68", after := #[{ on := 0, ground := Ground.data }, { on := 3, ground := Ground.data }, { on := 2, ground := Ground.chain }], guard := none }) rfl (fun K hK => rd_step (by intro c hc; cases hc) rfl ?_) ?_
            · refine op_app_ev (W := V7) (.tmp 13) (.tmp 16) (by rfl) (R + 2) k _ (evl E k) (by rfl) (own_keep HQ2.out HB7.out) x _ rfl (by rfl) (Nat.le_trans HQ4.out HB7.out.size) hk6 ?_; intro A8 c8 w8 hO8 hg8; obtain ⟨e0, e1, e2, hend⟩ := HEND.out A8 c8 V7 w8 HB7.out hO8 hg8; have HE8 := Lib.hid hend; clear hend hO8 hg8
              refine hK _ _ ?_
              clear hK K
              refine wpAnyIn_all (rs := [5]) (by kernel_rfl) (by simp) ?_
              refine AllReadyIn.cons (o := { dst := none, op := Op.store 22 (Operand.tmp 2) (Operand.tmp 17), type := 0, pos := "events.go:68", after := #[{ on := 4, ground := Ground.data }, { on := 4, ground := Ground.chain }, { on := 0, ground := Ground.phase }, { on := 1, ground := Ground.phase }, { on := 2, ground := Ground.phase }, { on := 3, ground := Ground.phase }, { on := 4, ground := Ground.phase }], guard := none }) rfl (fun K hK => rd_step (by intro c hc; cases hc) rfl ?_) ?_
              · unfold Oper.wp; go_simp
                refine hK _ _ ?_
                clear hK K
                refine wpAnyIn_done (by kernel_rfl) ?_ _
                exact HE8.out
              exact AllReadyIn.nil
            exact AllReadyIn.nil
          exact AllReadyIn.nil
        exact AllReadyIn.nil
      exact AllReadyIn.nil
    refine AllReadyIn.cons (o := { dst := some 14, op := Op.move (Operand.tmp 4), type := 9, pos := "events.go:68", after := #[], guard := none }) rfl (fun K hK => rd_step (by intro c hc; cases hc) rfl ?_) ?_
    · unfold Oper.wp; go_simp
      refine hK _ _ ?_
      clear hK K
      refine wpAnyIn_all (rs := [0, 2]) (by kernel_rfl) (by simp) ?_
      refine AllReadyIn.cons (o := { dst := some 13, op := Op.load 22 (Operand.tmp 2), type := 22, pos := "events.go:68", after := #[], guard := none }) rfl (fun K hK => rd_step (by intro c hc; cases hc) rfl ?_) ?_
      · unfold Oper.wp; go_simp
        refine hK _ _ ?_
        clear hK K
        refine wpAnyIn_all (rs := [2]) (by kernel_rfl) (by simp) ?_
        refine AllReadyIn.cons (o := { dst := some 15, op := Op.call { callee := Callee.value (Operand.func 29), args := #[Operand.tmp 14], argTypes := #[9] }, type := 47, pos := "events.go:68", after := #[{ on := 1, ground := Ground.data }], guard := none }) rfl (fun K hK => rd_step (by intro c hc; cases hc) rfl ?_) ?_
        · unfold Oper.wp; go_simp; go_at_call 29; (with_reducible refine (HC.out _ hVd).mono ?_); rintro e V7 ⟨rfl, hb7⟩; have HB7 : Hid (Below V.heap.size V V7) := Lib.hid (hVd.trans hb7); have d0 := (HB7.out.cell (p := ⟨R, 0, none⟩) HLT.out).trans c0; have d1 := Nat.lt_of_lt_of_le HLT.out HB7.out.size; clear hb7
          refine hK _ _ ?_
          clear hK K
          refine wpAnyIn_all (rs := [3]) (by kernel_rfl) (by simp) ?_
          refine AllReadyIn.cons (o := { dst := some 16, op := Op.buildSlice 22 1 #[(0, Operand.tmp 15)], type := 22, pos := "events.go:68", after := #[{ on := 2, ground := Ground.data }], guard := none }) rfl (fun K hK => rd_step (by intro c hc; cases hc) rfl ?_) ?_
          · unfold Oper.wp; go_simp
            refine hK _ _ ?_
            clear hK K
            refine wpAnyIn_all (rs := [4]) (by kernel_rfl) (by simp) ?_
            refine AllReadyIn.cons (o := { dst := some 17, op := Op.call { callee := Callee.builtin Builtin.append, args := #[Operand.tmp 13, Operand.tmp 16], argTypes := #[22, 22] }, type := 22, pos := "events.go:68", after := #[{ on := 0, ground := Ground.data }, { on := 3, ground := Ground.data }, { on := 2, ground := Ground.chain }], guard := none }) rfl (fun K hK => rd_step (by intro c hc; cases hc) rfl ?_) ?_
            · refine op_app_ev (W := V7) (.tmp 13) (.tmp 16) (by rfl) (R + 2) k _ (evl E k) (by rfl) (own_keep HQ2.out HB7.out) x _ rfl (by rfl) (Nat.le_trans HQ4.out HB7.out.size) hk6 ?_; intro A8 c8 w8 hO8 hg8; obtain ⟨e0, e1, e2, hend⟩ := HEND.out A8 c8 V7 w8 HB7.out hO8 hg8; have HE8 := Lib.hid hend; clear hend hO8 hg8
              refine hK _ _ ?_
              clear hK K
              refine wpAnyIn_all (rs := [5]) (by kernel_rfl) (by simp) ?_
              refine AllReadyIn.cons (o := { dst := none, op := Op.store 22 (Operand.tmp 2) (Operand.tmp 17), type := 0, pos := "events.go:68", after := #[{ on := 4, ground := Ground.data }, { on := 4, ground := Ground.chain }, { on := 0, ground := Ground.phase }, { on := 1, ground := Ground.phase }, { on := 2, ground := Ground.phase }, { on := 3, ground := Ground.phase }, { on := 4, ground := Ground.phase }], guard := none }) rfl (fun K hK => rd_step (by intro c hc; cases hc) rfl ?_) ?_
              · unfold Oper.wp; go_simp
                refine hK _ _ ?_
                clear hK K
                refine wpAnyIn_done (by kernel_rfl) ?_ _
                exact HE8.out
              exact AllReadyIn.nil
            exact AllReadyIn.nil
          exact AllReadyIn.nil
        exact AllReadyIn.nil
      refine AllReadyIn.cons (o := { dst := some 15, op := Op.call { callee := Callee.value (Operand.func 29), args := #[Operand.tmp 14], argTypes := #[9] }, type := 47, pos := "events.go:68", after := #[{ on := 1, ground := Ground.data }], guard := none }) rfl (fun K hK => rd_step (by intro c hc; cases hc) rfl ?_) ?_
      · unfold Oper.wp; go_simp; go_at_call 29; (with_reducible refine (HC.out _ hVd).mono ?_); rintro e V7 ⟨rfl, hb7⟩; have HB7 : Hid (Below V.heap.size V V7) := Lib.hid (hVd.trans hb7); have d0 := (HB7.out.cell (p := ⟨R, 0, none⟩) HLT.out).trans c0; have d1 := Nat.lt_of_lt_of_le HLT.out HB7.out.size; clear hb7
        refine hK _ _ ?_
        clear hK K
        refine wpAnyIn_all (rs := [0, 3]) (by kernel_rfl) (by simp) ?_
        refine AllReadyIn.cons (o := { dst := some 13, op := Op.load 22 (Operand.tmp 2), type := 22, pos := "events.go:68", after := #[], guard := none }) rfl (fun K hK => rd_step (by intro c hc; cases hc) rfl ?_) ?_
        · unfold Oper.wp; go_simp
          refine hK _ _ ?_
          clear hK K
          refine wpAnyIn_all (rs := [3]) (by kernel_rfl) (by simp) ?_
          refine AllReadyIn.cons (o := { dst := some 16, op := Op.buildSlice 22 1 #[(0, Operand.tmp 15)], type := 22, pos := "events.go:68", after := #[{ on := 2, ground := Ground.data }], guard := none }) rfl (fun K hK => rd_step (by intro c hc; cases hc) rfl ?_) ?_
          · unfold Oper.wp; go_simp
            refine hK _ _ ?_
            clear hK K
            refine wpAnyIn_all (rs := [4]) (by kernel_rfl) (by simp) ?_
            refine AllReadyIn.cons (o := { dst := some 17, op := Op.call { callee := Callee.builtin Builtin.append, args := #[Operand.tmp 13, Operand.tmp 16], argTypes := #[22, 22] }, type := 22, pos := "events.go:68", after := #[{ on := 0, ground := Ground.data }, { on := 3, ground := Ground.data }, { on := 2, ground := Ground.chain }], guard := none }) rfl (fun K hK => rd_step (by intro c hc; cases hc) rfl ?_) ?_
            · refine op_app_ev (W := V7) (.tmp 13) (.tmp 16) (by rfl) (R + 2) k _ (evl E k) (by rfl) (own_keep HQ2.out HB7.out) x _ rfl (by rfl) (Nat.le_trans HQ4.out HB7.out.size) hk6 ?_; intro A8 c8 w8 hO8 hg8; obtain ⟨e0, e1, e2, hend⟩ := HEND.out A8 c8 V7 w8 HB7.out hO8 hg8; have HE8 := Lib.hid hend; clear hend hO8 hg8
              refine hK _ _ ?_
              clear hK K
              refine wpAnyIn_all (rs := [5]) (by kernel_rfl) (by simp) ?_
              refine AllReadyIn.cons (o := { dst := none, op := Op.store 22 (Operand.tmp 2) (Operand.tmp 17), type := 0, pos := "events.go:68", after := #[{ on := 4, ground := Ground.data }, { on := 4, ground := Ground.chain }, { on := 0, ground := Ground.phase }, { on := 1, ground := Ground.phase }, { on := 2, ground := Ground.phase }, { on := 3, ground := Ground.phase }, { on := 4, ground := Ground.phase }], guard := none }) rfl (fun K hK => rd_step (by intro c hc; cases hc) rfl ?_) ?_
              · unfold Oper.wp; go_simp
                refine hK _ _ ?_
                clear hK K
                refine wpAnyIn_done (by kernel_rfl) ?_ _
                exact HE8.out
              exact AllReadyIn.nil
            exact AllReadyIn.nil
          exact AllReadyIn.nil
        refine AllReadyIn.cons (o := { dst := some 16, op := Op.buildSlice 22 1 #[(0, Operand.tmp 15)], type := 22, pos := "events.go:68", after := #[{ on := 2, ground := Ground.data }], guard := none }) rfl (fun K hK => rd_step (by intro c hc; cases hc) rfl ?_) ?_
        · unfold Oper.wp; go_simp
          refine hK _ _ ?_
          clear hK K
          refine wpAnyIn_all (rs := [0]) (by kernel_rfl) (by simp) ?_
          refine AllReadyIn.cons (o := { dst := some 13, op := Op.load 22 (Operand.tmp 2), type := 22, pos := "events.go:68", after := #[], guard := none }) rfl (fun K hK => rd_step (by intro c hc; cases hc) rfl ?_) ?_
          · unfold Oper.wp; go_simp
            refine hK _ _ ?_
            clear hK K
            refine wpAnyIn_all (rs := [4]) (by kernel_rfl) (by simp) ?_
            refine AllReadyIn.cons (o := { dst := some 17, op := Op.call { callee := Callee.builtin Builtin.append, args := #[Operand.tmp 13, Operand.tmp 16], argTypes := #[22, 22] }, type := 22, pos := "events.go:68", after := #[{ on := 0, ground := Ground.data }, { on := 3, ground := Ground.data }, { on := 2, ground := Ground.chain }], guard := none }) rfl (fun K hK => rd_step (by intro c hc; cases hc) rfl ?_) ?_
            · refine op_app_ev (W := V7) (.tmp 13) (.tmp 16) (by rfl) (R + 2) k _ (evl E k) (by rfl) (own_keep HQ2.out HB7.out) x _ rfl (by rfl) (Nat.le_trans HQ4.out HB7.out.size) hk6 ?_; intro A8 c8 w8 hO8 hg8; obtain ⟨e0, e1, e2, hend⟩ := HEND.out A8 c8 V7 w8 HB7.out hO8 hg8; have HE8 := Lib.hid hend; clear hend hO8 hg8
              refine hK _ _ ?_
              clear hK K
              refine wpAnyIn_all (rs := [5]) (by kernel_rfl) (by simp) ?_
              refine AllReadyIn.cons (o := { dst := none, op := Op.store 22 (Operand.tmp 2) (Operand.tmp 17), type := 0, pos := "events.go:68", after := #[{ on := 4, ground := Ground.data }, { on := 4, ground := Ground.chain }, { on := 0, ground := Ground.phase }, { on := 1, ground := Ground.phase }, { on := 2, ground := Ground.phase }, { on := 3, ground := Ground.phase }, { on := 4, ground := Ground.phase }], guard := none }) rfl (fun K hK => rd_step (by intro c hc; cases hc) rfl ?_) ?_
              · unfold Oper.wp; go_simp
                refine hK _ _ ?_
                clear hK K
                refine wpAnyIn_done (by kernel_rfl) ?_ _
                exact HE8.out
              exact AllReadyIn.nil
            exact AllReadyIn.nil
          exact AllReadyIn.nil
        exact AllReadyIn.nil
      exact AllReadyIn.nil
    exact AllReadyIn.nil
  case done =>
    rintro D V hD ⟨⟨A, c, q1, q2⟩, q3, q4⟩ hDf
    obtain ⟨A', c', hAc, hrow⟩ := RowG.own (by decide) q2
    cases hAc
    have hDV : D < V.heap.size := (Array.getElem?_eq_some_iff.1 hDf).1
    have HTX : Hid (Calls Tryd.prog 8 #[.slice A N c] V fun e w' => e = .returned (.tuple #[.string s, .int .i64 0]) ∧ Below V.heap.size V w') := Lib.hid (by
      have h := e_Text (evl E N) A c V ⟨HG.out.below q3, var?_below q3 gTab HG.out.lt HG.out.tab, Nat.lt_of_lt_of_le HG.out.lt q3.size⟩ hrow (fun x hx => by
        unfold evl at hx
        rw [List.mem_map] at hx
        obtain ⟨k, hk, rfl⟩ := hx
        exact HIN.out k (List.mem_range.1 hk)) (by rw [evl_len]; omega)
      rw [evl_len, HT.out] at h
      exact h)
    have hRD : R ≠ D := by rw [HZ2.out] at hD; omega
    have HFIN : Hid (∀ V9, Below V.heap.size V V9 → V9.cell? ⟨R, 0, none⟩ = some (.slice A N c) ∧ V9.frozen? ⟨R, 0, none⟩ = false ∧ R < V9.heap.size) := Lib.hid (fun V9 hb => ⟨(hb.cell (p := ⟨R, 0, none⟩) q1.lt).trans (q1.cell 0), (hb.frozen (p := ⟨R, 0, none⟩) q1.lt).trans (q1.frozen 0), Nat.lt_of_lt_of_le q1.lt hb.size⟩)
    have c0 : V.cell? ⟨R, 0, none⟩ = some (.slice A N c) := q1.cell 0
    have HQ1 := Lib.hid q1
    have HQ2 := Lib.hid q2
    have HQ3 := Lib.hid q3
    have HRO := Lib.hid hrow
    have HDF := Lib.hid hDf
    clear q1 q2 q3 q4 hrow hDf
    gi_wp2_with (gi_at_call 8; refine (callsIn_wide.2 HTX.out).mono ?_; rintro e V9 ⟨rfl, hb9⟩; obtain ⟨d0, d1, d2⟩ := HFIN.out V9 hb9; have HB9 := Lib.hid hb9; clear hb9)
    obtain ⟨X, hX⟩ : ∃ X, (V9.setCell ⟨R, 0, none⟩ (.slice A N c)).putObj D (.deferred none) = X := ⟨_, rfl⟩
    have hDb : (V9.setCell ⟨R, 0, none⟩ (.slice A N c)).heap[D]? = some (.deferred (some [])) := by
      rw [Below.heap_setCell V9 _ _ D (by show D ≠ R; omega), HB9.out.block D hDV]
      exact HDF.out
    have hXc : X.cell? ⟨R, 0, none⟩ = some (.slice A N c) := by
      rw [← hX]
      have h1 : Blk V9 R 22 #[.slice A N c] := HQ1.out.below HB9.out HQ1.out.lt
      have h2 : Blk ((V9.setCell ⟨R, 0, none⟩ (.slice A N c)).putObj D (.deferred none)) R 22 #[.slice A N c] := (World.putObj_heap_other hRD).trans (h1.set_ 0 _)
      exact h2.cell 0
    have hXo : X.ownsRow (R + 2) 47 3 (.slice A N c) N (evC (evl E N)) := by
      have h9 := own_keep HQ2.out HB9.out
      refine ⟨h9.1, ?_⟩
      rcases h9.2 with hn | ⟨g, cap, cur, hv, hb, hgg, rest⟩
      · exact .inl hn
      · refine .inr ⟨g, cap, cur, hv, hb, ?_, rest⟩
        have h1 : (V9.setCell ⟨R, 0, none⟩ (.slice A N c)).heap[g]? = some (.cells cur 47) := (Below.heap_setCell V9 _ _ g (by show g ≠ R; omega)).trans hgg
        rw [← hX]
        refine (World.putObj_heap_other (fun e => ?_)).trans h1
        rw [e, hDb] at h1
        cases h1
    have hXb : Below w.heap.size w X := by
      rw [← hX]
      exact ((HQ3.out.trans (HB9.out.mono HQ3.out.size)).setCell (p := ⟨R, 0, none⟩) (by rw [HRW.out]; exact Nat.le_refl _) _).grown (grownBy_putObj' _ D (.deferred none)) (by rw [World.size_setCell]; exact Nat.le_trans HQ3.out.size HB9.out.size) (fun k e => by cases e; rw [HRW.out]; rw [HZ2.out] at hD; omega)
    have hXe : X.ownsRow (R + 2) 47 3 (.slice A N c) N (evC (evl E N)) → RowG X X.heap.size A c (evC (evl E N)) := fun h => by
      obtain ⟨A2, c2, h1, h2⟩ := RowG.own (by decide) h
      cases h1
      exact h2
    refine ⟨by simp, .inl ⟨_, _, rfl, run_takeDeferred hDb, ?_⟩⟩
    rw [hX]
    refine ⟨_, res_22 rfl _ _ R _ rfl rfl hXc, A, c, rfl, hXe hXo, hXb⟩
  case stop =>
    rintro D c k V hD hk h
    exact h.elim
end Go.Proofs.YtfppplalgdopjaaDoor
