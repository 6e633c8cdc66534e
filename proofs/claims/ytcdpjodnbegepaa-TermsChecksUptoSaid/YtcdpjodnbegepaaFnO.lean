/- Contracts of fold over types and of Type, of layer 30 (terms). -/
import Derived.Test.YtcdpjodnbegepaaFnN
import Derived.RegionTactic
import Derived.Laws.EntriesVeiled
namespace Go.Proofs.Ytcdpjodnbegepaa
open Go.RowKit Go.Maps

theorem results_cell_cell {fn : Func} {p u : Tmp} {ty ty2 : TypeId} (h : fn.results = #[.cell p ty, .cell u ty2]) (tmps : Array Value) (P : Program) (w : World) :
    (results fn tmps).run P w =
      ((asAddr (tmps.getD p undef)).run P w).andThen fun a w₁ => ((loadVar ty a).run P w₁).andThen fun v w₂ => ((asAddr (tmps.getD u undef)).run P w₂).andThen fun a₂ w₃ => ((loadVar ty2 a₂).run P w₃).andThen fun v₂ w₄ => .ok (.tuple #[v, v₂]) w₄ := by
  simp only [results, h]
  simp [Sem.run_bind, Result.andThen]
theorem load_one (w : World) (g : Nat) (ty : TypeId) (e : Int) (hu : Try.prog.underlying ty = some (.int .i64)) (hg : w.cell? ⟨g, 0, none⟩ = some (.int .i64 e)) : (loadVar ty ⟨g, 0, none⟩).run Try.prog w = .ok (.int .i64 e) w := by
  simp [loadVar, isAgg, Result.andThen, Sem.run_bind, hg, run_underlying hu]
theorem res_ty2 {fn : Func} {p u : Tmp} (h : fn.results = #[.cell p 39, .cell u 32]) (tmps : Array Value) (w : World) (g g2 : Nat) (a b c : Value) (e : Int) (hp : tmps.getD p undef = .pointer (some ⟨g, 0, none⟩)) (hu : tmps.getD u undef = .pointer (some ⟨g2, 0, none⟩)) (hg : Blk w g 39 #[a, b, c]) (hg2 : Blk w g2 32 #[.int .i64 e]) :
    (results fn tmps).run Try.prog w = .ok (.tuple #[.agg #[a, b, c], .int .i64 e]) w := by
  rw [results_cell_cell h, hp, hu]
  have h2 := run_loadVar_row (P := Try.prog) w g 39 39 #[a, b, c] (0, 0) _ hg Try.underlying39 rfl size39
  have h3 := load_one w g2 32 e Try.underlying32 (hg2.cell 0)
  simp [asAddr, Result.andThen, h2, h3]
set_option maxRecDepth 100000 in
set_option maxHeartbeats 4000000 in
theorem pr_fold43 (nd : Ex → List Ty → Ty × Int) (p1 p2 p3 : Value) (ok : Ex → Prop) (pk : Ty → Prop) (w : World)
    (hok : ∀ t, ok t → ∀ k, k ∈ t.ks → ok k) (hpk : ∀ t l, ok t → (∀ y, y ∈ l → pk y) → l.length = t.ks.length → (nd t l).2 = 0 → pk (nd t l).1)
    (hdo : ∀ w', Below w.heap.size w w' → ∀ t A c l K ck, ok t → Rep w.heap.size w A t → Tys w'.heap.size w' K l → l.length = t.ks.length → (∀ y, y ∈ l → pk y) → Calls Try.prog 44 #[exV t A c, .slice K l.length ck, p1, p2, p3] w' (TyE (nd t l) w'))
    (t : Ex) (A : Option Addr) (c : Nat) (hs : t.sz ≤ 100000000) (hokt : ok t) (hR : Rep w.heap.size w A t) :
    Calls Try.prog 43 #[exV t A c, .func (.func 44) #[] #[p1, p2, p3]] w (TyE (fd ty0 nd t) w) := by
  obtain ⟨W0, hW⟩ : ∃ W0, (((((w.alloc (.cells #[.int .i64 t.op, .int .i64 t.vr, .string t.nm, .slice A t.ks.length c] 24)).alloc (.cells #[.func (.func 44) #[] #[p1, p2, p3]] 72)).alloc (.cells #[.bool false, .int .i64 0, .int .i64 0] 39)).alloc (.cells #[.int .i64 0] 32)).alloc (.cells #[.slice none 0 0] 71)).alloc (.cells #[.nilFunc] 25) = W0 := ⟨_, rfl⟩
  have hBW : Below w.heap.size w W0 := by rw [← hW]; exact Go.Proofs.Ytcdpjodnbegepaa.al (Go.Proofs.Ytcdpjodnbegepaa.al (Go.Proofs.Ytcdpjodnbegepaa.al (Go.Proofs.Ytcdpjodnbegepaa.al (Go.Proofs.Ytcdpjodnbegepaa.al (Go.Proofs.Ytcdpjodnbegepaa.al (Below.refl _ _) _) _) _) _) _) _
  have hWs : W0.heap.size = w.heap.size + 1 + 1 + 1 + 1 + 1 + 1 := by rw [← hW]; simp
  have blk : ∀ (w : World) (g : Nat) (ty : TypeId) (cs : Array Value), w.heap.size = g → Blk (w.alloc (.cells cs ty)) g ty cs := fun w g ty cs e => by rw [← e]; exact Blk.new w ty cs
  have HBK : Hid (Blk W0 (w.heap.size + 1) 72 #[.func (.func 44) #[] #[p1, p2, p3]] ∧ Blk W0 (w.heap.size + 1 + 1) 39 #[.bool false, .int .i64 0, .int .i64 0] ∧ Blk W0 (w.heap.size + 1 + 1 + 1) 32 #[.int .i64 0] ∧ Blk W0 (w.heap.size + 1 + 1 + 1 + 1) 71 #[.slice none 0 0] ∧ Blk W0 (w.heap.size + 1 + 1 + 1 + 1 + 1) 25 #[.nilFunc] ∧ Blk W0 w.heap.size 24 #[.int .i64 t.op, .int .i64 t.vr, .string t.nm, .slice A t.ks.length c]) := Lib.hid (by
    rw [← hW]
    exact ⟨((((blk _ _ _ _ (by simp)).alloc _).alloc _).alloc _).alloc _, (((blk _ _ _ _ (by simp)).alloc _).alloc _).alloc _, ((blk _ _ _ _ (by simp)).alloc _).alloc _, (blk _ _ _ _ (by simp)).alloc _, blk _ _ _ _ (by simp), (((((blk _ _ _ _ rfl).alloc _).alloc _).alloc _).alloc _).alloc _⟩)
  obtain ⟨W, hW2⟩ : ∃ W, W0.setCell ⟨w.heap.size + 1 + 1 + 1 + 1 + 1, 0, none⟩ (.func (.func 63) #[] (fC (w.heap.size + 1 + 1 + 1 + 1 + 1) (w.heap.size + 1 + 1 + 1 + 1) (w.heap.size + 1) (w.heap.size + 1 + 1) (w.heap.size + 1 + 1 + 1))) = W := ⟨_, rfl⟩
  have hBW2 : Below w.heap.size w W := by rw [← hW2]; exact below_set hBW (by omega) _ _
  have hWs2 : W.heap.size = w.heap.size + 1 + 1 + 1 + 1 + 1 + 1 := by rw [← hW2]; simp [hWs]
  have HBK2 : Hid (Blk W (w.heap.size + 1) 72 #[.func (.func 44) #[] #[p1, p2, p3]] ∧ Blk W (w.heap.size + 1 + 1) 39 #[.bool false, .int .i64 0, .int .i64 0] ∧ Blk W (w.heap.size + 1 + 1 + 1) 32 #[.int .i64 0] ∧ Blk W (w.heap.size + 1 + 1 + 1 + 1) 71 #[.slice none 0 0] ∧ Blk W (w.heap.size + 1 + 1 + 1 + 1 + 1) 25 #[.func (.func 63) #[] (fC (w.heap.size + 1 + 1 + 1 + 1 + 1) (w.heap.size + 1 + 1 + 1 + 1) (w.heap.size + 1) (w.heap.size + 1 + 1) (w.heap.size + 1 + 1 + 1))]) := Lib.hid (by
    rw [← hW2]
    obtain ⟨x1, x2, x3, x4, x5, _⟩ := HBK.out
    exact ⟨x1.set_other (by omega) _ _, x2.set_other (by omega) _ _, x3.set_other (by omega) _ _, x4.set_other (by omega) _ _, x5.set_ 0 _⟩)
  have HC := pr_foldT w nd p1 p2 p3 ok pk (w.heap.size + 1 + 1 + 1 + 1 + 1) (w.heap.size + 1 + 1 + 1 + 1) (w.heap.size + 1) (w.heap.size + 1 + 1) (w.heap.size + 1 + 1 + 1) (w.heap.size + 1 + 1 + 1 + 1 + 1 + 1) hok hpk hdo t.sz t (Nat.le_refl _) hs hokt A c (fun b => b = w.heap.size + 1 + 1 + 1 + 1 ∨ b = w.heap.size + 1 + 1 ∨ b = w.heap.size + 1 + 1 + 1 ∨ w.heap.size + 1 + 1 + 1 + 1 + 1 + 1 ≤ b) [] ty0 0 W hR hBW2 (fun b hb => by omega) (fun b hb => by omega) ⟨HBK2.out.2.2.2.2, HBK2.out.1⟩ (by omega) (by omega)
    ⟨⟨by omega, by omega, by omega⟩, ⟨by omega, by omega, by omega⟩, ⟨by omega, by omega, by omega⟩, by omega, none, 0, HBK2.out.2.2.2.1, OwnT.nil _ _, (fun k hk => by cases hk), HBK2.out.2.1, HBK2.out.2.2.1⟩ (by simpa using hs)
  have HCC := Lib.hid HC
  have HWW := Lib.hid hW
  have HWW2 := Lib.hid hW2
  have HBW := Lib.hid hBW2
  obtain ⟨R, hRs⟩ : ∃ R, fd ty0 nd t = R := ⟨_, rfl⟩
  rw [hRs] at HCC ⊢
  obtain ⟨⟨Rb, Rl, Rh⟩, Re⟩ := R
  clear HC hW hW2 hBW hBW2 hok hpk hdo hokt hR hRs blk
  go_enter Try.func43, Try.ntmps43
  go_upto_region 3 with (go_at_call 999)
  rw [HWW.out]
  have a5 : W0.cell? ⟨w.heap.size + 1 + 1 + 1 + 1 + 1, 0, none⟩ = some .nilFunc := HBK.out.2.2.2.2.1.cell 0
  have b5 : W0.frozen? ⟨w.heap.size + 1 + 1 + 1 + 1 + 1, 0, none⟩ = false := HBK.out.2.2.2.2.1.frozen 0
  have l5 := HBK.out.2.2.2.2.1.lt
  have q0 : W0.cell? ⟨w.heap.size, 0, none⟩ = some (.int .i64 t.op) := HBK.out.2.2.2.2.2.cell 0
  have q1 : W0.cell? ⟨w.heap.size, 1, none⟩ = some (.int .i64 t.vr) := HBK.out.2.2.2.2.2.cell 1
  have q2 : W0.cell? ⟨w.heap.size, 2, none⟩ = some (.string t.nm) := HBK.out.2.2.2.2.2.cell 2
  have q3 : W0.cell? ⟨w.heap.size, 3, none⟩ = some (.slice A t.ks.length c) := HBK.out.2.2.2.2.2.cell 3
  have l6 := HBK.out.2.2.2.2.2.lt
  go_wp2_with (go_at_call 63; rw [HWW2.out]; (with_reducible refine HCC.out.mono ?_); rintro e w1 ⟨he, hf, _, D', hi⟩; obtain ⟨_, _, _, _, _, _, _, _, _, k1, k2⟩ := hi; have r0 : w1.cell? ⟨w.heap.size + 1 + 1, 0, none⟩ = _ := k1.cell 0; have r1 : w1.cell? ⟨w.heap.size + 1 + 1, 1, none⟩ = _ := k1.cell 1; have r2 : w1.cell? ⟨w.heap.size + 1 + 1, 2, none⟩ = _ := k1.cell 2; have r3 : w1.frozen? ⟨w.heap.size + 1 + 1, 0, none⟩ = false := k1.frozen 0; have r4 : w1.frozen? ⟨w.heap.size + 1 + 1, 1, none⟩ = false := k1.frozen 1; have r5 : w1.frozen? ⟨w.heap.size + 1 + 1, 2, none⟩ = false := k1.frozen 2; have r6 : w1.cell? ⟨w.heap.size + 1 + 1 + 1, 0, none⟩ = _ := k2.cell 0; have r7 : w1.frozen? ⟨w.heap.size + 1 + 1 + 1, 0, none⟩ = false := k2.frozen 0; have r8 := k1.lt; have r9 := k2.lt; have K1 := Lib.hid k1; have K2 := Lib.hid k2; have HF := Lib.hid (HBW.out.trans (hf.below2 (B := w.heap.size) (fun k hk hs => by omega) (by omega))); clear hf k1 k2; subst he)
  clear a5 b5 q0 q1 q2 q3
  go_region
  all_goals
    go_wp2
    refine bodyPost_ret (res_ty2 rfl _ _ (w.heap.size + 1 + 1) (w.heap.size + 1 + 1 + 1) _ _ _ _ rfl rfl ((((K1.out.set_ 0 _).set_ 1 _).set_ 2 _).set_other (by omega) _ _) ((((K2.out.set_other (by omega) _ _).set_other (by omega) _ _).set_other (by omega) _ _).set_ 0 _)) rfl ⟨rfl, ?_⟩
    exact (below_set (below_set (below_set (below_set HF.out (by omega) _ _) (by omega) _ _) (by omega) _ _) (by omega) _ _).drew
theorem span_in (lo hi : Int) : TyIn (spanS lo hi).1 := by
  unfold spanS
  split
  · unfold TyIn I64 ty0; decide
  · unfold TyIn I64; simp only; omega
theorem tyT_in : TyIn tyT := by unfold TyIn I64 tyT; decide
theorem ty0_in : TyIn ty0 := by unfold TyIn I64 ty0; decide
theorem vspan_in (v : Vr) : TyIn (vspan v).1 := by
  unfold vspan
  split
  · exact tyT_in
  · exact span_in _ _
theorem tyOf_in (t : Ex) (l : List Ty) : TyIn (tyOf t l).1 := by
  unfold tyOf reachS
  (repeat' split) <;> first | exact span_in _ _ | exact tyT_in | exact ty0_in
theorem node_in (vs : List Vr) (nx : Bool) (t : Ex) (l : List Ty) : TyIn (nodeT vs nx t l).1 := by
  unfold nodeT varT
  (repeat' split) <;> first | exact vspan_in _ | exact tyOf_in _ _ | exact ty0_in
theorem own_below {w w' : World} {b n : Nat} {D : DataW Unit} (h : w.ownsMap Try.prog 9 (plainElem Try.prog 3) b n D) (hb : Below w.heap.size w w') : w'.ownsMap Try.prog 9 (plainElem Try.prog 3) b n D :=
  h.kept (row := none) ⟨hb.os, hb.tape, hb.output, hb.size, fun k hk _ => hb.block k hk⟩ (by simp)
/-- The type of a term over variables, and the error. -/
def typS (vs : List Vr) (nx : Bool) (t : Ex) : Ty × Int := if chkE t = 0 then fd ty0 (nodeT vs nx) t else (ty0, chkE t)
set_option maxRecDepth 100000 in
set_option maxHeartbeats 4000000 in
theorem pr_Type (vs : List Vr) (V : Option Addr) (cv : Nat) (t : Ex) (A : Option Addr) (c : Nat) (nx : Bool) (w : World) (hV : Vars w.heap.size w V vs) (hvl : vs.length ≤ 1000000000) (hvn : ∀ i, i < vs.length → (va vs i).nm.size ≤ maxLen) (hR : Rep w.heap.size w A t) (hs : t.sz ≤ 100000000) :
    Calls Try.prog 20 #[.slice V vs.length cv, exV t A c, .bool nx] w (TyE (typS vs nx t) w) := by
  obtain ⟨W0, hW⟩ : ∃ W0, (((w.alloc (.cells #[.slice V vs.length cv] 36)).alloc (.cells #[.int .i64 t.op, .int .i64 t.vr, .string t.nm, .slice A t.ks.length c] 24)).alloc (.cells #[.bool nx] 4)).alloc (.cells #[.bool false, .int .i64 0, .int .i64 0] 39) = W0 := ⟨_, rfl⟩
  have hBW : Below w.heap.size w W0 := by rw [← hW]; exact Go.Proofs.Ytcdpjodnbegepaa.al (Go.Proofs.Ytcdpjodnbegepaa.al (Go.Proofs.Ytcdpjodnbegepaa.al (Go.Proofs.Ytcdpjodnbegepaa.al (Below.refl _ _) _) _) _) _
  have hWs : W0.heap.size = w.heap.size + 1 + 1 + 1 + 1 := by rw [← hW]; simp
  have blk : ∀ (w : World) (g : Nat) (ty : TypeId) (cs : Array Value), w.heap.size = g → Blk (w.alloc (.cells cs ty)) g ty cs := fun w g ty cs e => by rw [← e]; exact Blk.new w ty cs
  have HBK : Hid (Blk W0 w.heap.size 36 #[.slice V vs.length cv] ∧ Blk W0 (w.heap.size + 1) 24 #[.int .i64 t.op, .int .i64 t.vr, .string t.nm, .slice A t.ks.length c] ∧ Blk W0 (w.heap.size + 1 + 1) 4 #[.bool nx] ∧ Blk W0 (w.heap.size + 1 + 1 + 1) 39 #[.bool false, .int .i64 0, .int .i64 0]) := Lib.hid (by
    rw [← hW]
    exact ⟨(((blk _ _ _ _ rfl).alloc _).alloc _).alloc _, ((blk _ _ _ _ (by simp)).alloc _).alloc _, (blk _ _ _ _ (by simp)).alloc _, blk _ _ _ _ (by simp)⟩)
  have HX : Hid (∀ w1, Below W0.heap.size W0 w1 → (Blk w1 w.heap.size 36 #[.slice V vs.length cv] ∧ Blk w1 (w.heap.size + 1) 24 #[.int .i64 t.op, .int .i64 t.vr, .string t.nm, .slice A t.ks.length c] ∧ Blk w1 (w.heap.size + 1 + 1) 4 #[.bool nx] ∧ Blk w1 (w.heap.size + 1 + 1 + 1) 39 #[.bool false, .int .i64 0, .int .i64 0]) ∧ Below w.heap.size w w1 ∧ w.heap.size + 1 + 1 + 1 + 1 ≤ w1.heap.size) := Lib.hid (fun w1 h => by
    obtain ⟨x1, x2, x3, x4⟩ := HBK.out
    exact ⟨⟨x1.below h x1.lt, x2.below h x2.lt, x3.below h x3.lt, x4.below h x4.lt⟩, hBW.trans (h.mono (by omega)), by have := h.size; omega⟩)
  have HCK : Hid (Calls Try.prog 14 #[exV t A c] W0 fun e w' => e = .returned (.int .i64 (chkE t)) ∧ Below W0.heap.size W0 w') := Lib.hid (pr_Check t A c W0 hs (hR.step hBW))
  have HIX : Hid (∀ w1, Below w.heap.size w w1 → Calls Try.prog 42 #[.slice V vs.length cv] w1 (IdxP vs w1)) := Lib.hid (fun w1 h => pr_indices vs V cv w1 (hV.step h) hvl hvn)
  have HFD : Hid (chkE t = 0 → ∀ w2 D bm nm, Below W0.heap.size W0 w2 → Ix D vs → w2.ownsMap Try.prog 9 (plainElem Try.prog 3) bm nm D → Calls Try.prog 43 #[exV t A c, .func (.func 44) #[] #[.pointer (some ⟨w2.heap.size, 0, none⟩), .pointer (some ⟨w.heap.size + 1 + 1, 0, none⟩), .pointer (some ⟨w.heap.size, 0, none⟩)]] (w2.alloc (.cells #[.map (some bm)] 68)) (TyE (fd ty0 (nodeT vs nx) t) (w2.alloc (.cells #[.map (some bm)] 68)))) := Lib.hid (fun h0 w2 D bm nm hb hix hown => by
    have hb2 : Below W0.heap.size W0 (w2.alloc (.cells #[.map (some bm)] 68)) := hb.alloc hb.size _
    have hbw := (HX.out _ hb2).2.1
    refine pr_fold43 (nodeT vs nx) _ _ _ Good TyIn _ (fun t h k hk => h.kid hk) (fun t l _ _ _ _ => node_in vs nx t l) (fun w' h' t A c l K ck hok hR2 hT hl hy => ?_) t A c hs (chkE_good h0) (hR.step hbw)
    have hb3 : Below W0.heap.size W0 w' := hb2.trans (h'.mono hb2.size)
    obtain ⟨⟨x1, x2, x3, x4⟩, y1, y2⟩ := HX.out _ hb3
    have z1 : Blk w' w2.heap.size 68 #[.map (some bm)] := (Blk.new w2 68 _).below h' (by simp)
    have hsz := hb2.size
    exact pr_Type1 vs nx D w2.heap.size (w.heap.size + 1 + 1) w.heap.size bm nm V cv t A c l K ck w' (z1.cell 0) (x3.cell 0) (x1.cell 0) z1.lt x3.lt x1.lt (own_below (hown.alloc _) h') hix (hV.step y1) hvl hok (hR2.step h') hT hl hy)
  have X : Hid (typS vs nx t = if chkE t = 0 then fd ty0 (nodeT vs nx) t else (ty0, chkE t)) := Lib.hid rfl
  have HWW := Lib.hid hW
  rw [X.out]
  obtain ⟨E, hE⟩ : ∃ E, chkE t = E := ⟨_, rfl⟩
  rw [hE] at HCK HFD ⊢
  have l0 : w.heap.size < W0.heap.size := HBK.out.1.lt
  have l1 : w.heap.size + 1 < W0.heap.size := HBK.out.2.1.lt
  have q0 : W0.cell? ⟨w.heap.size + 1, 0, none⟩ = some (.int .i64 t.op) := HBK.out.2.1.cell 0
  have q1 : W0.cell? ⟨w.heap.size + 1, 1, none⟩ = some (.int .i64 t.vr) := HBK.out.2.1.cell 1
  have q2 : W0.cell? ⟨w.heap.size + 1, 2, none⟩ = some (.string t.nm) := HBK.out.2.1.cell 2
  have q3 : W0.cell? ⟨w.heap.size + 1, 3, none⟩ = some (.slice A t.ks.length c) := HBK.out.2.1.cell 3
  clear hW hBW hR hV hvl hvn hs hE blk X
  by_cases h0 : E = 0
  · rw [if_pos h0]
    subst h0
    obtain ⟨R, hR⟩ : ∃ R, fd ty0 (nodeT vs nx) t = R := ⟨_, rfl⟩
    rw [hR] at HFD ⊢
    obtain ⟨⟨Rb, Rl, Rh⟩, Re⟩ := R
    clear hR
    go_enter Try.func20, Try.ntmps20
    go_upto_region 1 with (go_at_call 999)
    rw [HWW.out]
    go_wp2_with (first
      | (go_at_call 14; (with_reducible refine HCK.out.mono ?_); rintro e w1 ⟨rfl, hb1⟩; obtain ⟨⟨x1, x2, x3, x4⟩, y1, y2⟩ := HX.out _ hb1; have p1 : w1.cell? ⟨w.heap.size, 0, none⟩ = some (.slice V vs.length cv) := x1.cell 0; have p2 := x1.lt; have HB1 := Lib.hid hb1; have HY1 := Lib.hid y1; clear hb1 x1 x2 x3 x4 y1)
      | (go_at_call 42; (with_reducible refine (HIX.out _ HY1.out).mono ?_); rintro e w2 ⟨rfl, hD, hb2⟩; have hb3 := HB1.out.trans (hb2.mono HB1.out.size); obtain ⟨⟨x1, x2, x3, x4⟩, y1, y3⟩ := HX.out _ hb3; have s0 : w2.cell? ⟨w.heap.size + 1, 0, none⟩ = some (.int .i64 t.op) := x2.cell 0; have s1 : w2.cell? ⟨w.heap.size + 1, 1, none⟩ = some (.int .i64 t.vr) := x2.cell 1; have s2 : w2.cell? ⟨w.heap.size + 1, 2, none⟩ = some (.string t.nm) := x2.cell 2; have s3 : w2.cell? ⟨w.heap.size + 1, 3, none⟩ = some (.slice A t.ks.length c) := x2.cell 3; have s4 := x2.lt; have HB3 := Lib.hid hb3; have HDD := Lib.hid hD; clear hb2 hb3 x1 x2 x3 x4 y1 hD)
      | (go_at_call 43; obtain ⟨D, hix, hown⟩ := HDD.out; (with_reducible refine (HFD.out (by trivial) _ D _ _ HB3.out hix hown).mono ?_); rintro e w5 ⟨rfl, hb5⟩; have hb6 := (HB3.out.alloc HB3.out.size (.cells #[.map (some w1.heap.size)] 68)).trans (hb5.mono (by have := HB3.out.size; simp; omega)); obtain ⟨⟨x1, x2, x3, x4⟩, y1, y4⟩ := HX.out _ hb6; have r0 : w5.cell? ⟨w.heap.size + 1 + 1 + 1, 0, none⟩ = _ := x4.cell 0; have r1 : w5.cell? ⟨w.heap.size + 1 + 1 + 1, 1, none⟩ = _ := x4.cell 1; have r2 : w5.cell? ⟨w.heap.size + 1 + 1 + 1, 2, none⟩ = _ := x4.cell 2; have r3 : w5.frozen? ⟨w.heap.size + 1 + 1 + 1, 0, none⟩ = false := x4.frozen 0; have r4 : w5.frozen? ⟨w.heap.size + 1 + 1 + 1, 1, none⟩ = false := x4.frozen 1; have r5 : w5.frozen? ⟨w.heap.size + 1 + 1 + 1, 2, none⟩ = false := x4.frozen 2; have r6 := x4.lt; have G1 := Lib.hid x4; have HB6 := Lib.hid y1; clear hb5 hb6 x1 x2 x3 x4 y1 hix hown))
    refine bodyPost_ret (res_ty rfl _ _ (w.heap.size + 1 + 1 + 1) _ _ _ rfl (((G1.out.set_ 0 _).set_ 1 _).set_ 2 _)) rfl ⟨rfl, ?_⟩
    exact below_set (below_set (below_set HB6.out (by omega) _ _) (by omega) _ _) (by omega) _ _
  · rw [if_neg h0]
    have h1 : (E == 0) = false := by simp [h0]
    have h2 : (E != 0) = true := by simp [h0]
    clear h0
    go_enter Try.func20, Try.ntmps20
    go_upto_region 1 with (go_at_call 999)
    rw [HWW.out]
    go_wp2_with (first
      | (go_at_call 14; (with_reducible refine HCK.out.mono ?_); rintro e w1 ⟨rfl, hb1⟩; obtain ⟨⟨x1, x2, x3, x4⟩, y1, y2⟩ := HX.out _ hb1; have r0 : w1.cell? ⟨w.heap.size + 1 + 1 + 1, 0, none⟩ = _ := x4.cell 0; have r1 : w1.cell? ⟨w.heap.size + 1 + 1 + 1, 1, none⟩ = _ := x4.cell 1; have r2 : w1.cell? ⟨w.heap.size + 1 + 1 + 1, 2, none⟩ = _ := x4.cell 2; have r3 : w1.frozen? ⟨w.heap.size + 1 + 1 + 1, 0, none⟩ = false := x4.frozen 0; have r4 : w1.frozen? ⟨w.heap.size + 1 + 1 + 1, 1, none⟩ = false := x4.frozen 1; have r5 : w1.frozen? ⟨w.heap.size + 1 + 1 + 1, 2, none⟩ = false := x4.frozen 2; have r6 := x4.lt; have G1 := Lib.hid x4; have HB6 := Lib.hid y1; clear hb1 x1 x2 x3 x4 y1))
    refine bodyPost_ret (res_ty rfl _ _ (w.heap.size + 1 + 1 + 1) _ _ _ rfl (((G1.out.set_ 0 _).set_ 1 _).set_ 2 _)) rfl ⟨rfl, ?_⟩
    exact below_set (below_set (below_set HB6.out (by omega) _ _) (by omega) _ _) (by omega) _ _
end Go.Proofs.Ytcdpjodnbegepaa
