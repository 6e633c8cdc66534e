/- Iterators that keep their place in a captured cell (block g0): the contract, and the law of a range over such a function; layer 28 (events). -/
import Derived.Test.YtfppplalgdopjaaDoorE7
import Derived.RangeFuncNested
import Derived.RangeFuncBound
import Derived.RangeFuncLeaves
import Derived.StillTailTactics
import Derived.TacticsIn
import Derived.OrdersIn
namespace Go.Proofs.YtfppplalgdopjaaDoor
open Go.RowKit

/-- The blocks of S lie as they lay. -/
def Kept (S : Nat → Prop) (W W' : World) : Prop := ∀ b, S b → W'.heap[b]? = W.heap[b]?
theorem Kept.refl (S : Nat → Prop) (W : World) : Kept S W W := fun _ _ => rfl
theorem Kept.trans {S : Nat → Prop} {A B C : World} (h : Kept S A B) (k : Kept S B C) : Kept S A C := fun b hb => (k b hb).trans (h b hb)
theorem Kept.below {S : Nat → Prop} {n : Nat} {A B : World} (h : Below n A B) (hS : ∀ b, S b → b < n) : Kept S A B := fun b hb => h.block b (hS b hb)
theorem Kept.grown {S : Nat → Prop} {A B : World} {row : Option Nat} (h : A.grownBy B row) (hS : ∀ b, S b → b < A.heap.size) (hr : ∀ b, row = some b → ¬ S b) : Kept S A B :=
  fun b hb => h.block b (hS b hb) (fun e => hr b e.symm hb)
theorem Kept.put {S : Nat → Prop} {A : World} {r : Nat} (hr : ¬ S r) (o : Obj) : Kept S A (A.putObj r o) :=
  fun _ hb => World.putObj_heap_other (fun e => hr (by rw [← e]; exact hb))
theorem Kept.set {S : Nat → Prop} {A : World} {p : Addr} (hr : ¬ S p.block) (u : Value) : Kept S A (A.setCell p u) :=
  fun b hb => Below.heap_setCell A p u b (fun e => hr (by rw [← e]; exact hb))
theorem Kept.alloc {S : Nat → Prop} {A : World} (hS : ∀ b, S b → b < A.heap.size) (o : Obj) : Kept S A (A.alloc o) :=
  fun b hb => Below.heap_alloc A o b (hS b hb)
theorem KeepsFrom.mono {B B' : Nat} {W W' : World} (h : KeepsFrom B W W') (hB : B ≤ B') : KeepsFrom B' W W' :=
  ⟨h.size, fun k o hk => h.same k o (Nat.le_trans hB hk)⟩
/-- Whatever is no cells, or cells of a type in Pt, and lies at or beyond B, lies as it lay. -/
def isPrv (Pt : TypeId → Bool) : Obj → Bool
  | .cells _ t _ => Pt t
  | _ => true
structure KeepsP (Pt : TypeId → Bool) (B : Nat) (W W' : World) : Prop where
  size : W.heap.size ≤ W'.heap.size
  same : ∀ (k : Nat) (o : Obj), B ≤ k → W.heap[k]? = some o → isPrv Pt o = true → W'.heap[k]? = some o
theorem isPrv_not {Pt : TypeId → Bool} {o : Obj} (h : o.isCells = false) : isPrv Pt o = true := by
  cases o <;> first | rfl | (cases h)
theorem KeepsP.refl (Pt : TypeId → Bool) (B : Nat) (W : World) : KeepsP Pt B W W := ⟨Nat.le_refl _, fun _ _ _ h _ => h⟩
theorem KeepsP.trans {Pt : TypeId → Bool} {B : Nat} {X Y Z : World} (h : KeepsP Pt B X Y) (k : KeepsP Pt B Y Z) : KeepsP Pt B X Z :=
  ⟨Nat.le_trans h.size k.size, fun i o hB hi ho => k.same i o hB (h.same i o hB hi ho) ho⟩
theorem KeepsP.mono {Pt Pt' : TypeId → Bool} {B B' : Nat} {W W' : World} (h : KeepsP Pt B W W') (hB : B ≤ B') (hP : ∀ t, Pt' t = true → Pt t = true) : KeepsP Pt' B' W W' :=
  ⟨h.size, fun k o hk ho hp => h.same k o (Nat.le_trans hB hk) ho (by cases o <;> first | rfl | exact hP _ hp)⟩
theorem KeepsP.from {Pt : TypeId → Bool} {B : Nat} {W W' : World} (h : KeepsP Pt B W W') : KeepsFrom B W W' := ⟨h.size, fun k o hk ho hc => h.same k o hk ho (isPrv_not hc)⟩
theorem KeepsP.grown {Pt : TypeId → Bool} {B : Nat} {A C : World} {row : Option Nat} (h : A.grownBy C row) (hr : ∀ b, row = some b → b < B ∨ ∀ o, A.heap[b]? = some o → isPrv Pt o = false) : KeepsP Pt B A C :=
  ⟨h.size, fun k o hk ho hp => (h.block k (Array.getElem?_eq_some_iff.1 ho).1 (fun e => by
    rcases hr k e.symm with h1 | h1
    · omega
    · rw [h1 o ho] at hp; cases hp)).trans ho⟩
theorem KeepsP.below {Pt : TypeId → Bool} {B : Nat} {A C : World} (h : Below A.heap.size A C) : KeepsP Pt B A C :=
  ⟨h.size, fun k _ _ ho _ => (h.block k (Array.getElem?_eq_some_iff.1 ho).1).trans ho⟩
theorem KeepsP.put {Pt : TypeId → Bool} {B : Nat} (W : World) {l : Nat} (h : l < B) (o : Obj) : KeepsP Pt B W (W.putObj l o) :=
  KeepsP.grown (grownBy_putObj' W l o) (fun j e => by cases e; exact .inl h)
theorem KeepsP.set {Pt : TypeId → Bool} {B : Nat} (W : World) (b i : Nat) (u : Value) (h : b < B ∨ ∀ o, W.heap[b]? = some o → isPrv Pt o = false) : KeepsP Pt B W (W.setCell ⟨b, i, none⟩ u) :=
  ⟨(KeepsWalks.setCell W _ u).size, fun k o hk ho hp => (Below.heap_setCell W _ u k (fun e => by
    simp only at e
    subst e
    rcases h with h1 | h1
    · omega
    · rw [h1 o ho] at hp; cases hp)).trans ho⟩
theorem OwnFrom.mono {β : Type} {B B' : Nat} {I : β → World → Prop} (h : OwnFrom B I) (hB : B ≤ B') : OwnFrom B' I :=
  fun s A C row hs hg hr => h s A C row hs hg (fun r e => ⟨Nat.le_trans hB (hr r e).1, (hr r e).2⟩)

/-- **The function value (g, lb) yields the values xs, one by one**, in whatever world later than w, whatever the rounds do that keep the blocks S, unless a round says no more. -/
def Iter (P : Program) (g0 g : Nat) (lb : Array Value) (Pt : TypeId → Bool) (S : Nat → Prop) (n : Nat) (R : Nat → Array Value → World → Prop) (w : World) : Prop :=
  ∀ (l : Nat) (J Jx : Nat → World → Prop) (W : World), Below w.heap.size w W → OwnFrom W.heap.size J → OwnFrom W.heap.size Jx →
    (∀ (k : Nat) (x : Array Value) (W1 : World), k < n → R k x W1 → J k W1 → YieldAt Fence.wide 0 P l x W1 fun e W' =>
      (e = .returned (.bool true) ∧ J (k + 1) W' ∧ KeepsP Pt W.heap.size W1 W' ∧ Kept S W1 W') ∨ (e = .returned (.bool false) ∧ Jx (k + 1) W' ∧ KeepsP Pt W.heap.size W1 W')) →
    (∀ B, Below W.heap.size W B → J 0 B) → (∀ k X u, J k X → J k (X.setCell ⟨g0, 0, none⟩ u)) → (∀ k X u, Jx k X → Jx k (X.setCell ⟨g0, 0, none⟩ u)) →
    CallsIn Fence.wide 0 P g (#[.func (.yield l) #[] #[]] ++ lb) W fun e W' => (∃ v, e = .returned v) ∧ (J n W' ∨ ∃ k, k < n ∧ Jx (k + 1) W')

theorem Iter.later {P : Program} {g0 g : Nat} {lb : Array Value} {Pt : TypeId → Bool} {S : Nat → Prop} {n : Nat} {R : Nat → Array Value → World → Prop} {w w' : World} (h : Iter P g0 g lb Pt S n R w) (hb : Below w.heap.size w w') : Iter P g0 g lb Pt S n R w' :=
  fun l J Jx W hW => h l J Jx W (hb.trans (hW.mono hb.size))

/-- How the body of round k may be left. -/
def roundEnd (Pt : TypeId → Bool) (B : Nat) (S : Nat → Prop) (I : Nat → World → Prop) (Ix : Code → Nat → World → Prop) (k : Nat) (W : World) : Exit → Act → World → Prop
  | .normal, _, W' => KeepsP Pt B W W' ∧ Kept S W W' ∧ I (k + 1) W'
  | .ret, _, W' => KeepsP Pt B W W' ∧ Ix .ret (k + 1) W'
  | .exit id, _, W' => KeepsP Pt B W W' ∧ Ix (.exit id) (k + 1) W'
  | .goto t, _, W' => KeepsP Pt B W W' ∧ Ix (.goto t) (k + 1) W'
  | .panic _, _, _ => False
  | .outgrown, _, _ => False

/-- **A range over a function, outside every round.** -/
theorem wp_range {P : Program} {g : Operand} {ps : Array Tmp} {assign body : Code} {Q : Exit → Act → World → Prop} {a : Act} {w : World}
    {gf : Nat} {lb : Array Value} (hg : a.eval g = .func (.func gf) #[] lb) (eg : ∀ args w, (callFunc gf args).run P w = .ok (.enter gf args) w)
    {Pt : TypeId → Bool} {S : Nat → Prop} {n : Nat} {R : Nat → Array Value → World → Prop} {w0 : World} {g0 : Nat} (hseq : Iter P g0 gf lb Pt S n R w0) (hg0 : g0 < w.heap.size) (hb0 : Below w0.heap.size w0 w) (hS : ∀ b, S b → b < w.heap.size) (hps : ∀ (k : Nat) (x : Array Value) (W : World), R k x W → x.size = ps.size)
    (I : Nat → World → Prop) (Ix : Code → Nat → World → Prop) (hIm : ∀ k X u, I k X → I k (X.setCell ⟨g0, 0, none⟩ u)) (hIxm : ∀ c k X u, Ix c k X → Ix c k (X.setCell ⟨g0, 0, none⟩ u)) (hI : OwnFrom w.heap.size I) (hIx : ∀ c, OwnFrom w.heap.size (Ix c)) (h0 : ∀ B, Below w.heap.size w B → I 0 B) (Ax : Nat → Act → World → Prop) (hAx : ∀ k a', OwnFrom w.heap.size (fun (_ : Unit) W => Ax k a' W))
    (hassign : ∀ (l k : Nat) (x : Array Value) (W : World) (K : Act → World → Prop), k < n → R k x W → I k W → w.heap.size ≤ W.heap.size → (∀ a' W', KeepsP Pt w.heap.size W W' → Kept S W W' → I k W' → Ax k a' W' → K a' W') →
      assign.wpIn (Fence.wide.inRound l) 0 P (Exit.then K (fun _ _ _ => False)) { tmps := (ps.zip x).foldl (fun t (p, v) => t.setIfInBounds p v) a.tmps, defers := [] } W)
    (hbody : ∀ (l k : Nat) (a' : Act) (W : World), k < n → I k W → Ax k a' W → w.heap.size ≤ W.heap.size → body.wpIn (Fence.wide.inRound l) 0 P (roundEnd Pt w.heap.size S I Ix k W) a' W)
    (hdone : ∀ (D : Nat) (W : World), w.heap.size ≤ D → I n W → W.heap[D]? = some (.deferred (some [])) → Q .normal { a with defers := { target := .collected D, args := #[] } :: a.defers } W)
    (hstop : ∀ (D : Nat) (c : Code) (k : Nat) (W : World), w.heap.size ≤ D → k < n → Ix c (k + 1) W → W.heap[D]? = some (.deferred (some [])) → c.wpIn Fence.wide 0 P Q { a with defers := { target := .collected D, args := #[] } :: a.defers } W) :
    (Code.rangeFunc g ps assign body).wpIn Fence.wide 0 P Q a w := by
  refine wpIn_rangeFunc fun fn _ => ?_
  have hz : w.heap.size ≤ w.heap.size := Nat.le_refl _
  generalize hB : w.heap.size = B at *
  obtain ⟨mk, hmk⟩ : ∃ mk : LoopState → Option Code → Loop, mk = fun st pe => { state := st, pending := pe, fn, tmps := a.tmps, params := ps, assign, body, defers := B } := ⟨_, rfl⟩
  obtain ⟨V, hV⟩ : ∃ V, (w.alloc (.deferred (some []))).alloc (.loop (mk .ready none)) = V := ⟨_, rfl⟩
  have hVz : V.heap.size = B + 2 := by rw [← hV, World.size_alloc, World.size_alloc, hB]
  have hVb : Below B w V := by rw [← hV]; exact ((Below.refl _ _).alloc (by omega) _).alloc (by rw [World.size_alloc]; omega) _
  have hL : V.heap[B + 1]? = some (.loop (mk .ready none)) := by
    have h := World.alloc_heap_new (w.alloc (.deferred (some []))) (.loop (mk .ready none)); rw [World.size_alloc, hB, hV] at h; exact h
  have hD : V.heap[B]? = some (.deferred (some [])) := by
    rw [← hV, Below.heap_alloc _ _ _ (by rw [World.size_alloc]; omega)]
    have h := World.alloc_heap_new w (.deferred (some [])); rwa [hB] at h
  refine ⟨B + 1, [{ target := .collected B, args := #[] }], V, { target := .fn (.func gf) lb, args := #[.func (.yield (B + 1)) #[] #[]] }, V, gf, #[.func (.yield (B + 1)) #[] #[]] ++ lb, V, ?_, ?_, ?_, ?_, ?_, ?_⟩
  · have h := run_enterLoop_outer (P := P) (w := w) fn a.tmps ps assign body
    rw [hB] at h
    rw [← hV, hmk]
    exact h
  · simp only [resolve, hg]
    simp [go_sem]
  · intro _ _; trivial
  · simp [invoke, go_sem, eg]
  · intro h; cases h
  · refine (hseq (B + 1) (fun k W => (I k W ∧ B + 2 ≤ W.heap.size) ∧ W.heap[B + 1]? = some (.loop (mk .ready none)) ∧ W.heap[B]? = some (.deferred (some [])))
      (fun k W => ∃ c, Ix c k W ∧ W.heap[B + 1]? = some (.loop (mk .done (some c))) ∧ W.heap[B]? = some (.deferred (some [])))
      V (hb0.trans (hVb.mono (by have := hb0.size; omega))) ?_ ?_ ?_ ?_ ?_ ?_).mono ?_
    · intro k X Y row ⟨⟨h1, h4⟩, h2, h3⟩ hgr hr
      refine ⟨⟨(OwnFrom.mono hI (by omega)) k X Y row h1 hgr hr, Nat.le_trans h4 hgr.size⟩, ?_, ?_⟩
      · exact (hgr.block _ (by omega) (fun e => by have := (hr _ e.symm).1; omega)).trans h2
      · exact (hgr.block _ (by omega) (fun e => by have := (hr _ e.symm).1; omega)).trans h3
    · intro k X Y row ⟨c, h1, h2, h3⟩ hgr hr
      refine ⟨c, (OwnFrom.mono (hIx c) (by omega)) k X Y row h1 hgr hr, ?_, ?_⟩
      · exact (hgr.block _ ((Array.getElem?_eq_some_iff.1 h2).1) (fun e => by have := (hr _ e.symm).1; omega)).trans h2
      · exact (hgr.block _ ((Array.getElem?_eq_some_iff.1 h3).1) (fun e => by have := (hr _ e.symm).1; omega)).trans h3
    · intro k x W hkn hx ⟨⟨hi, hsz⟩, hl, hd⟩
      have hy := run_yield (P := P) (args := x) hl (by rw [hmk]; exact hps k x W hx)
      rw [hmk] at hy
      refine ⟨fn, _, assign, body, hy, roundIn_of_wpIn trivial (hassign _ k x W _ hkn hx hi (by omega) ?_)⟩
      intro a' Y hYk hYs hi hax
      have hYz := hYk.size
      replace hl := hYk.same _ _ (by omega) hl (isPrv_not rfl)
      replace hd := hYk.same _ _ (by omega) hd (isPrv_not rfl)
      refine ⟨_, run_beginRound hl (by rw [hmk]), ?_⟩
      obtain ⟨X, hX⟩ : ∃ X, Y.putObj (B + 1) (.loop { mk .ready none with state := .busy }) = X := ⟨_, rfl⟩
      rw [hX]
      have hXl : X.heap[B + 1]? = some (.loop { mk .ready none with state := .busy }) := by rw [← hX]; exact World.putObj_heap_same (by omega)
      have hXd : X.heap[B]? = some (.deferred (some [])) := by rw [← hX]; exact (World.putObj_heap_other (by omega)).trans hd
      have hXz : X.heap.size = Y.heap.size := by rw [← hX]; exact World.putObj_size
      have hXi : I k X := by rw [← hX]; exact hI.putObj _ hi (by omega) hl rfl
      have hXf : KeepsP Pt (B + 2) W X := by rw [← hX]; exact (KeepsP.mono hYk (by omega) (fun _ h => h)).trans (KeepsP.put Y (by omega) _)
      have hXk : Kept S W X := by rw [← hX]; exact hYs.trans (Kept.put (fun h => by have := hS _ h; omega) _)
      have hXa : Ax k a' X := by rw [← hX]; exact (hAx k a').putObj (s := ()) _ hax (by omega) hl rfl
      refine wpIn_mono (hbody _ k a' X hkn hXi hXa (by omega)) ?_
      have fin : ∀ (j : Option Code) (Z : World), KeepsP Pt B X Z → (Instr.endRound (B + 1) j).run P Z = .ok (.bool j.isNone) (Z.putObj (B + 1) (.loop (mk (if j.isNone then .ready else .done) j))) ∧
          Z.heap[B + 1]? = some (.loop { mk .ready none with state := .busy }) ∧ (Z.putObj (B + 1) (.loop (mk (if j.isNone then .ready else .done) j))).heap[B + 1]? = some (.loop (mk (if j.isNone then .ready else .done) j)) ∧
          (Z.putObj (B + 1) (.loop (mk (if j.isNone then .ready else .done) j))).heap[B]? = some (.deferred (some [])) := fun j Z hk => by
        have hZ := hk.same _ _ (by omega) hXl (isPrv_not rfl)
        have hr := run_endRound (P := P) j hZ
        rw [hmk] at hr hZ ⊢
        exact ⟨hr, hZ, World.putObj_heap_same (Array.getElem?_eq_some_iff.1 hZ).1, (World.putObj_heap_other (by omega)).trans (hk.same _ _ (by omega) hXd (isPrv_not rfl))⟩
      rintro e b Z hp
      cases e with
      | normal =>
        obtain ⟨hk, hs, hi2⟩ := hp
        obtain ⟨hr, h1, h2, h3⟩ := fin none Z hk
        refine ⟨_, _, hr, .inl ⟨rfl, ⟨⟨hI.putObj _ hi2 (by omega) h1 rfl, ?_⟩, h2, h3⟩, ?_, ?_⟩⟩
        · rw [World.putObj_size]; have := hk.size; omega
        · rw [hVz]
          exact (hXf.trans (KeepsP.mono hk (by omega) (fun _ h => h))).trans (KeepsP.put Z (by omega) _)
        · exact (hXk.trans hs).trans (Kept.put (fun h => by have := hS _ h; omega) _)
      | ret =>
        obtain ⟨hk, hi2⟩ := hp
        obtain ⟨hr, h1, h2, h3⟩ := fin (some .ret) Z hk
        exact ⟨_, _, hr, .inr ⟨rfl, ⟨.ret, (hIx _).putObj _ hi2 (by omega) h1 rfl, h2, h3⟩, by rw [hVz]; exact (hXf.trans (KeepsP.mono hk (by omega) (fun _ h => h))).trans (KeepsP.put Z (by omega) _)⟩⟩
      | exit id =>
        obtain ⟨hk, hi2⟩ := hp
        obtain ⟨hr, h1, h2, h3⟩ := fin (some (.exit id)) Z hk
        exact ⟨_, _, hr, .inr ⟨rfl, ⟨.exit id, (hIx _).putObj _ hi2 (by omega) h1 rfl, h2, h3⟩, by rw [hVz]; exact (hXf.trans (KeepsP.mono hk (by omega) (fun _ h => h))).trans (KeepsP.put Z (by omega) _)⟩⟩
      | goto t =>
        obtain ⟨hk, hi2⟩ := hp
        obtain ⟨hr, h1, h2, h3⟩ := fin (some (.goto t)) Z hk
        exact ⟨_, _, hr, .inr ⟨rfl, ⟨.goto t, (hIx _).putObj _ hi2 (by omega) h1 rfl, h2, h3⟩, by rw [hVz]; exact (hXf.trans (KeepsP.mono hk (by omega) (fun _ h => h))).trans (KeepsP.put Z (by omega) _)⟩⟩
      | panic ch => exact hp.elim
      | outgrown => exact hp.elim
    · intro X hX
      refine ⟨⟨h0 X (hVb.trans (hX.mono (by omega))), by have := hX.size; omega⟩, (hX.block _ (by omega)).trans hL, (hX.block _ (by omega)).trans hD⟩
    · intro k X u ⟨⟨h1, h4⟩, h2, h3⟩
      exact ⟨⟨hIm k X u h1, by rw [World.size_setCell]; exact h4⟩, (Below.heap_setCell X _ u _ (by show B + 1 ≠ g0; omega)).trans h2, (Below.heap_setCell X _ u _ (by show B ≠ g0; omega)).trans h3⟩
    · intro k X u ⟨c, h1, h2, h3⟩
      exact ⟨c, hIxm c k X u h1, (Below.heap_setCell X _ u _ (by show B + 1 ≠ g0; omega)).trans h2, (Below.heap_setCell X _ u _ (by show B ≠ g0; omega)).trans h3⟩
    · rintro e Z ⟨⟨v, rfl⟩, (⟨⟨hi, _⟩, hl, hd⟩ | ⟨k, hk, c, hi, hl, hd⟩)⟩
      · have hr := run_endLoop (P := P) hl (by rw [hmk]; simp)
        rw [hmk] at hr
        exact ⟨none, _, hr, hdone _ _ (Nat.le_refl _) (hI.putObj _ hi (by omega) hl rfl) ((World.putObj_heap_other (by omega)).trans hd)⟩
      · have hr := run_endLoop (P := P) hl (by rw [hmk]; simp)
        rw [hmk] at hr
        exact ⟨some c, _, hr, hstop _ c k _ (Nat.le_refl _) hk ((hIx c).putObj _ hi (by omega) hl rfl) ((World.putObj_heap_other (by omega)).trans hd)⟩
/-- A round's contract goes into another round as it is. -/
theorem RoundIn.inRoundR {P : Program} {l : Nat} {f : FuncId} {tmps : Array Value} {assign body : Code} {w : World} {R : Ending → World → Prop} (l₀ : Nat) (h : RoundIn Fence.wide 0 P l f tmps assign body w R) : RoundIn (Fence.wide.inRound l₀) 0 P l f tmps assign body w R := h
theorem YieldAt.inRound {P : Program} {l : Nat} {args : Array Value} {W : World} {R : Ending → World → Prop} (l₀ : Nat) (h : YieldAt Fence.wide 0 P l args W R) : YieldAt (Fence.wide.inRound l₀) 0 P l args W R := h
/-! A region that reads and ends in one forced tail, within a round. -/
def noDefer (ops : Array Oper) : Bool := ops.all fun o => match o.op with | .defer _ => false | _ => true
theorem noDefer_at {ops : Array Oper} (h : noDefer ops = true) {i : Nat} {o : Oper} (hi : ops[i]? = some o) : ∀ c, o.op ≠ .defer c := by
  intro c hc
  obtain ⟨hlt, he⟩ := Array.getElem?_eq_some_iff.1 hi
  have h2 := Array.all_eq_true.1 h i hlt
  rw [he, hc] at h2
  cases h2
section
variable {P : Program} {ops : Array Oper} {l : Nat} {Q : Exit → Act → World → Prop} {w : World} {md : Region.Mode}
theorem wpIn_of_still {o : Oper} {a : Act} {K : Act → Prop} {K' : Act → World → Prop} (hnd : ∀ c, o.op ≠ .defer c) (h : ∀ a, K a → K' a w) (hh : o.still P a w K) : o.wpIn (Fence.wide.inRound l) 0 P a w K' Q := by
  unfold Oper.still at hh
  refine ⟨fun _ _ => trivial, ?_⟩
  rw [show o.semAt (Fence.wide.inRound l).round a.eval = execOp a.eval o from Oper.semAt_some _ _ _ hnd]
  revert hh
  generalize (execOp a.eval o).run P w = r
  intro hh
  cases r with
  | ok n w' =>
    cases n <;> simp only [Oper.stillUpon] at hh <;> simp only [Oper.uponIn]
    case enter f args =>
      obtain ⟨rfl, v, hc, hn⟩ := hh
      refine ⟨fun h => (by cases h), CallsIn.inRound l (callsIn_wide.2 (hc.mono fun e w'' ⟨he, hw⟩ => ?_))⟩
      subst he
      subst hw
      exact h _ hn
    all_goals (obtain ⟨rfl, h2⟩ := hh; exact h _ h2)
  | halt x w' => simp only [Oper.stillUpon] at hh
theorem wpOpIn_of_stOp {i : Nat} {a : Act} {K : Act → Prop} {K' : Act → World → Prop} (hnd : noDefer ops = true) (h : ∀ a, K a → K' a w) (hh : stOp P ops w i K a) : wpOpIn (Fence.wide.inRound l) 0 P ops Q i K' a w := by
  unfold stOp at hh
  unfold wpOpIn
  cases ho : ops[i]? with
  | none => simp only [ho] at hh; exact h _ hh
  | some o =>
    simp only [ho] at hh ⊢
    by_cases hw : Region.wanted o (yielded ops a.tmps) = true
    · rw [if_pos hw] at hh ⊢
      exact wpIn_of_still (noDefer_at hnd ho) h hh
    · rw [if_neg hw] at hh ⊢
      exact ⟨fun _ _ => trivial, h _ hh⟩
theorem wpAnyIn_of_head {n g : Nat} {L : Array Bool → Act → Prop} (hnd : noDefer ops = true) (hL : ∀ b a, L b a → wpAnyIn (Fence.wide.inRound l) 0 P md ops Q g b a w) :
    ∀ (f : Nat) (b : Array Bool) (a : Act), wpAnyL P md ops w n L f b a → wpAnyIn (Fence.wide.inRound l) 0 P md ops Q (f + g) b a w
  | 0, b, a, h => by rw [Nat.zero_add]; exact hL _ _ h
  | f + 1, b, a, h => by
    rw [show f + 1 + g = (f + g) + 1 by omega]
    exact ⟨fun h0 => absurd h0 h.1, fun i hi => wpOpIn_of_stOp hnd (fun a' h' => wpAnyIn_of_head hnd hL f _ a' h') (h.2 i hi).2⟩
theorem wpAnyIn_of_seq : ∀ (t : List Oper) (k : Nat) (b : Array Bool) (a : Act) (w : World), (∀ j, t[j]? = ops[k + j]?) →
    Region.seqB md ops t.length k b = true → wpListIn (Fence.wide.inRound l) 0 P ops Q t a w → wpAnyIn (Fence.wide.inRound l) 0 P md ops Q t.length b a w
  | [], _, _, _, _, _, hB, h => ⟨by simpa [Region.seqB] using hB, h⟩
  | o :: t, k, b, a, w, hl, hB, h => by
    have h0 : ops[k]? = some o := by simpa using (hl 0).symm
    simp only [List.length_cons, Region.seqB, Bool.and_eq_true, decide_eq_true_eq] at hB
    refine ⟨fun h1 => (by rw [hB.1] at h1; cases h1), fun i hi => ?_⟩
    rw [hB.1] at hi
    have hik : i = k := by simpa using hi
    subst hik
    have hw : wpOpIn (Fence.wide.inRound l) 0 P ops Q i (wpListIn (Fence.wide.inRound l) 0 P ops Q t) a w := by unfold wpOpIn; simp only [h0]; exact h
    exact wpOpIn_mono (fun a' w' h' => wpAnyIn_of_seq t (i + 1) _ a' w' (fun j => by have := hl (j + 1); simpa [Nat.add_assoc, Nat.add_comm 1 j] using this) hB.2 h') hw
theorem uponIn_round {o : Oper} {a : Act} {K : Act → World → Prop} (r : Result Next) (h : o.uponIn Fence.wide 0 P a K Q r) : o.uponIn (Fence.wide.inRound l) 0 P a K Q r := by
  cases r with
  | ok x w' => cases x <;> exact h
  | halt x w' => cases x <;> exact h
theorem wpOpIn_round {i : Nat} {a : Act} {K K' : Act → World → Prop} (hnd : noDefer ops = true) (hK : ∀ a w, K a w → K' a w) (h : wpOpIn Fence.wide 0 P ops Q i K a w) : wpOpIn (Fence.wide.inRound l) 0 P ops Q i K' a w := by
  refine wpOpIn_mono hK ?_
  unfold wpOpIn at h ⊢
  cases ho : ops[i]? with
  | none => simp only [ho] at h; exact h
  | some o =>
    simp only [ho] at h ⊢
    by_cases hw : Region.wanted o (yielded ops a.tmps) = true
    · rw [if_pos hw] at h ⊢
      refine ⟨fun _ _ => trivial, ?_⟩
      rw [show o.semAt (Fence.wide.inRound l).round a.eval = execOp a.eval o from Oper.semAt_some _ _ _ (noDefer_at hnd ho)]
      have h2 := h.2
      rw [show o.semAt Fence.wide.round a.eval = execOp a.eval o from by simp [Fence.wide, Oper.semAt]] at h2
      exact uponIn_round _ h2
    · rw [if_neg hw] at h ⊢
      exact ⟨fun _ _ => trivial, h.2⟩
theorem still_tailR {id : Nat} {a : Act} {t : List Oper} (n : Nat) (hm : P.follows .mixedOrders = true) (hB : Region.lexTailB .any t.toArray n = true) (hnd : noDefer t.toArray = true)
    (h : ∀ w2, w2 = w.drew → wpStill P t.toArray w2 (fun a' => wpListIn (Fence.wide.inRound l) 0 P t.toArray Q (t.drop n) a' w2) (t.take n) a) : (Code.region id t.toArray true).wpIn (Fence.wide.inRound l) 0 P Q a w := by
  simp only [Region.lexTailB, Bool.and_eq_true, decide_eq_true_eq] at hB
  obtain ⟨⟨⟨⟨hsel, hn⟩, hs⟩, hc⟩, hlex⟩ := hB
  have hn' : n < t.length := by simpa using hn
  have htl : (t.take n).length = n := by simp; omega
  have hdl : (t.drop n).length = t.toArray.size - n := by simp
  have inv0 : HeadInv .any t.toArray n (Array.replicate t.toArray.size false) :=
    ⟨by simp, fun j oj _ hl => (by rw [getD_replicate_false] at hl; cases hl), fun q _ ht => getD_in (by simpa using ht) (getD_replicate_false _ _)⟩
  have H := wpAnyL_lex (md := .any) (g := t.toArray.size - n) hsel hs hc hn (t.take n) 0 _ a (fun j hj => by
    have hj' : j < n := by rw [htl] at hj; exact hj
    simp [hj']) (by simpa using htl) inv0 (by rw [htl]; exact hlex) (h _ rfl)
  refine wpIn_region_any hm ?_
  have h3 := wpAnyIn_of_head (l := l) (Q := Q) (g := t.toArray.size - n) hnd (fun b a' hL => by
    have h4 := wpAnyIn_of_seq (l := l) (md := .any) (Q := Q) (t.drop n) n b a' w.drew (fun j => by simp [List.getElem?_drop]) (by rw [hdl]; exact hL.1) hL.2
    rwa [hdl] at h4) _ _ _ H
  rw [htl, show n + (t.toArray.size - n) = t.toArray.size by omega] at h3
  exact h3
end
end Go.Proofs.YtfppplalgdopjaaDoor
