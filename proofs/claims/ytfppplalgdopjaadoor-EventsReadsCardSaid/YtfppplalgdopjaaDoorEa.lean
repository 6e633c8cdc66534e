/- Parse, its loop over the lines; layer 28 (events). -/
import Derived.Test.YtfppplalgdopjaaDoorE9
namespace Go.Proofs.YtfppplalgdopjaaDoor
open Go.RowKit Go.Shelf

section
variable {P : Program} {ops : Array Oper} {Q : Exit → Act → World → Prop} {md : Region.Mode} {l : Nat}
/-- A step outside every round is a step in a round. -/
theorem upon_round {o : Oper} {a : Act} {K : Act → World → Prop} {r : Result Next} (h : o.upon P a K Q r) : o.uponIn (Fence.wide.inRound l) 0 P a K Q r := by
  cases r with
  | ok x w' =>
    cases x
    case row row args => exact ⟨fun h0 => (by cases h0), fun c cs _ => let ⟨v, w', r, s⟩ := h c cs; ⟨v, w', r, stepsIn_wide.2 s⟩⟩
    case enter f args =>
      refine ⟨fun h0 => (by cases h0), CallsIn.inRound l (callsIn_wide.2 (Calls.mono h fun e w'' hh => ?_))⟩
      cases e <;> exact hh
    all_goals first
      | exact h
      | exact False.elim h
  | halt x w' => cases x <;> first | exact h | exact False.elim h
theorem rd_step {o : Oper} {a : Act} {w : World} {K : Act → World → Prop} {E : Prop} (hnd : ∀ c, o.op ≠ .defer c) (hg : o.guard = none) (h : Oper.wp P o a w K Q) :
    if Region.wanted o (yielded ops a.tmps) = true then Oper.wpIn (Fence.wide.inRound l) 0 P o a w K Q else E := by
  have hw : Region.wanted o (yielded ops a.tmps) = true := by simp [Region.wanted, hg]
  rw [if_pos hw]
  refine ⟨fun _ _ => trivial, ?_⟩
  rw [show o.semAt (Fence.wide.inRound l).round a.eval = execOp a.eval o from Oper.semAt_some _ _ _ hnd]
  exact upon_round h
end
/-- append of an event to a row of the call's own, as one operation. -/
theorem op_app_ev {o : Oper} {a : Act} {W : World} {K : Act → World → Prop} {Q : Exit → Act → World → Prop} (s x : Operand)
    (ho : o.op = .call { callee := .builtin .append, args := #[s, x], argTypes := #[22, 22] })
    (B n : Nat) (v : Value) (l : List Ev) (hs : a.eval s = v) (hown : W.ownsRow B 47 3 v n (evC l)) (y : Ev) (g : Nat) (hg0 : W.heap.size = g) (hx : a.eval x = .slice (some ⟨g, 0, none⟩) 1 1) (hB : B ≤ W.heap.size) (hn : n ≤ 1000000)
    (h : ∀ A c w', w'.ownsRow B 47 3 (.slice A (n + 1) c) (n + 1) (evC (l ++ [y])) → (W.alloc (.cells #[.int .i64 y.a, .int .i64 y.k, .int .i64 y.l] 47)).grownBy w' v.ownBlock → K (a.put o.dst (.slice A (n + 1) c)) w') :
    Oper.wp Tryd.prog o a (W.alloc (.cells #[.int .i64 y.a, .int .i64 y.k, .int .i64 y.l] 47)) K Q := by
  obtain ⟨i0, hi0, hz0, hz1, hz2⟩ := info_parts info47
  subst hg0
  have hal : Below W.heap.size W (W.alloc (.cells #[.int .i64 y.a, .int .i64 y.k, .int .i64 y.l] 47)) := below_al _
  have hblk := Blk.new W 47 #[.int .i64 y.a, .int .i64 y.k, .int .i64 y.l]
  obtain ⟨v', w', hr, h2, h3, h4, h5⟩ := run_append_own_at (P := Tryd.prog) (W.alloc (.cells #[.int .i64 y.a, .int .i64 y.k, .int .i64 y.l] 47)) B 22 o.type 47 i0 _ 3 24 Tryd.underlying22 hi0 hz0 hz1 hz2 rfl (by decide) v n (evC l) (own_keep hown hal) ⟨W.heap.size, 0, none⟩ 1 1 (evR y) rfl (fun j u hj => by
    have e : (⟨W.heap.size, 0, none⟩ : Addr).add j = ⟨W.heap.size, 0 + j, none⟩ := by unfold Addr.add; split <;> simp_all
    rw [e, Nat.zero_add, hblk.cell]
    simpa [evR] using hj) (by simp [evR, Value.oneCell']) (by unfold maxLen; omega) (by omega) (by simp; omega)
  obtain ⟨A, c, rfl⟩ := owns_slice h2
  unfold Oper.wp execOp
  simp only [ho, resolve, invoke, builtin, Sem.run_bind, Sem.run_pure, Result.andThen_ok, List.map_toArray, List.map_cons, List.map_nil, hs, hx, hr]
  refine h A c w' ?_ h3
  unfold evC at h2 ⊢
  rw [List.flatMap_append]
  simpa using h2
end Go.Proofs.YtfppplalgdopjaaDoor
