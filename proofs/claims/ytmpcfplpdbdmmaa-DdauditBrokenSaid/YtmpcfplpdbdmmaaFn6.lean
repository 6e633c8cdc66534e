/- Rows of findings, and what is found; layer 25 (ddaudit). -/
import Derived.Test.YtmpcfplpdbdmmaaFn5
namespace Go.Proofs.Ytmpcfplpdbdmmaa
open Go.RowKit Go.Maps

structure Fd where
  k : Int
  id : Int
deriving DecidableEq
def fdR (x : Fd) : List Value := [.int .i64 x.k, .int .i64 x.id]
def fdC (l : List Fd) : List Value := l.flatMap fdR
theorem fdC_len (l : List Fd) : (fdC l).length = l.length * 2 := by
  unfold fdC
  induction l with
  | nil => rfl
  | cons x t ih => simp only [List.flatMap_cons, List.length_append, ih, List.length_cons, fdR, List.length_nil]; omega
def OwnF (w : World) (B : Nat) (et : TypeId) (v : Value) (l : List Fd) : Prop := w.ownsRow B et 2 v l.length (fdC l)
theorem info31 : (Try.prog.info? 31).map (fun i => (i.zero, i.size, i.bytes)) = some (some (.agg #[.int .i64 0, .int .i64 0]), 2, 16) := by kernel_rfl
theorem info30 : (Try.prog.info? 30).map (fun i => (i.zero, i.size, i.bytes)) = some (some (.agg #[.int .i64 0, .int .i64 0]), 2, 16) := by kernel_rfl
theorem info_parts {P : Program} {t : TypeId} {z : Option Value} {a b : Nat} (h : (P.info? t).map (fun i => (i.zero, i.size, i.bytes)) = some (z, a, b)) : ∃ i, P.info? t = some i ∧ i.zero = z ∧ i.size = a ∧ i.bytes = b := by
  cases hi : P.info? t with
  | none => rw [hi] at h; cases h
  | some i => rw [hi] at h; simp only [Option.map_some, Option.some.injEq, Prod.mk.injEq] at h; exact ⟨i, rfl, h.1, h.2.1, h.2.2⟩
theorem own_keep {w w' : World} {B e size n : Nat} {v : Value} {xs : List Value} (h : w.ownsRow B e size v n xs) (hb : ∀ b, v.ownBlock = some b → b < w.heap.size → w'.heap[b]? = w.heap[b]?) : w'.ownsRow B e size v n xs := by
  have hlt := fun g => World.ownsRow.lt h g
  obtain ⟨h1, h2⟩ := h
  refine ⟨h1, ?_⟩
  rcases h2 with h2 | ⟨g, cap, cur, hv, hg, hh, rest⟩
  · exact .inl h2
  · exact .inr ⟨g, cap, cur, hv, hg, (hb g (by rw [hv]; rfl) (hlt g (by rw [hv]; rfl)).2).trans hh, rest⟩
theorem OwnF.below {w w' : World} {B et v l} (h : OwnF w B et v l) (hb : Below w.heap.size w w') : OwnF w' B et v l := own_keep h (fun b _ hlt => hb.block b hlt)
theorem OwnF.grown {w w' : World} {B et v l} {g : Nat} (h : OwnF w B et v l) (hg : w.grownBy w' (some g)) (hB : g < B) : OwnF w' B et v l :=
  own_keep h (fun b hb hlt => hg.block b hlt (by intro e; injection e with e; have := (World.ownsRow.lt h b hb).1; omega))
theorem OwnF.lt {w : World} {B et v l} (h : OwnF w B et v l) {b : Nat} (hb : v.ownBlock = some b) : b < w.heap.size := (World.ownsRow.lt h b hb).2
/-- What an append leaves. -/
def App (W : World) (v : Value) (B : Nat) (v' : Value) (w' : World) : Prop :=
  (∀ b, b < W.heap.size → v.ownBlock ≠ some b → w'.heap[b]? = W.heap[b]?) ∧ (v'.ownBlock = v.ownBlock ∨ ∀ b, v'.ownBlock = some b → W.heap.size ≤ b) ∧ Below B W w'
theorem wpList_app_fd {ops : Array Oper} {rest : List Oper} {o : Oper} {a : Act} {Q : Exit → Act → World → Prop} (hgd : o.guard = none) (s x : Operand) (st et : TypeId) (hu : Try.prog.underlying st = some (.slice et)) (hinf : (Try.prog.info? et).map (fun i => (i.zero, i.size, i.bytes)) = some (some (.agg #[.int .i64 0, .int .i64 0]), 2, 16))
    (ho : o.op = .call { callee := .builtin .append, args := #[s, x], argTypes := #[st, st] }) (W : World) (B : Nat) (v : Value) (l : List Fd) (hs : a.eval s = v) (hrow : OwnF W B et v l) (p q : Int) (g : Nat) (hg0 : W.heap.size = g) (hx : a.eval x = .slice (some ⟨g, 0, none⟩) 1 1) (hB : B ≤ W.heap.size) (hn : l.length ≤ 1000000)
    (h : ∀ v' w', OwnF w' B et v' (l ++ [⟨p, q⟩]) → App W v B v' w' → wpList Try.prog ops Q rest (a.put o.dst v') w') :
    wpList Try.prog ops Q (o :: rest) a (W.alloc (.cells #[.int .i64 p, .int .i64 q] et)) := by
  obtain ⟨i0, hi0, hz0, hz1, hz2⟩ := info_parts hinf
  subst hg0
  have hal : Below W.heap.size W (W.alloc (.cells #[.int .i64 p, .int .i64 q] et)) := (Below.refl _ _).alloc (Nat.le_refl _) _
  have hblk := Blk.new W et #[.int .i64 p, .int .i64 q]
  have hrow2 := hrow.below hal
  refine wpList_append_own_at _ hgd s x st ho B et i0 _ 2 16 hu hi0 hz0 hz1 hz2 rfl (by decide) v l.length (fdC l) hs hrow2 ⟨W.heap.size, 0, none⟩ 1 1 (fdR ⟨p, q⟩) hx rfl (fun j u hj => ?_) (by simp [fdR, Value.oneCell']) (by unfold maxLen; omega) (by omega) (by simp; omega) ?_
  · have e : (⟨W.heap.size, 0, none⟩ : Addr).add j = ⟨W.heap.size, 0 + j, none⟩ := by unfold Addr.add; split <;> simp_all
    rw [e, Nat.zero_add, hblk.cell]
    simpa [fdR] using hj
  · intro v' w' hO hg _ hob
    refine h v' w' ?_ ⟨fun b hb hne => ?_, ?_, ?_⟩
    · unfold OwnF fdC at *
      rw [List.flatMap_append, List.length_append]
      simpa using hO
    · rw [hg.block b (by simp; omega) (fun e => hne e.symm)]
      exact hal.block b hb
    · rcases hob with hob | hob
      · exact .inl hob
      · exact .inr (fun b hb => by rw [hob] at hb; cases hb; simp)
    · exact (hal.mono hB).trans ((Below.refl _ _).grown hg (by simp; omega) (fun k e => (World.ownsRow.lt hrow2 k e).1))

open Classical in
noncomputable def metS (l : List Nd) : Lit → Bool := fun kl => decide (∃ y ∈ l, Lit.int .i64 y.id = kl)
open Classical in
noncomputable def shS (l : List Nd) : Lit → Bool := fun kl => decide (∃ y ∈ l, skey y.v y.lo y.hi = kl)
theorem metS_snoc (l : List Nd) (x : Nd) : metS (l ++ [x]) = fun kl => open Classical in if kl = .int .i64 x.id then true else metS l kl := by
  funext kl
  unfold metS
  by_cases h : kl = .int .i64 x.id
  · subst h; simp
  · simp [h, Ne.symm h]
theorem shS_snoc (l : List Nd) (x : Nd) : shS (l ++ [x]) = fun kl => open Classical in if kl = skey x.v x.lo x.hi then true else shS l kl := by
  funext kl
  unfold shS
  by_cases h : kl = skey x.v x.lo x.hi
  · subst h; simp
  · simp [h, Ne.symm h]
theorem metS_nil : metS [] = noS := by funext kl; simp [metS, noS]
theorem shS_nil : shS [] = noS := by funext kl; simp [shS, noS]
def kd (j : Nat) : Int := match j with | 0 => 4 | 1 => 3 | 2 => 5 | 3 => 1 | _ => 2
noncomputable def vioK (order : List Int) (l : List Nd) (k : Nat) (K : Int) : Bool := vioP (idxF order) (topsF (idxF order) l) (metS (l.take k)) (shS (l.take k)) K (na l k)
noncomputable def partF (order : List Int) (l : List Nd) (k : Nat) : Nat → List Fd
  | 0 => []
  | j + 1 => partF order l k j ++ (if vioK order l k (kd j) = true then [⟨kd j, (na l k).id⟩] else [])
noncomputable def allF (order : List Int) (l : List Nd) : Nat → List Fd
  | 0 => []
  | k + 1 => allF order l k ++ partF order l k 5
theorem partF_len (order : List Int) (l : List Nd) (k : Nat) : ∀ j, (partF order l k j).length ≤ j
  | 0 => Nat.le_refl _
  | j + 1 => by
    have := partF_len order l k j
    unfold partF
    rw [List.length_append]
    split <;> simp <;> omega
theorem allF_len (order : List Int) (l : List Nd) : ∀ k, (allF order l k).length ≤ 5 * k
  | 0 => Nat.le_refl _
  | k + 1 => by
    have := allF_len order l k
    have := partF_len order l k 5
    unfold allF
    rw [List.length_append]
    omega
theorem Tb.putM {w w' : World} {T n : Nat} {pos tops : Int → Option Int} {met met' sh : Lit → Bool} {bp bt bm bs : Nat} (h : Tb w T n pos tops met sh bp bt bm bs) (hp : BM w' 3 bm (n + 1) met') (hg : w.grownBy w' (some bm)) : Tb w' T (n + 1) pos tops met' sh bp bt bm bs := by
  obtain ⟨d1, d2, d3, d4, d5, d6, d7, d8, d9, d10⟩ := h.d
  exact ⟨(hg.block T h.t.lt (by simp [Ne.symm d9])).trans h.t, h.p.grown hg d2, (h.o.grown hg d4).mono (by omega), hp, (h.s.grown hg (Ne.symm d6)).mono (by omega), h.d⟩
theorem Tb.putS {w w' : World} {T n : Nat} {pos tops : Int → Option Int} {met sh sh' : Lit → Bool} {bp bt bm bs : Nat} (h : Tb w T n pos tops met sh bp bt bm bs) (hp : BM w' 52 bs (n + 1) sh') (hg : w.grownBy w' (some bs)) : Tb w' T (n + 1) pos tops met sh' bp bt bm bs := by
  obtain ⟨d1, d2, d3, d4, d5, d6, d7, d8, d9, d10⟩ := h.d
  exact ⟨(hg.block T h.t.lt (by simp [Ne.symm d10])).trans h.t, h.p.grown hg d3, (h.o.grown hg d5).mono (by omega), (h.m.grown hg d6).mono (by omega), hp, h.d⟩
theorem e_vio (K : Int) (hK : K = 4 ∨ K = 3 ∨ K = 5 ∨ K = 1 ∨ K = 2) (x : Nd) (hx : x.ok) (w : World) {T n : Nat} {pos tops : Int → Option Int} {met sh : Lit → Bool} {bp bt bm bs : Nat} (h : Tb w T n pos tops met sh bp bt bm bs) :
    Calls Try.prog 15 #[.pointer (some ⟨T, 0, none⟩), .int .i64 K, ndV x] w fun r w' => r = .returned (.bool (vioP pos tops met sh K x)) ∧ Below w.heap.size w w' := by
  rcases hK with rfl | rfl | rfl | rfl | rfl
  · exact vio4 x hx w h
  · exact vio3 x hx w h
  · exact vio5 x hx w h
  · exact vio1 x hx w h
  · exact vio2 x hx w h
end Go.Proofs.Ytmpcfplpdbdmmaa
