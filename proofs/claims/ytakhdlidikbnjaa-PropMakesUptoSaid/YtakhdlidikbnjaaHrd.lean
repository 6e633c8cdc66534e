/- A region that draws its order, within a round of a range over a function, by the laws of the held walk outside rounds. -/
import Derived.Test.YtakhdlidikbnjaaIter
import Derived.Deep.RegionHeld3
import Derived.Deep.RegionLaw
namespace Go.Proofs.Ytakhdlidikbnjaa
open Go.RowKit
section
variable {P : Program} {ops : Array Oper} {l : Nat} {Q : Exit → Act → World → Prop} {md : Region.Mode}
theorem rowsIn_round {row : String} {args : Array Value} {w : World} {R : Value → World → Prop} (h : Rows P row args w R) : RowsIn (Fence.wide.inRound l) 0 P row args w R :=
  fun c cs _ => let ⟨v, w', r, s⟩ := h c cs; ⟨v, w', r, stepsIn_wide.2 s⟩
theorem uponIn_of_upon {o : Oper} {a : Act} {K : Act → World → Prop} : ∀ (r : Result Next), o.upon P a K Q r → o.uponIn (Fence.wide.inRound l) 0 P a K Q r
  | .ok (.value _) _, h => h
  | .ok .skip _, h => h
  | .ok (.defer _) _, h => h
  | .ok (.enter _ _) _, h => ⟨fun h0 => (by cases h0), CallsIn.inRound l (callsIn_wide.2 h)⟩
  | .ok (.row _ _) _, h => ⟨fun h0 => (by cases h0), rowsIn_round h⟩
  | .ok (.round ..) _, h => h.elim
  | .halt x _, h => by cases x <;> first | exact h | exact (h : False).elim
theorem wpOpIn_of_wpOp {i : Nat} {a : Act} {w : World} {K K' : Act → World → Prop} (hnd : noDefer ops = true) (hlo : ¬ LetsOut Q) (hK : ∀ a w, K a w → K' a w) (h : wpOp P ops Q i K a w) : wpOpIn (Fence.wide.inRound l) 0 P ops Q i K' a w := by
  refine wpOpIn_mono hK ?_
  unfold wpOp at h
  unfold wpOpIn
  cases ho : ops[i]? with
  | none => simp only [ho] at h; exact h
  | some o =>
    simp only [ho] at h ⊢
    by_cases hw : Region.wanted o (yielded ops a.tmps) = true
    · rw [if_pos hw] at h ⊢
      rcases h with h | h
      · refine ⟨fun _ _ => trivial, ?_⟩
        rw [show o.semAt (Fence.wide.inRound l).round a.eval = execOp a.eval o from Oper.semAt_some _ _ _ (noDefer_at hnd ho)]
        exact uponIn_of_upon _ h
      · exact absurd h.2 hlo
    · rw [if_neg hw] at h ⊢
      exact ⟨fun _ _ => trivial, h⟩
theorem wpAnyIn_of_wpAny (hnd : noDefer ops = true) (hlo : ¬ LetsOut Q) : ∀ (f : Nat) (b : Array Bool) (a : Act) (w : World), wpAny P md ops Q f b a w → wpAnyIn (Fence.wide.inRound l) 0 P md ops Q f b a w
  | 0, _, _, _, h => h
  | f + 1, _, _, _, h => ⟨h.1, fun i hi => wpOpIn_of_wpOp hnd hlo (fun a' w' h' => wpAnyIn_of_wpAny hnd hlo f _ a' w' h') (h.2 i hi)⟩
/-- The beginning of a held walk, within a round. -/
theorem region_held_round {S : World → Prop} {id : Nat} {a : Act} {w : World} (hm : P.follows .mixedOrders = true) (hnd : noDefer ops = true) (hlo : ∀ a w, ¬ Q .outgrown a w) (hS : S w.drew)
    (h : S w.drew → wpAnyH P .any ops Q S ops.size (Array.replicate ops.size false) a w.drew) : (Code.region id ops true).wpIn (Fence.wide.inRound l) 0 P Q a w :=
  wpIn_region_any hm (wpAnyIn_of_wpAny hnd (fun ⟨a, w, h⟩ => hlo a w h) _ _ _ _ (wpAny_of_held _ _ _ _ (h hS)))
end
/-! ### A held walk whose last operation need not keep S -/
/-- Whatever order is picked, and S holds behind every operation but behind the last. -/
def wpAnyK (P : Program) (md : Region.Mode) (ops : Array Oper) (Q : Exit → Act → World → Prop) (S : World → Prop) : Nat → Array Bool → Act → World → Prop
  | 0, b, a, w => Region.ready md ops b = [] ∧ Q .normal a w
  | f + 1, b, a, w => (Region.ready md ops b = [] → Q .normal a w) ∧
      ∀ i ∈ Region.ready md ops b, wpOp P ops Q i (fun a' w' => (S w' ∨ ∀ j, (b.setIfInBounds i true).getD j true = true) ∧ wpAnyK P md ops Q S f (b.setIfInBounds i true) a' w') a w
section
variable {P : Program} {ops : Array Oper} {l : Nat} {Q : Exit → Act → World → Prop} {md : Region.Mode} {S : World → Prop}
theorem wpAny_of_K : ∀ (f : Nat) (b : Array Bool) (a : Act) (w : World), wpAnyK P md ops Q S f b a w → wpAny P md ops Q f b a w
  | 0, _, _, _, h => h
  | f + 1, _, _, _, h => ⟨h.1, fun i hi => wpOp_mono (fun a' w' h' => wpAny_of_K f _ a' w' h'.2) (h.2 i hi)⟩
theorem wpAnyK_first {i : Nat} {oi : Oper} {v : Value} (hi : ops[i]? = some oi) (hsel : ∀ (j : Nat) (o : Oper) cs b, ops[j]? = some o → o.op ≠ .select cs b)
    (hQ : ∀ c a w, Q (.panic c) (a.put oi.dst v) w → Q (.panic c) a w) (L : Nat) (oL : Oper) (hL : ops[L]? = some oL) (hLi : L ≠ i) (hLw : ∃ e ∈ oL.after, Region.binds md e = true ∧ e.on = i) :
    ∀ (f : Nat) (b : Array Bool) (a : Act) (w : World), b.getD L true = false →
      (∀ j oj, ops[j]? = some oj → j ≠ i → b.getD j true = false → (∀ e ∈ oj.after, Region.binds md e = true → e.on ≠ i) → oi.apart ops oj = true) →
      i ∈ Region.ready md ops b → YieldsIf P ops S oi v a → S w →
      wpAnyK P md ops Q S f (b.setIfInBounds i true) (a.put oi.dst v) w → wpAnyK P md ops Q S (f + 1) b a w := by
  intro f
  induction f with
  | zero =>
    intro b a w _ _ hr hy hS H
    refine ⟨fun h => (by rw [h] at hr; cases hr), fun j hj => ?_⟩
    by_cases e : j = i
    · subst e; exact hy.wpOp hi hS ⟨.inl hS, H⟩
    · exact absurd (ready_mono hj e) (by rw [H.1]; simp)
  | succ f ih =>
    intro b a w hb hfree hr hy hS H
    refine ⟨fun h => (by rw [h] at hr; cases hr), fun j hj => ?_⟩
    by_cases e : j = i
    · subst e; exact hy.wpOp hi hS ⟨.inl hS, H⟩
    have hun : b.getD j true = false := (mem_ready.1 hj).1
    obtain ⟨_, oj, hoj, hall⟩ := mem_ready.1 hj
    have hib : b.getD i true = false := (mem_ready.1 hr).1
    have hib2 : b.getD i false = false := by
      have h2 : i < b.size := by
        rcases Nat.lt_or_ge i b.size with q | q
        · exact q
        · rw [Array.getD_eq_getD_getElem?, Array.getElem?_eq_none q] at hib; cases hib
      rw [Array.getD_eq_getD_getElem?, Array.getElem?_eq_getElem h2] at hib ⊢
      exact hib
    have hnot : ∀ e ∈ oj.after, Region.binds md e = true → e.on ≠ i := fun e he hbn heq => by
      have h1 := hall e he hbn
      rw [heq, hib2] at h1
      cases h1
    have hjL : j ≠ L := by
      rintro rfl
      rw [hL] at hoj
      cases hoj
      obtain ⟨e, he, h1, h2⟩ := hLw
      exact hnot e he h1 h2
    have hbj : (b.setIfInBounds j true).getD L true = false := by rw [getD_set_ne true hjL]; exact hb
    have hbij : ((b.setIfInBounds i true).setIfInBounds j true).getD L true = false := by rw [getD_set_ne true hjL, getD_set_ne true (Ne.symm hLi)]; exact hb
    have h2 := wpOp_putIf hoj (hfree j oj hoj e hun hnot) (fun cs b => hsel i oi cs b hi) (fun cs b => hsel j oj cs b hoj) hQ hy (H.2 j (ready_mono hj e))
    have hfree' : ∀ k ok, ops[k]? = some ok → k ≠ i → (b.setIfInBounds j true).getD k true = false → (∀ e ∈ ok.after, Region.binds md e = true → e.on ≠ i) → oi.apart ops ok = true := fun k ok hk hki hu hno => by
      refine hfree k ok hk hki ?_ hno
      by_cases q : j = k
      · rw [← q]; exact hun
      · rw [getD_set_ne true q] at hu; exact hu
    refine wpOp_mono (fun a' w' h3 => ?_) h2
    obtain ⟨hy3, hS3, h3⟩ := h3
    have hS4 : S w' := by
      rcases hS3 with q | q
      · exact q
      · rw [q L] at hbij; cases hbij
    refine ⟨.inl hS4, ih (b.setIfInBounds j true) a' w' hbj hfree' (ready_mono hr (Ne.symm e)) hy3 hS4 ?_⟩
    rw [Array.setIfInBounds_comm _ _ e]
    exact h3
/-- Operation i is taken first; it is about to leave v in slot d. -/
theorem K.take {f : Nat} {b : Array Bool} {t : List Value} {D : List Deferred} {w : World} (i L d : Nat) (v : Value) {oi oL : Oper} (hi : ops[i]? = some oi) (hL : ops[L]? = some oL) (hd : oi.dst = some d)
    (hs : Region.noSelect ops = true) (hf : Region.free md ops b i = true) (hr : (Region.ready md ops b).contains i = true) (hlw : (L != i && b.getD L true == false && oL.after.any fun e => Region.binds md e && e.on == i) = true)
    (hQ : ∀ c a w, Q (.panic c) (a.put oi.dst v) w → Q (.panic c) a w) (hw : Region.wanted oi (yielded ops t.toArray) = true) (hrun : ∀ w, S w → (execOp (Act.eval { tmps := t.toArray, defers := D }) oi).run P w = .ok (.value v) w) (hS : S w)
    (h : wpAnyK P md ops Q S f (b.setIfInBounds i true) { tmps := (t.set d v).toArray, defers := D } w) : wpAnyK P md ops Q S (f + 1) b { tmps := t.toArray, defers := D } w := by
  simp only [Bool.and_eq_true, bne_iff_ne, beq_iff_eq, Array.any_eq_true] at hlw
  obtain ⟨⟨h1, h2⟩, k, hk, h3, h4⟩ := hlw
  refine wpAnyK_first hi (Region.noSelect_spec hs) hQ L oL hL h1 ⟨_, Array.getElem_mem hk, h3, h4⟩ f b _ w h2 (Region.free_spec hi hf) (by simpa using hr) (.inl ⟨hw, hrun⟩) hS ?_
  simpa [Act.put, hd] using h
/-- Operation i alone may come up; S holds behind it. -/
theorem K.step {f : Nat} {b : Array Bool} {a : Act} {w : World} (i : Nat) {oi : Oper} (hi : ops[i]? = some oi) (hr : Region.ready md ops b = [i])
    (h : ∀ K : Act → World → Prop, Shut (∀ a w, S w → wpAnyK P md ops Q S f (b.setIfInBounds i true) a w → K a w) → if Region.wanted oi (yielded ops a.tmps) = true then Oper.wp P oi a w K Q else K (a.put oi.dst undef) w) : wpAnyK P md ops Q S (f + 1) b a w := by
  refine ⟨fun h0 => (by rw [hr] at h0; cases h0), fun j hj => ?_⟩
  rw [hr] at hj
  obtain rfl : j = i := by simpa using hj
  exact wpOp_step hi (fun K hK => h K (fun a w hS hW => hK a w ⟨.inl hS, hW⟩))
/-- The last operation. -/
theorem K.last {f : Nat} {b : Array Bool} {a : Act} {w : World} (i : Nat) {oi : Oper} (hi : ops[i]? = some oi) (hr : Region.ready md ops b = [i]) (hb : (b.setIfInBounds i true).all id = true) (hz : Region.ready md ops (b.setIfInBounds i true) = [])
    (h : ∀ K : Act → World → Prop, Shut (∀ a w, Q .normal a w → K a w) → if Region.wanted oi (yielded ops a.tmps) = true then Oper.wp P oi a w K Q else K (a.put oi.dst undef) w) : wpAnyK P md ops Q S (f + 1) b a w := by
  refine ⟨fun h0 => (by rw [hr] at h0; cases h0), fun j hj => ?_⟩
  rw [hr] at hj
  obtain rfl : j = i := by simpa using hj
  refine wpOp_step hi (fun K hK => h K (fun a w hq => hK a w ⟨.inr fun k => ?_, ?_⟩))
  · rw [Array.getD_eq_getD_getElem?]
    rcases Nat.lt_or_ge k (b.setIfInBounds j true).size with q | q
    · rw [Array.getElem?_eq_getElem q]
      have := Array.all_eq_true.1 hb k q
      simpa using this
    · rw [Array.getElem?_eq_none q]; rfl
  · cases f with
    | zero => exact ⟨hz, hq⟩
    | succ f => exact ⟨fun _ => hq, fun k hk => (by rw [hz] at hk; cases hk)⟩
theorem region_K {id : Nat} {a : Act} {w : World} (n : Nat) (hn : ops.size = n) (hm : P.follows .mixedOrders = true) (hS : S w.drew)
    (h : S w.drew → wpAnyK P .any ops Q S n (Array.replicate n false) a w.drew) : (Code.region id ops true).wp P Q a w :=
  wp_region_any hm (by rw [hn]; exact wpAny_of_K _ _ _ _ (h hS))
theorem region_K_round {id : Nat} {a : Act} {w : World} (n : Nat) (hn : ops.size = n) (hm : P.follows .mixedOrders = true) (hnd : noDefer ops = true) (hlo : ∀ a w, ¬ Q .outgrown a w) (hS : S w.drew)
    (h : S w.drew → wpAnyK P .any ops Q S n (Array.replicate n false) a w.drew) : (Code.region id ops true).wpIn (Fence.wide.inRound l) 0 P Q a w :=
  wpIn_region_any hm (wpAnyIn_of_wpAny hnd (fun ⟨a, w, h⟩ => hlo a w h) _ _ _ _ (by rw [hn]; exact wpAny_of_K _ _ _ _ (h hS)))
end
end Go.Proofs.Ytakhdlidikbnjaa
