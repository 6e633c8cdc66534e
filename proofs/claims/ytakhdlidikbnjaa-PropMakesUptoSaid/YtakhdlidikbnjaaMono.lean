/- A region that draws its order and whose operations but the last ones only make memory: each operation's fact outlives the others, so no order need be looked at. -/
import Derived.Orders
import Derived.Below
import Derived.RegionTactic
import Derived.WalkKit
namespace Go.Proofs.Ytakhdlidikbnjaa
open Go.RowKit

def cntF (b : Array Bool) : Nat := b.toList.countP (fun x => !x)
theorem cntF_set {b : Array Bool} {i : Nat} (h : b.getD i true = false) : cntF b = cntF (b.setIfInBounds i true) + 1 := by
  have hi : i < b.size := by
    rcases Nat.lt_or_ge i b.size with q | q
    · exact q
    · rw [Array.getD_eq_getD_getElem?, Array.getElem?_eq_none q] at h; cases h
  rw [Array.getD_eq_getD_getElem?, Array.getElem?_eq_getElem hi] at h
  simp only [Option.getD_some] at h
  unfold cntF
  rw [Array.toList_setIfInBounds, List.countP_set (by simpa using hi)]
  have h2 : b.toList[i]'(by simpa using hi) = false := by simpa using h
  have hp : 0 < b.toList.countP (fun x => !x) := List.countP_pos_iff.2 ⟨false, by rw [← h2]; exact List.getElem_mem _, rfl⟩
  simp only [h2, Bool.not_false, Bool.not_true, if_true, if_false, Bool.false_eq_true, Nat.add_zero]
  omega
/-- The frame with the first n values laid in. -/
def setAll (d : Nat → Nat) (vs : Nat → Value) : Nat → Array Value → Array Value
  | 0, t => t
  | n + 1, t => (setAll d vs n t).setIfInBounds (d n) (vs n)
theorem setAll_size (d : Nat → Nat) (vs : Nat → Value) (t : Array Value) : ∀ n, (setAll d vs n t).size = t.size
  | 0 => rfl
  | n + 1 => by show ((setAll d vs n t).setIfInBounds (d n) (vs n)).size = _; rw [Array.size_setIfInBounds, setAll_size d vs t n]
theorem setAll_other (d : Nat → Nat) (vs : Nat → Value) (t : Array Value) (s : Nat) : ∀ n, (∀ i, i < n → d i ≠ s) → (setAll d vs n t)[s]? = t[s]?
  | 0, _ => rfl
  | n + 1, h => by
    show ((setAll d vs n t).setIfInBounds (d n) (vs n))[s]? = _
    rw [Array.getElem?_setIfInBounds_ne (h n (by omega)), setAll_other d vs t s n (fun i hi => h i (by omega))]
theorem setAll_at (d : Nat → Nat) (vs : Nat → Value) (t : Array Value) (i : Nat) (hd : d i < t.size) : ∀ n, i < n → (∀ j, j < n → j ≠ i → d j ≠ d i) → (setAll d vs n t)[d i]? = some (vs i)
  | n + 1, hi, h => by
    show ((setAll d vs n t).setIfInBounds (d n) (vs n))[d i]? = _
    by_cases e : i = n
    · subst e
      simp [setAll_size, hd]
    · rw [Array.getElem?_setIfInBounds_ne (h n (by omega) (fun q => e q.symm))]
      exact setAll_at d vs t i hd n (by omega) (fun j hj => h j (by omega))
section
variable {P : Program} {ops : Array Oper} {Q : Exit → Act → World → Prop} {md : Region.Mode}
/-- The operations that an operation waits for. -/
def predsM (md : Region.Mode) (ops : Array Oper) (i : Nat) : List Nat := match ops[i]? with
  | some o => (o.after.toList.filter (Region.binds md)).map (·.on)
  | none => []
/-- The state at a set of operations that have come up. -/
structure MonoI (N : Nat) (d : Nat → Nat) (F : (Nat → Nat) → (Nat → Nat) → Nat → Value → World → Prop) (t0 : Array Value) (D : List Deferred) (w0 : World) (b : Array Bool) (vs : Nat → Value) (lo hi : Nat → Nat) (a : Act) (w : World) : Prop where
  df : a.defers = D
  sz : a.tmps.size = t0.size
  bel : Below w0.heap.size w0 w
  val : ∀ i, i < N → b.getD i true = true → a.tmps[d i]? = some (vs i) ∧ F lo hi i (vs i) w
  iv : ∀ i, i < N → b.getD i true = true → w0.heap.size ≤ lo i ∧ lo i ≤ hi i ∧ hi i ≤ w.heap.size
  dist : ∀ i j, i < N → j < N → b.getD i true = true → b.getD j true = true → i ≠ j → hi i ≤ lo j ∨ hi j ≤ lo i
  rest : ∀ s, (∀ i, i < N → d i ≠ s) → a.tmps[s]? = t0[s]?
  untouched : ∀ i, i < N → b.getD i true = false → a.tmps[d i]? = t0[d i]?
/-- What an operation may use when it comes up. -/
structure MonoA (N : Nat) (d : Nat → Nat) (F : (Nat → Nat) → (Nat → Nat) → Nat → Value → World → Prop) (t0 : Array Value) (D : List Deferred) (w0 : World) (ops : Array Oper) (md : Region.Mode) (lo hi : Nat → Nat) (i : Nat) (a : Act) (w : World) : Prop where
  df : a.defers = D
  sz : a.tmps.size = t0.size
  bel : Below w0.heap.size w0 w
  val : ∀ o, ops[i]? = some o → ∀ e ∈ o.after, Region.binds md e = true → e.on < N → ∃ v, a.tmps[d e.on]? = some v ∧ F lo hi e.on v w ∧ w0.heap.size ≤ lo e.on ∧ hi e.on ≤ w.heap.size
  rest : ∀ s, (∀ i, i < N → d i ≠ s) → a.tmps[s]? = t0[s]?
def bFirst (M N : Nat) : Array Bool := Array.ofFn (n := M) fun i => decide (i.1 < N)
theorem wpAny_mono (M N R : Nat) (d : Nat → Nat) (F : (Nat → Nat) → (Nat → Nat) → Nat → Value → World → Prop) (t0 : Array Value) (D : List Deferred) (w0 : World)
    (hM : ops.size = M) (hNM : N ≤ M) (hR : cntF (bFirst M N) = R) (hd : ∀ i j, i < N → j < N → d i = d j → i = j) (hdz : ∀ i, i < N → d i < t0.size) (hdst : ∀ i o, i < N → ops[i]? = some o → o.dst = some (d i))
    (hback : ∀ (i : Nat) (o : Oper), ops[i]? = some o → ∀ e ∈ o.after, e.on < i)
    (hlate : ∀ b : Array Bool, b.size = M → (∀ i o, ops[i]? = some o → b.getD i true = true → ∀ e ∈ o.after, Region.binds md e = true → b.getD e.on false = true) → ∀ j, N ≤ j → j ∈ Region.ready md ops b → ∀ i, i < N → b.getD i true = true)
    (stable : ∀ lo hi i v w w', F lo hi i v w → Below w.heap.size w w' → F lo hi i v w')
    (loc : ∀ lo hi lo' hi' i v w, lo i = lo' i → hi i = hi' i → (∀ k ∈ predsM md ops i, lo k = lo' k ∧ hi k = hi' k) → F lo hi i v w → F lo' hi' i v w)
    (hstep : ∀ i, i < N → ∀ a w lo hi, MonoA N d F t0 D w0 ops md lo hi i a w → ∀ K : Act → World → Prop, (∀ v w', (∀ lo' hi' : Nat → Nat, (∀ k ∈ predsM md ops i, lo' k = lo k ∧ hi' k = hi k) → lo' i = w.heap.size → hi' i = w'.heap.size → F lo' hi' i v w') → Below w.heap.size w w' → K (a.put (some (d i)) v) w') → wpOp P ops Q i K a w)
    (hend : ∀ vs lo hi w, (∀ i, i < N → F lo hi i (vs i) w) → (∀ i, i < N → w0.heap.size ≤ lo i ∧ lo i ≤ hi i ∧ hi i ≤ w.heap.size) → (∀ i j, i < N → j < N → i ≠ j → hi i ≤ lo j ∨ hi j ≤ lo i) → Below w0.heap.size w0 w → wpAny P md ops Q R (bFirst M N) { tmps := setAll d vs N t0, defers := D } w) :
    wpAny P md ops Q M (Array.replicate M false) { tmps := t0, defers := D } w0 := by
  have main : ∀ f (b : Array Bool) vs lo up a w, cntF b = f → b.size = M → (∀ j, N ≤ j → j < M → b.getD j true = false) →
      (∀ i o, ops[i]? = some o → b.getD i true = true → ∀ e ∈ o.after, Region.binds md e = true → b.getD e.on false = true) → MonoI N d F t0 D w0 b vs lo up a w → wpAny P md ops Q f b a w := by
    intro f
    induction f with
    | zero =>
      intro b vs lo up a w hc hb hlt hcl hI
      have hall : ∀ i, i < N → b.getD i true = true := fun i hi => by
        cases e : b.getD i true with
        | true => rfl
        | false => rw [cntF_set e] at hc; omega
      have hb2 : b = bFirst M N := by
        apply Array.ext
        · rw [hb]; simp [bFirst]
        · intro i h1 h2
          have h3 : i < N := by
            rcases Nat.lt_or_ge i N with q | q
            · exact q
            · have h4 := hlt i q (by omega)
              rw [cntF_set h4] at hc; omega
          have := hall i h3
          rw [Array.getD_eq_getD_getElem?, Array.getElem?_eq_getElem h1] at this
          simp only [Option.getD_some] at this
          rw [this]; simp [bFirst, h3]
      have ha : a = { tmps := setAll d vs N t0, defers := D } := by
        obtain ⟨ta, da⟩ := a
        have h1 := hI.df
        have h2 : ta = setAll d vs N t0 := by
          apply Array.ext_getElem?
          intro s
          by_cases hs : ∃ i, i < N ∧ d i = s
          · obtain ⟨i, hi, rfl⟩ := hs
            rw [(hI.val i hi (hall i hi)).1, setAll_at d vs t0 i (hdz i hi) N hi (fun j hj hne e => hne (hd j i hj hi e))]
          · rw [hI.rest s (fun i hi e => hs ⟨i, hi, e⟩), setAll_other d vs t0 s N (fun i hi e => hs ⟨i, hi, e⟩)]
        subst h2
        simp only at h1
        subst h1
        rfl
      have h := hend vs lo up w (fun i hi => (hI.val i hi (hall i hi)).2) (fun i hi => hI.iv i hi (hall i hi)) (fun i j hi hj hne => hI.dist i j hi hj (hall i hi) (hall j hj) hne) hI.bel
      rw [← hR, ← hb2, hc] at h
      rw [ha]
      exact h
    | succ f ih =>
      intro b vs lo up a w hc hb hlt hcl hI
      by_cases hall : ∀ i, i < N → b.getD i true = true
      · have hb2 : b = bFirst M N := by
          apply Array.ext
          · rw [hb]; simp [bFirst]
          · intro i h1 h2
            by_cases h3 : i < N
            · have := hall i h3
              rw [Array.getD_eq_getD_getElem?, Array.getElem?_eq_getElem h1] at this
              simp only [Option.getD_some] at this
              rw [this]; simp [bFirst, h3]
            · have := hlt i (by omega) (by omega)
              rw [Array.getD_eq_getD_getElem?, Array.getElem?_eq_getElem h1] at this
              simp only [Option.getD_some] at this
              rw [this]; simp [bFirst, h3]
        have ha : a = { tmps := setAll d vs N t0, defers := D } := by
          obtain ⟨ta, da⟩ := a
          have h1 := hI.df
          have h2 : ta = setAll d vs N t0 := by
            apply Array.ext_getElem?
            intro s
            by_cases hs : ∃ i, i < N ∧ d i = s
            · obtain ⟨i, hi, rfl⟩ := hs
              rw [(hI.val i hi (hall i hi)).1, setAll_at d vs t0 i (hdz i hi) N hi (fun j hj hne e => hne (hd j i hj hi e))]
            · rw [hI.rest s (fun i hi e => hs ⟨i, hi, e⟩), setAll_other d vs t0 s N (fun i hi e => hs ⟨i, hi, e⟩)]
          subst h2
          simp only at h1
          subst h1
          rfl
        have h := hend vs lo up w (fun i hi => (hI.val i hi (hall i hi)).2) (fun i hi => hI.iv i hi (hall i hi)) (fun i j hi hj hne => hI.dist i j hi hj (hall i hi) (hall j hj) hne) hI.bel
        rw [← hR, ← hb2, hc] at h
        rw [ha]
        exact h
      · refine ⟨fun h0 => ?_, fun i hi => ?_⟩
        · exfalso
          apply hall
          intro i
          induction i using Nat.strongRecOn with
          | _ i IH =>
            intro hi
            cases e : b.getD i true with
            | true => rfl
            | false =>
              exfalso
              have hio : i < ops.size := by omega
              have : i ∈ Region.ready md ops b := mem_ready.2 ⟨e, ops[i], Array.getElem?_eq_getElem hio, fun ed hed hbn => by
                have hlt2 := hback i _ (Array.getElem?_eq_getElem hio) ed hed
                have h5 := IH ed.on hlt2 (by omega)
                have hsz : ed.on < b.size := by omega
                rw [Array.getD_eq_getD_getElem?, Array.getElem?_eq_getElem hsz] at h5 ⊢
                exact h5⟩
              rw [h0] at this
              cases this
        · have hiN : i < N := by
            rcases Nat.lt_or_ge i N with q | q
            · exact q
            · exact absurd (hlate b hb hcl i q hi) hall
          obtain ⟨hun, o, ho, hedge⟩ := mem_ready.1 hi
          have hib : i < b.size := by omega
          refine hstep i hiN a w lo up ⟨hI.df, hI.sz, hI.bel, fun o' ho' e he hbn hN => ?_, hI.rest⟩ _ (fun v w' hF hb' => ?_)
          · rw [ho] at ho'; cases ho'
            have h5 := hedge e he hbn
            have hsz : e.on < b.size := by omega
            have h6 : b.getD e.on true = true := by
              rw [Array.getD_eq_getD_getElem?, Array.getElem?_eq_getElem hsz] at h5 ⊢; exact h5
            exact ⟨_, (hI.val e.on hN h6).1, (hI.val e.on hN h6).2, (hI.iv e.on hN h6).1, (hI.iv e.on hN h6).2.2⟩
          · have gset : ∀ j, j ≠ i → (b.setIfInBounds i true).getD j true = b.getD j true := fun j hj => getD_set_ne true (Ne.symm hj)
            have gi : (b.setIfInBounds i true).getD i true = true := by
              rw [Array.getD_eq_getD_getElem?, Array.getElem?_setIfInBounds_self_of_lt hib]; rfl
            refine ih (b.setIfInBounds i true) (fun j => if j = i then v else vs j) (fun j => if j = i then w.heap.size else lo j) (fun j => if j = i then w'.heap.size else up j) (a.put (some (d i)) v) w' (by have := cntF_set hun; omega) (by simpa using hb) (fun j h1 h2 => by rw [gset j (by omega)]; exact hlt j h1 h2) ?_ ?_
            · intro j oj hoj hbj e he hbn
              by_cases q : j = i
              · subst q
                rw [ho] at hoj; cases hoj
                exact getD_set_true (hedge e he hbn)
              · rw [gset j q] at hbj
                exact getD_set_true (hcl j oj hoj hbj e he hbn)
            · have hdi := hdz i hiN
              have hlisted : ∀ j, b.getD j true = true → ∀ k ∈ predsM md ops j, k ≠ i := fun j hbj k hk e => by
                subst e
                unfold predsM at hk
                split at hk
                · rename_i oj hoj
                  obtain ⟨ed, hed, rfl⟩ := List.mem_map.1 hk
                  obtain ⟨h5, h6⟩ := List.mem_filter.1 hed
                  have h7 := hcl j oj hoj hbj ed (by simpa using h5) h6
                  rw [Array.getD_eq_getD_getElem?, Array.getElem?_eq_getElem hib] at hun h7
                  simp only [Option.getD_some] at hun h7
                  rw [hun] at h7
                  cases h7
                · cases hk
              have hself : ∀ k ∈ predsM md ops i, k ≠ i := fun k hk e => by
                subst e
                unfold predsM at hk
                rw [ho] at hk
                obtain ⟨ed, hed, h5⟩ := List.mem_map.1 hk
                have := hback k o ho ed (by simpa using (List.mem_filter.1 hed).1)
                omega
              refine ⟨hI.df, by simpa [Act.put] using hI.sz, hI.bel.trans (hb'.mono hI.bel.size), fun j hj hbj => ?_, fun j hj hbj => ?_, fun j k hj hk hbj hbk hne => ?_, fun s hs => ?_, fun j hj hbj => ?_⟩
              · by_cases q : j = i
                · subst q
                  simp only [if_pos]
                  refine ⟨?_, hF _ _ (fun k hk => ?_) (by simp) (by simp)⟩
                  · show (a.tmps.setIfInBounds (d j) v)[d j]? = some v
                    rw [Array.getElem?_setIfInBounds_self_of_lt (by rw [hI.sz]; exact hdi)]
                  · have := hself k hk
                    simp [this]
                · rw [gset j q] at hbj
                  simp only [if_neg q]
                  refine ⟨?_, loc lo up _ _ j _ w' (by simp [q]) (by simp [q]) (fun k hk => ?_) (stable lo up j _ w w' (hI.val j hj hbj).2 hb')⟩
                  · show (a.tmps.setIfInBounds (d i) v)[d j]? = _
                    rw [Array.getElem?_setIfInBounds_ne (fun e => q (hd i j hiN hj e).symm)]
                    exact (hI.val j hj hbj).1
                  · have := hlisted j hbj k hk
                    simp [this]
              · by_cases q : j = i
                · subst q
                  simp only [if_pos]
                  exact ⟨hI.bel.size, hb'.size, Nat.le_refl _⟩
                · rw [gset j q] at hbj
                  simp only [if_neg q]
                  obtain ⟨h1, h2, h3⟩ := hI.iv j hj hbj
                  exact ⟨h1, h2, Nat.le_trans h3 hb'.size⟩
              · by_cases q : j = i
                · subst q
                  have q2 : k ≠ j := fun e => hne e.symm
                  rw [gset k q2] at hbk
                  simp only [if_pos, if_neg q2]
                  exact .inr (hI.iv k hk hbk).2.2
                · rw [gset j q] at hbj
                  by_cases q2 : k = i
                  · subst q2
                    simp only [if_pos, if_neg q]
                    exact .inl (hI.iv j hj hbj).2.2
                  · rw [gset k q2] at hbk
                    simp only [if_neg q, if_neg q2]
                    exact hI.dist j k hj hk hbj hbk hne
              · show (a.tmps.setIfInBounds (d i) v)[s]? = _
                rw [Array.getElem?_setIfInBounds_ne (hs i hiN)]
                exact hI.rest s hs
              · have q : j ≠ i := by rintro rfl; rw [gi] at hbj; cases hbj
                rw [gset j q] at hbj
                show (a.tmps.setIfInBounds (d i) v)[d j]? = _
                rw [Array.getElem?_setIfInBounds_ne (fun e => q (hd i j hiN hj e).symm)]
                exact hI.untouched j hj hbj
  have h0 : ∀ j, (Array.replicate M false).getD j true = true → M ≤ j := fun j h => by
    rcases Nat.lt_or_ge j M with q | q
    · rw [Array.getD_eq_getD_getElem?, Array.getElem?_replicate, if_pos q] at h; cases h
    · exact q
  refine main M _ (fun _ => undef) (fun _ => 0) (fun _ => 0) _ w0 ?_ (by simp) (fun j h1 h2 => ?_) (fun i o ho hb => ?_) ⟨rfl, rfl, Below.refl _ _, fun i hi hb => absurd (h0 i hb) (by omega), fun i hi hb => absurd (h0 i hb) (by omega), fun i j hi hj hb => absurd (h0 i hb) (by omega), fun _ _ => rfl, fun _ _ _ => rfl⟩
  · unfold cntF
    rw [Array.toList_replicate, List.countP_replicate]
    rfl
  · rw [Array.getD_eq_getD_getElem?, Array.getElem?_replicate, if_pos h2]; rfl
  · have := h0 i hb
    have h1 := (Array.getElem?_eq_some_iff.1 ho).1
    omega
/-! ### The same, its conditions on the text as Booleans -/
def cloM (md : Region.Mode) (ops : Array Oper) : Nat → List Nat → List Nat
  | 0, S => S
  | n + 1, S => cloM md ops n (S ++ S.flatMap (predsM md ops))
def lateB (md : Region.Mode) (ops : Array Oper) (M N : Nat) : Bool := (List.range M).all fun j => decide (j < N) || (List.range N).all fun i => (cloM md ops 4 (predsM md ops j)).contains i
def backB (ops : Array Oper) : Bool := (List.range ops.size).all fun i => match ops[i]? with
  | some o => o.after.toList.all fun e => decide (e.on < i)
  | none => true
def dstB (ops : Array Oper) (N : Nat) (d : Nat → Nat) : Bool := (List.range N).all fun i => match ops[i]? with
  | some o => o.dst == some (d i)
  | none => true
def injB (N : Nat) (d : Nat → Nat) : Bool := (List.range N).all fun i => (List.range N).all fun j => i == j || d i != d j
def fitB (N : Nat) (d : Nat → Nat) (m : Nat) : Bool := (List.range N).all fun i => decide (d i < m)
theorem clo_listed {b : Array Bool} (hcl : ∀ i o, ops[i]? = some o → b.getD i true = true → ∀ e ∈ o.after, Region.binds md e = true → b.getD e.on false = true) :
    ∀ n S, (∀ i ∈ S, b.getD i false = true) → ∀ i ∈ cloM md ops n S, b.getD i false = true
  | 0, _, h => h
  | n + 1, S, h => clo_listed hcl n _ (fun i hi => by
    rcases List.mem_append.1 hi with q | q
    · exact h i q
    · obtain ⟨j, hj, hij⟩ := List.mem_flatMap.1 q
      have h2 := h j hj
      have h3 : b.getD j true = true := by
        rw [Array.getD_eq_getD_getElem?] at h2 ⊢
        cases e : b[j]? with
        | none => rfl
        | some x => rw [e] at h2; exact h2
      unfold predsM at hij
      split at hij
      · rename_i o ho
        obtain ⟨ed, hed, rfl⟩ := List.mem_map.1 hij
        obtain ⟨h5, h6⟩ := List.mem_filter.1 hed
        exact hcl j o ho h3 ed (by simpa using h5) h6
      · cases hij)
theorem late_of {M N : Nat} (hM : ops.size = M) (h : lateB md ops M N = true) : ∀ b : Array Bool, b.size = M → (∀ i o, ops[i]? = some o → b.getD i true = true → ∀ e ∈ o.after, Region.binds md e = true → b.getD e.on false = true) → ∀ j, N ≤ j → j ∈ Region.ready md ops b → ∀ i, i < N → b.getD i true = true := by
  intro b hb hcl j hj hr i hi
  obtain ⟨_, o, ho, hall⟩ := mem_ready.1 hr
  have hjM : j < M := by rw [← hM]; exact (Array.getElem?_eq_some_iff.1 ho).1
  unfold lateB at h
  have h1 := List.all_eq_true.1 h j (List.mem_range.2 hjM)
  simp only [Bool.or_eq_true, decide_eq_true_eq] at h1
  rcases h1 with h1 | h1
  · omega
  · have h2 := List.all_eq_true.1 h1 i (List.mem_range.2 hi)
    have h3 := clo_listed hcl 4 (predsM md ops j) (fun k hk => by
      unfold predsM at hk
      rw [ho] at hk
      obtain ⟨ed, hed, rfl⟩ := List.mem_map.1 hk
      obtain ⟨h5, h6⟩ := List.mem_filter.1 hed
      exact hall ed (by simpa using h5) h6) i (by simpa using h2)
    rw [Array.getD_eq_getD_getElem?] at h3 ⊢
    cases e : b[i]? with
    | none => rfl
    | some x => rw [e] at h3; exact h3
theorem wpAny_monoB (M N R : Nat) (d : Nat → Nat) (F : (Nat → Nat) → (Nat → Nat) → Nat → Value → World → Prop) (t0 : Array Value) (D : List Deferred) (w0 : World)
    (hM : ops.size = M) (hNM : N ≤ M) (hR : cntF (bFirst M N) = R) (hd : injB N d = true) (hdz : fitB N d t0.size = true) (hdst : dstB ops N d = true) (hback : backB ops = true) (hlate : lateB md ops M N = true)
    (stable : ∀ lo hi i v w w', F lo hi i v w → Below w.heap.size w w' → F lo hi i v w')
    (loc : ∀ lo hi lo' hi' i v w, lo i = lo' i → hi i = hi' i → (∀ k ∈ predsM md ops i, lo k = lo' k ∧ hi k = hi' k) → F lo hi i v w → F lo' hi' i v w)
    (hstep : ∀ i, i < N → ∀ a w lo hi, MonoA N d F t0 D w0 ops md lo hi i a w → ∀ K : Act → World → Prop, (∀ v w', (∀ lo' hi' : Nat → Nat, (∀ k ∈ predsM md ops i, lo' k = lo k ∧ hi' k = hi k) → lo' i = w.heap.size → hi' i = w'.heap.size → F lo' hi' i v w') → Below w.heap.size w w' → K (a.put (some (d i)) v) w') → wpOp P ops Q i K a w)
    (hend : ∀ vs lo hi w, (∀ i, i < N → F lo hi i (vs i) w) → (∀ i, i < N → w0.heap.size ≤ lo i ∧ lo i ≤ hi i ∧ hi i ≤ w.heap.size) → (∀ i j, i < N → j < N → i ≠ j → hi i ≤ lo j ∨ hi j ≤ lo i) → Below w0.heap.size w0 w → wpAny P md ops Q R (bFirst M N) { tmps := setAll d vs N t0, defers := D } w) :
    wpAny P md ops Q M (Array.replicate M false) { tmps := t0, defers := D } w0 := by
  refine wpAny_mono M N R d F t0 D w0 hM hNM hR (fun i j hi hj e => ?_) (fun i hi => ?_) (fun i o hi ho => ?_) (fun i o ho e he => ?_) (late_of hM hlate) stable loc hstep hend
  · have h1 := List.all_eq_true.1 (List.all_eq_true.1 hd i (List.mem_range.2 hi)) j (List.mem_range.2 hj)
    simp only [Bool.or_eq_true, beq_iff_eq, bne_iff_ne] at h1
    rcases h1 with h1 | h1
    · exact h1
    · exact absurd e h1
  · have h1 := List.all_eq_true.1 hdz i (List.mem_range.2 hi)
    simpa using h1
  · have h1 := List.all_eq_true.1 hdst i (List.mem_range.2 hi)
    rw [ho] at h1
    simpa using h1
  · have h1 := List.all_eq_true.1 hback i (List.mem_range.2 (Array.getElem?_eq_some_iff.1 ho).1)
    rw [ho] at h1
    have h2 := List.all_eq_true.1 h1 e (by simpa using he)
    simpa using h2
end
end Go.Proofs.Ytakhdlidikbnjaa
