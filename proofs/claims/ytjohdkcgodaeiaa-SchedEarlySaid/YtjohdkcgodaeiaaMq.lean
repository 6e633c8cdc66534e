/- Maps of integers to truths whose keys are known; layer 42 (sched). -/
import Derived.Test.YtjohdkcgodaeiaaMp
import Derived.Test.YtjohdkcgodaeiaaR2
import Derived.Test.YtjohdkcgodaeiaaR3
namespace Go.Proofs.Ytjohdkcgodaeiaa
open Go.RowKit Go.Maps

/-- A map of integers to truths in block b holds true for the integers of K, and nothing else. -/
def NM (w : World) (b n : Nat) (K : List Int) : Prop :=
  ∃ D : DataW Unit, w.ownsMap Try.prog 3 (plainElem Try.prog 4) b n D ∧ IsMap D ∧ (∀ x, Maps.has D (.int .i64 x) = mem K x) ∧ (∀ x, D.atKey (.int .i64 x) (.lit (.bool false)) = .lit (.bool (mem K x))) ∧ Maps.size D = K.length
theorem NM.lt {w : World} {b n K} (h : NM w b n K) : b < w.heap.size := by obtain ⟨D, h, _⟩ := h; exact h.lt
theorem NM.at {w w' : World} {b n K} (h : NM w b n K) (hb : w'.heap[b]? = w.heap[b]?) : NM w' b n K := by
  obtain ⟨D, h, r⟩ := h
  exact ⟨D, own_at h hb, r⟩
theorem NM.below {w w' : World} {b n K} {B : Nat} (h : NM w b n K) (hb : Below B w w') (hB : b < B) : NM w' b n K := h.at (hb.block b hB)
theorem NM.mono {w : World} {b n K} {m : Nat} (h : NM w b n K) (hm : n ≤ m) : NM w b m K := by
  obtain ⟨D, h, r⟩ := h
  exact ⟨D, h.mono hm, r⟩
theorem NM.made (w : World) : NM (w.alloc (.map #[] 0)) w.heap.size 0 [] := ⟨.map [], World.ownsMap_made _ _ _ _, isMap_empty, fun _ => rfl, fun _ => rfl, rfl⟩
theorem NM.sm {w : World} {b n K} (h : NM w b n K) : SM w b n (mem K) := by
  obtain ⟨D, h, hm, _, h1, _⟩ := h
  exact ⟨D, h, hm, h1⟩
theorem NM.look {w : World} {b n K} (h : NM w b n K) {x : Int} (hx : In64 x) : (Instr.lookup 41 (.map (some b)) (.int .i64 x) false).run Try.prog w = .ok (.bool (mem K x)) w := h.sm.look hx
/-- The keys when x has been put. -/
def kPut (K : List Int) (x : Int) : List Int := if x ∈ K then K else K ++ [x]
def kDel (K : List Int) (x : Int) : List Int := K.filter fun y => !decide (y = x)
theorem kPut_mem {K : List Int} {x y : Int} : y ∈ kPut K x ↔ y = x ∨ y ∈ K := by
  unfold kPut
  split
  · constructor
    · exact .inr
    · rintro (h | h)
      · rw [h]; assumption
      · exact h
  · rw [List.mem_append, List.mem_singleton, or_comm]
theorem kDel_mem {K : List Int} {x y : Int} : y ∈ kDel K x ↔ y ≠ x ∧ y ∈ K := by
  unfold kDel
  rw [List.mem_filter, and_comm]
  simp
theorem kPut_nodup {K : List Int} (h : K.Nodup) (x : Int) : (kPut K x).Nodup := by
  unfold kPut
  split
  · exact h
  · rename_i hx
    rw [List.nodup_append]
    exact ⟨h, by simp, fun a ha b hb => by simp at hb; subst hb; exact fun e => hx (e ▸ ha)⟩
theorem kDel_nodup {K : List Int} (h : K.Nodup) (x : Int) : (kDel K x).Nodup := h.filter _
theorem kDel_len {K : List Int} (h : K.Nodup) {x : Int} (hx : x ∈ K) : (kDel K x).length + 1 = K.length := by
  induction K with
  | nil => simp at hx
  | cons a K ih =>
    rw [List.nodup_cons] at h
    by_cases e : a = x
    · subst e
      have : kDel (a :: K) a = K := by
        unfold kDel
        rw [List.filter_cons_of_neg (by simp), List.filter_eq_self]
        intro b hb
        have : b ≠ a := fun e => h.1 (e ▸ hb)
        simp [this]
      rw [this]; rfl
    · rcases List.mem_cons.1 hx with hx | hx
      · exact absurd hx.symm e
      · have : kDel (a :: K) x = a :: kDel K x := by
          unfold kDel
          rw [List.filter_cons_of_pos (by simp [e])]
        rw [this, List.length_cons, ih h.2 hx, List.length_cons]
theorem kDel_none {K : List Int} {x : Int} (hx : x ∉ K) : kDel K x = K := by
  unfold kDel
  rw [List.filter_eq_self]
  intro b hb
  have : b ≠ x := fun e => hx (e ▸ hb)
  simp [this]
theorem mem_congr {A B : List Int} {x : Int} (h : x ∈ A ↔ x ∈ B) : mem A x = mem B x := by unfold mem; exact decide_eq_decide.2 h
theorem litNe {x y : Int} (h : y ≠ x) : (Lit.int .i64 y) ≠ Lit.int .i64 x := fun e => h (by injection e)
theorem NM.put {w : World} {b n K} (h : NM w b n K) {x : Int} (hx : In64 x) (hn : n < maxLen) :
    ∃ w', (Instr.mapUpdate 41 (.map (some b)) (.int .i64 x) (.bool true)).run Try.prog w = .ok () w' ∧ NM w' b (n + 1) (kPut K x) ∧ w.grownBy w' (some b) := by
  obtain ⟨D, h, hm, h2, h1, h5⟩ := h
  obtain ⟨w', hrun, ho, hg⟩ := h.update law3 Try.underlying41 hn (keyOf_int_mk Try.underlying3 hx.wf) (plainElem_bool Try.underlying4 true)
  have hk : WideAt.IsKeyLit (Lit.int .i64 x) = true := by simp [WideAt.IsKeyLit]
  refine ⟨w', hrun, ⟨_, ho, hm.put _ _, fun y => ?_, fun y => ?_, ?_⟩, hg⟩
  · by_cases e : y = x
    · subst e; rw [has_put_same hm (by simp [WideAt.IsKeyLit])]
      unfold mem; simp [kPut_mem]
    · rw [has_put_other (litNe e), h2]
      exact mem_congr (by rw [kPut_mem]; simp [e])
  · by_cases e : y = x
    · subst e; rw [atKey_put_same hm (by simp [WideAt.IsKeyLit])]
      unfold mem; simp [kPut_mem]
    · rw [atKey_put_other (litNe e), h1, mem_congr (A := K) (B := kPut K x) (by rw [kPut_mem]; simp [e])]
  · rw [size_put (h.tidy law3), h2, h5]
    unfold kPut mem
    by_cases e : x ∈ K
    · simp [e]
    · simp [e]
theorem NM.cut {w : World} {b n K} (h : NM w b n K) (hn : K.Nodup) {x : Int} (hx : In64 x) (ty : TypeId) :
    ∃ w', (Builtin.delete_ #[41, 3] ty #[.map (some b), .int .i64 x]).run Try.prog w = .ok (.tuple #[]) w' ∧ NM w' b n (kDel K x) ∧ w.grownBy w' (some b) := by
  obtain ⟨D, h, hm, h2, h1, h5⟩ := h
  obtain ⟨w', hrun, ho, hg⟩ := h.drop law3 Try.underlying41 (keyOf_int_mk Try.underlying3 hx.wf) ty
  refine ⟨w', hrun, ⟨_, ho, ?_, fun y => ?_, fun y => ?_, ?_⟩, hg.grown⟩
  · exact ho.isMap
  · by_cases e : y = x
    · subst e; rw [has_del_same]
      unfold mem; simp [kDel_mem]
    · rw [has_del_other (litNe e), h2]
      exact mem_congr (by rw [kDel_mem]; simp [e])
  · by_cases e : y = x
    · subst e
      rw [atKey_of_not_has has_del_same]
      unfold mem; simp [kDel_mem]
    · rw [atKey_del_other (litNe e), h1, mem_congr (A := K) (B := kDel K x) (by rw [kDel_mem]; simp [e])]
  · have := size_del (h.tidy law3) (k := .int .i64 x)
    rw [h2] at this
    by_cases e : x ∈ K
    · have h3 := kDel_len hn e
      unfold mem at this; simp [e] at this
      omega
    · rw [kDel_none e]
      unfold mem at this; simp [e] at this
      omega
theorem NM.len {w : World} {b n K} (h : NM w b n K) (ty : TypeId) : (Builtin.len_ #[41] ty #[.map (some b)]).run Try.prog w = .ok (.int .i64 K.length) w := by
  obtain ⟨D, h, _, _, _, h5⟩ := h
  rw [h.len Try.underlying41 ty, h5]
end Go.Proofs.Ytjohdkcgodaeiaa
