/- Maps of integers to truths and to integers in memory; layer 42 (sched). -/
import Derived.Test.YtjohdkcgodaeiaaBase
import Derived.ChangeKeysEq
import Derived.Maps.OwnOps
import Derived.Maps.OwnSet
import Derived.DeepKeys4
import Derived.Deep.Cut
import Derived.Deep.RegionHeld3
namespace Go.Proofs.Ytjohdkcgodaeiaa
open Go.RowKit Go.Maps

def In64 (x : Int) : Prop := -9223372036854775808 ≤ x ∧ x ≤ 9223372036854775807
theorem In64.wf {x : Int} (h : In64 x) : (Lit.int .i64 x).wf = true := WalkArith.wf_i64 h
theorem in64_of {x : Int} (h : (Lit.int .i64 x).wf = true) : In64 x := by simpa [In64, Lit.wf, IntKind.min, IntKind.max, IntKind.signed, IntKind.bits] using h
theorem law3 : Keyed Try.prog 3 := int_keyed Try.underlying3
theorem zero3 (w : World) : (zeroValue 3).run Try.prog w = .ok (.int .i64 0) w := by kernel_rfl
theorem zero4 (w : World) : (zeroValue 4).run Try.prog w = .ok (.bool false) w := by kernel_rfl
/-- A map of integers to truths in block b holds S. -/
def SM (w : World) (b n : Nat) (S : Int → Bool) : Prop :=
  ∃ D : DataW Unit, w.ownsMap Try.prog 3 (plainElem Try.prog 4) b n D ∧ IsMap D ∧ ∀ x, D.atKey (.int .i64 x) (.lit (.bool false)) = .lit (.bool (S x))
/-- A map of integers to integers in block b holds F. -/
def LM (w : World) (b n : Nat) (F : Int → Int) : Prop :=
  ∃ D : DataW Unit, w.ownsMap Try.prog 3 (plainElem Try.prog 3) b n D ∧ IsMap D ∧ ∀ x, D.atKey (.int .i64 x) (.lit (.int .i64 0)) = .lit (.int .i64 (F x))
theorem own_at {w w' : World} {k b n : Nat} {R} {D : DataW Unit} (h : w.ownsMap Try.prog k R b n D) (hb : w'.heap[b]? = w.heap[b]?) : w'.ownsMap Try.prog k R b n D := by
  obtain ⟨es, clock, h1, h2⟩ := h
  exact ⟨es, clock, hb.trans h1, h2⟩
theorem SM.lt {w : World} {b n S} (h : SM w b n S) : b < w.heap.size := by obtain ⟨D, h, _⟩ := h; exact h.lt
theorem LM.lt {w : World} {b n F} (h : LM w b n F) : b < w.heap.size := by obtain ⟨D, h, _⟩ := h; exact h.lt
theorem SM.at {w w' : World} {b n S} (h : SM w b n S) (hb : w'.heap[b]? = w.heap[b]?) : SM w' b n S := by
  obtain ⟨D, h, r⟩ := h
  exact ⟨D, own_at h hb, r⟩
theorem LM.at {w w' : World} {b n F} (h : LM w b n F) (hb : w'.heap[b]? = w.heap[b]?) : LM w' b n F := by
  obtain ⟨D, h, r⟩ := h
  exact ⟨D, own_at h hb, r⟩
theorem SM.made (w : World) : SM (w.alloc (.map #[] 0)) w.heap.size 0 (fun _ => false) := ⟨.map [], World.ownsMap_made _ _ _ _, isMap_empty, fun _ => rfl⟩
theorem LM.made (w : World) : LM (w.alloc (.map #[] 0)) w.heap.size 0 (fun _ => 0) := ⟨.map [], World.ownsMap_made _ _ _ _, isMap_empty, fun _ => rfl⟩
theorem SM.look {w : World} {b n S} (h : SM w b n S) {x : Int} (hx : In64 x) : (Instr.lookup 41 (.map (some b)) (.int .i64 x) false).run Try.prog w = .ok (.bool (S x)) w := by
  obtain ⟨D, h, _, h1⟩ := h
  obtain ⟨v, ps, hrun, hv⟩ := h.lookup law3 Try.underlying41 (zero4 w) (plainElem_bool Try.underlying4 false) (keyOf_int_mk Try.underlying3 hx.wf)
  rw [h1] at hv
  have : v = .bool (S x) := by
    unfold plainElem at hv
    rw [Try.underlying4] at hv
    cases v <;> simp at hv
    rw [hv.1]
  rw [← this]; exact hrun
theorem LM.look {w : World} {b n F} (h : LM w b n F) {x : Int} (hx : In64 x) : (Instr.lookup 46 (.map (some b)) (.int .i64 x) false).run Try.prog w = .ok (.int .i64 (F x)) w := by
  obtain ⟨D, h, _, h1⟩ := h
  obtain ⟨v, ps, hrun, hv⟩ := h.lookup law3 Try.underlying46 (zero3 w) (plainElem_int Try.underlying3 (by decide)) (keyOf_int_mk Try.underlying3 hx.wf)
  rw [h1] at hv
  obtain ⟨c, rfl, hc, hw⟩ := plainElem_int_inv Try.underlying3 hv
  have hc := congrArg Prod.fst hc
  simp only at hc
  injection hc with hc; injection hc with _ hc
  rw [hc]; exact hrun
theorem SM.put {w : World} {b n S} (h : SM w b n S) {x : Int} (hx : In64 x) (hn : n < maxLen) : ∃ w', (Instr.mapUpdate 41 (.map (some b)) (.int .i64 x) (.bool true)).run Try.prog w = .ok () w' ∧ SM w' b (n + 1) (fun y => decide (y = x) || S y) ∧ w.grownBy w' (some b) := by
  obtain ⟨D, h, hm, h1⟩ := h
  obtain ⟨w', hrun, ho, hg⟩ := h.update law3 Try.underlying41 hn (keyOf_int_mk Try.underlying3 hx.wf) (plainElem_bool Try.underlying4 true)
  refine ⟨w', hrun, ⟨_, ho, hm.put _ _, fun y => ?_⟩, hg⟩
  by_cases e : y = x
  · subst e; rw [atKey_put_same hm (by simp [WideAt.IsKeyLit])]; simp
  · rw [atKey_put_other (by simp [e]), h1]; simp [e]
def setF (F : Int → Int) (x v : Int) : Int → Int := fun y => if y = x then v else F y
theorem LM.put {w : World} {b n F} (h : LM w b n F) {x v : Int} (hx : In64 x) (hv : In64 v) (hn : n < maxLen) : ∃ w', (Instr.mapUpdate 46 (.map (some b)) (.int .i64 x) (.int .i64 v)).run Try.prog w = .ok () w' ∧ LM w' b (n + 1) (setF F x v) ∧ w.grownBy w' (some b) := by
  obtain ⟨D, h, hm, h1⟩ := h
  obtain ⟨w', hrun, ho, hg⟩ := h.update law3 Try.underlying46 hn (keyOf_int_mk Try.underlying3 hx.wf) (plainElem_int Try.underlying3 hv.wf)
  refine ⟨w', hrun, ⟨_, ho, hm.put _ _, fun y => ?_⟩, hg⟩
  unfold setF
  by_cases e : y = x
  · subst e; rw [atKey_put_same hm (by simp [WideAt.IsKeyLit])]; simp
  · rw [atKey_put_other (by simp [e]), h1]; simp [e]
theorem SM.mono {w : World} {b n S} {m : Nat} (h : SM w b n S) (hm : n ≤ m) : SM w b m S := by
  obtain ⟨D, h, r⟩ := h
  exact ⟨D, h.mono hm, r⟩
theorem LM.mono {w : World} {b n F} {m : Nat} (h : LM w b n F) (hm : n ≤ m) : LM w b m F := by
  obtain ⟨D, h, r⟩ := h
  exact ⟨D, h.mono hm, r⟩
end Go.Proofs.Ytjohdkcgodaeiaa
