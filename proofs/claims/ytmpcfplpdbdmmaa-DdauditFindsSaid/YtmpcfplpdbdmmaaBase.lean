/- Blocks in memory: what the contracts of layer 25 (ddaudit) speak of. -/
import Derived.Test.YtmpcfplpdbdmmaaRows
import Derived.WalkKit
import Derived.ProofKit
import Derived.OpenShut
import Derived.Handy
import Derived.Lib.Hide
import Derived.WalkLawsBesides
import Derived.PlainAid
import Derived.Laws.OwnMore
import Derived.Deep.Draws
import Derived.Laws.Rows
import Derived.Deep.QuietTactic
import Derived.BigQuiet
import Derived.Maps.AppendAt
import Derived.OwnWalk
import Derived.StillTailTactics
import Derived.IntWalk
import Derived.ChangeKeysEq
import Derived.Deep.LoopGhost
import Derived.Maps.OwnOps
import Derived.Maps.OwnSet
import Derived.DeepKeys4
import Derived.Deep.Cut
import Derived.Deep.RegionHeld3
namespace Go.Proofs.Ytmpcfplpdbdmmaa
open Go.RowKit Go.Maps

def Blk (w : World) (g : Nat) (t : TypeId) (cs : Array Value) : Prop := w.heap[g]? = some (.cells cs t (0, 0))
section
variable {w w' : World} {g : Nat} {t : TypeId} {cs : Array Value}
theorem Blk.lt (h : Blk w g t cs) : g < w.heap.size := by
  rcases Nat.lt_or_ge g w.heap.size with hlt | hge
  · exact hlt
  · unfold Blk at h; rw [Array.getElem?_eq_none hge] at h; cases h
theorem Blk.cell (h : Blk w g t cs) (i : Nat) : w.cell? ⟨g, i, none⟩ = cs[i]? := cell_of_row w g i cs t (0, 0) h
theorem Blk.frozen (h : Blk w g t cs) (i : Nat) : w.frozen? ⟨g, i, none⟩ = false := by
  unfold Blk at h
  simp [World.frozen?, h]
theorem Blk.new (w : World) (t : TypeId) (cs : Array Value) : Blk (w.alloc (.cells cs t)) w.heap.size t cs := heap_alloc_new w _
theorem Blk.drewN (h : Blk w g t cs) (n : Nat) : Blk (w.drewN n) g t cs := h
theorem Blk.set_ (h : Blk w g t cs) (i : Nat) (u : Value) : Blk (w.setCell ⟨g, i, none⟩ u) g t (cs.setIfInBounds i u) := by
  unfold Blk at h ⊢
  simp [World.setCell, Array.getElem?_modify, h]
theorem Blk.set_other (h : Blk w g t cs) {b : Nat} (hb : b ≠ g) (i : Nat) (u : Value) : Blk (w.setCell ⟨b, i, none⟩ u) g t cs := by
  unfold Blk at h ⊢
  simp [World.setCell, Array.getElem?_modify, h, hb]
theorem Blk.below {B : Nat} (h : Blk w g t cs) (hb : Below B w w') (hg : g < B) : Blk w' g t cs := (hb.block g hg).trans h
theorem Blk.alloc (h : Blk w g t cs) (o : Obj) : Blk (w.alloc o) g t cs := by
  have hb : Below w.heap.size w (w.alloc o) := (Below.refl _ _).alloc (Nat.le_refl _) _
  exact h.below hb h.lt
end

/-- A node. -/
structure Nd where
  id : Int
  v : Int
  lo : Int
  hi : Int
  refs : Int
deriving DecidableEq
def In64 (x : Int) : Prop := -9223372036854775808 ≤ x ∧ x ≤ 9223372036854775807
structure Nd.ok (x : Nd) : Prop where
  id : In64 x.id
  v : In64 x.v
  lo : In64 x.lo
  hi : In64 x.hi
theorem In64.wf {x : Int} (h : In64 x) : (Lit.int .i64 x).wf = true := WalkArith.wf_i64 h
def ndR (x : Nd) : Array Value := #[.int .i64 x.id, .int .i64 x.v, .int .i64 x.lo, .int .i64 x.hi, .int .i64 x.refs]
def ndV (x : Nd) : Value := .agg (ndR x)

theorem law3 : Keyed Try.prog 3 := int_keyed Try.underlying3
theorem zero3 (w : World) : (zeroValue 3).run Try.prog w = .ok (.int .i64 0) w := by kernel_rfl
theorem zero4 (w : World) : (zeroValue 4).run Try.prog w = .ok (.bool false) w := by kernel_rfl
theorem laidB : laidOutB Try.prog = true := by kernel_rfl
theorem wide52 : (match Try.prog.underlying 52 with | some (.array _ _) | some (.struct _) => true | _ => false) = true := by rw [Try.underlying52]
theorem law52 : Keyed Try.prog 52 := Keyed.of_law (deep_law_laid laidB (m := 2) (by omega) (of_decide_eq_true (by kernel_rfl)) (by kernel_rfl) wide52)
noncomputable def skey (v lo hi : Int) : Lit := (keyOf Try.prog 52 (.agg #[.int .i64 v, .int .i64 lo, .int .i64 hi])).getD .nil
theorem keyT52 : Try.prog.keyType 52 = true := by kernel_rfl
theorem cells52 : Try.prog.cellsOf 52 = 3 := by kernel_rfl
theorem cells3 : Try.prog.cellsOf 3 = 1 := by kernel_rfl
theorem formed52 {c0 c1 c2 : Value} : (Value.agg #[c0, c1, c2]).formed Try.prog 52 = true := by simp [Value.formed, Try.underlying52, cells52]
theorem skey_of {v lo hi : Int} (h1 : In64 v) (h2 : In64 lo) (h3 : In64 hi) : keyOf Try.prog 52 (.agg #[.int .i64 v, .int .i64 lo, .int .i64 hi]) = some (skey v lo hi) := by
  have w1 := h1.wf
  have w2 := h2.wf
  have w3 := h3.wf
  have e : ∃ l, keyOf Try.prog 52 (.agg #[.int .i64 v, .int .i64 lo, .int .i64 hi]) = some l := by
    obtain ⟨m, hm⟩ : ∃ m, Try.prog.types.size = m + 1 := Nat.exists_eq_succ_of_ne_zero (Nat.pos_iff_ne_zero.1 (of_decide_eq_true (by kernel_rfl)))
    unfold keyOf
    rw [Try.underlying52, hm]
    simp [keyT52, formed52, Value.cells, Program.keyLits, Try.underlying52, Try.underlying3, cells52, cells3, w1, w2, w3]
  obtain ⟨l, hl⟩ := e
  unfold skey
  rw [hl]
  rfl
theorem skey_inj {v lo hi v' lo' hi' : Int} (h1 : In64 v) (h2 : In64 lo) (h3 : In64 hi) (h1' : In64 v') (h2' : In64 lo') (h3' : In64 hi') (h : skey v lo hi = skey v' lo' hi') : v = v' ∧ lo = lo' ∧ hi = hi' := by
  have a := skey_of h1 h2 h3
  have b := skey_of h1' h2' h3'
  rw [← h] at b
  have := law52.inj a b
  simpa using this

/-- A map of int to int in block b holds F. -/
def IM (w : World) (b n : Nat) (F : Int → Option Int) : Prop :=
  ∃ D : DataW Unit, w.ownsMap Try.prog 3 (plainElem Try.prog 3) b n D ∧ IsMap D ∧ (∀ x, Maps.has D (.int .i64 x) = (F x).isSome) ∧ ∀ x v, F x = some v → ∀ z, D.atKey (.int .i64 x) z = .lit (.int .i64 v)
/-- .. with whatever number of entries. -/
def XM (w : World) (b : Nat) (F : Int → Option Int) : Prop := ∃ n, IM w b n F
/-- A map to bool in block b holds S. -/
def BM (w : World) (k b n : Nat) (S : Lit → Bool) : Prop :=
  ∃ D : DataW Unit, w.ownsMap Try.prog k (plainElem Try.prog 4) b n D ∧ IsMap D ∧ ∀ kl, D.atKey kl (.lit (.bool false)) = .lit (.bool (S kl))
theorem IM.lt {w : World} {b n F} (h : IM w b n F) : b < w.heap.size := by obtain ⟨D, h, _⟩ := h; exact h.lt
theorem BM.lt {w : World} {k b n S} (h : BM w k b n S) : b < w.heap.size := by obtain ⟨D, h, _⟩ := h; exact h.lt
theorem own_below {w w' : World} {k b n : Nat} {R} {D : DataW Unit} {B : Nat} (h : w.ownsMap Try.prog k R b n D) (hb : Below B w w') (hB : b < B) : w'.ownsMap Try.prog k R b n D := by
  obtain ⟨es, clock, h1, h2⟩ := h
  exact ⟨es, clock, (hb.block b hB).trans h1, h2⟩
theorem IM.below {w w' : World} {b n F} {B : Nat} (h : IM w b n F) (hb : Below B w w') (hB : b < B) : IM w' b n F := by
  obtain ⟨D, h, r⟩ := h
  exact ⟨D, own_below h hb hB, r⟩
theorem XM.lt {w : World} {b F} (h : XM w b F) : b < w.heap.size := by obtain ⟨n, h⟩ := h; exact h.lt
theorem XM.below {w w' : World} {b F} {B : Nat} (h : XM w b F) (hb : Below B w w') (hB : b < B) : XM w' b F := by
  obtain ⟨n, h⟩ := h
  exact ⟨n, h.below hb hB⟩
theorem BM.below {w w' : World} {k b n S} {B : Nat} (h : BM w k b n S) (hb : Below B w w') (hB : b < B) : BM w' k b n S := by
  obtain ⟨D, h, r⟩ := h
  exact ⟨D, own_below h hb hB, r⟩
theorem IM.grown {w w' : World} {b n F} {g : Nat} (h : IM w b n F) (hg : w.grownBy w' (some g)) (hne : b ≠ g) : IM w' b n F := by
  obtain ⟨D, h, r⟩ := h
  exact ⟨D, h.kept hg (by simp [hne]), r⟩
theorem XM.grown {w w' : World} {b F} {g : Nat} (h : XM w b F) (hg : w.grownBy w' (some g)) (hne : b ≠ g) : XM w' b F := by
  obtain ⟨n, h⟩ := h
  exact ⟨n, h.grown hg hne⟩
theorem BM.grown {w w' : World} {k b n S} {g : Nat} (h : BM w k b n S) (hg : w.grownBy w' (some g)) (hne : b ≠ g) : BM w' k b n S := by
  obtain ⟨D, h, r⟩ := h
  exact ⟨D, h.kept hg (by simp [hne]), r⟩
theorem IM.mono {w : World} {b n F} {m : Nat} (h : IM w b n F) (hm : n ≤ m) : IM w b m F := by
  obtain ⟨D, h, r⟩ := h
  exact ⟨D, h.mono hm, r⟩
theorem BM.mono {w : World} {k b n S} {m : Nat} (h : BM w k b n S) (hm : n ≤ m) : BM w k b m S := by
  obtain ⟨D, h, r⟩ := h
  exact ⟨D, h.mono hm, r⟩
theorem IM.made (w : World) : IM (w.alloc (.map #[] 0)) w.heap.size 0 (fun _ => none) := ⟨.map [], World.ownsMap_made _ _ _ _, isMap_empty, fun _ => rfl, fun x v h => by cases h⟩
theorem BM.made (w : World) (k : Nat) : BM (w.alloc (.map #[] 0)) k w.heap.size 0 (fun _ => false) := ⟨.map [], World.ownsMap_made _ _ _ _, isMap_empty, fun _ => rfl⟩
/-- A lookup with ok. -/
theorem IM.look {w : World} {b n F} (h : IM w b n F) {x : Int} (hx : In64 x) : ∃ c : Int, (Instr.lookup 33 (.map (some b)) (.int .i64 x) true).run Try.prog w = .ok (.tuple #[.int .i64 c, .bool (F x).isSome]) w ∧ (∀ v, F x = some v → c = v) ∧ In64 c := by
  obtain ⟨D, h, _, h1, h2⟩ := h
  obtain ⟨v, ps, hrun, hv⟩ := h.look_ok law3 Try.underlying33 (zero3 w) (plainElem_int Try.underlying3 (by decide)) (keyOf_int_mk Try.underlying3 hx.wf)
  obtain ⟨c, rfl, hc, hw⟩ := plainElem_int_inv Try.underlying3 hv
  rw [h1] at hrun
  refine ⟨c, hrun, fun u hu => ?_, by simpa [In64, Lit.wf, IntKind.min, IntKind.max, IntKind.signed, IntKind.bits] using hw⟩
  have hc := congrArg Prod.fst hc
  simp only at hc
  rw [h2 x u hu] at hc
  injection hc with hc; injection hc with _ hc; exact hc.symm
theorem XM.look {w : World} {b F} (h : XM w b F) {x : Int} (hx : In64 x) : ∃ c : Int, (Instr.lookup 33 (.map (some b)) (.int .i64 x) true).run Try.prog w = .ok (.tuple #[.int .i64 c, .bool (F x).isSome]) w ∧ (∀ v, F x = some v → c = v) ∧ In64 c := by
  obtain ⟨n, h⟩ := h
  exact h.look hx
theorem BM.look {w : World} {t k b n S} (h : BM w k b n S) (K : Keyed Try.prog k) (ht : Try.prog.underlying t = some (.map k 4)) {key : Value} {kl : Lit} (hk : keyOf Try.prog k key = some kl) : (Instr.lookup t (.map (some b)) key false).run Try.prog w = .ok (.bool (S kl)) w := by
  obtain ⟨D, h, _, h1⟩ := h
  obtain ⟨v, ps, hrun, hv⟩ := h.lookup K ht (zero4 w) (plainElem_bool Try.underlying4 false) hk
  rw [h1] at hv
  have : v = .bool (S kl) := by
    unfold plainElem at hv
    rw [Try.underlying4] at hv
    cases v <;> simp at hv
    rw [hv.1]
  rw [← this]; exact hrun
def putF (F : Int → Option Int) (x v : Int) : Int → Option Int := fun y => if y = x then some v else F y
theorem IM.put {w : World} {b n F} (h : IM w b n F) {x v : Int} (hx : In64 x) (hv : In64 v) (hn : n < maxLen) : ∃ w', (Instr.mapUpdate 33 (.map (some b)) (.int .i64 x) (.int .i64 v)).run Try.prog w = .ok () w' ∧ IM w' b (n + 1) (putF F x v) ∧ w.grownBy w' (some b) := by
  obtain ⟨D, h, hm, h1, h2⟩ := h
  obtain ⟨w', hrun, ho, hg⟩ := h.update law3 Try.underlying33 hn (keyOf_int_mk Try.underlying3 hx.wf) (plainElem_int Try.underlying3 hv.wf)
  refine ⟨w', hrun, ⟨_, ho, hm.put _ _, fun y => ?_, fun y u hu z => ?_⟩, hg⟩
  · unfold putF
    by_cases e : y = x
    · subst e; rw [has_put_same hm (by simp [WideAt.IsKeyLit])]; simp
    · rw [has_put_other (by simp [e]), h1]; simp [e]
  · unfold putF at hu
    by_cases e : y = x
    · subst e; rw [atKey_put_same hm (by simp [WideAt.IsKeyLit])]; simp at hu; rw [hu]
    · rw [atKey_put_other (by simp [e])]; simp [e] at hu; exact h2 y u hu z
theorem BM.put {w : World} {t k b n S} (h : BM w k b n S) (K : Keyed Try.prog k) (ht : Try.prog.underlying t = some (.map k 4)) {key : Value} {kl : Lit} (hk : keyOf Try.prog k key = some kl) (hn : n < maxLen) : ∃ w', (Instr.mapUpdate t (.map (some b)) key (.bool true)).run Try.prog w = .ok () w' ∧ BM w' k b (n + 1) (fun l => open Classical in if l = kl then true else S l) ∧ w.grownBy w' (some b) := by
  obtain ⟨D, h, hm, h1⟩ := h
  obtain ⟨w', hrun, ho, hg⟩ := h.update K ht hn hk (plainElem_bool Try.underlying4 true)
  refine ⟨w', hrun, ⟨_, ho, hm.put _ _, fun l => ?_⟩, hg⟩
  by_cases e : l = kl
  · subst e; rw [atKey_put_same hm (K.key hk)]; simp
  · rw [atKey_put_other e, h1]; simp [e]
end Go.Proofs.Ytmpcfplpdbdmmaa
