/- Blocks in memory: what the contracts of layer 10 (uniq) speak of. -/
import Derived.Test.YtmnolldomipgiaaRows
import Derived.WalkKit
import Derived.ProofKit
import Derived.OpenShut
import Derived.Handy
import Derived.Lib.Hide
import Derived.WalkLawsBesides
import Derived.PlainAid
import Derived.Laws.OwnMore
import Derived.Deep.Draws
import Derived.Laws.Rows
import Derived.Deep.QuietTactic
import Derived.BigQuiet
import Derived.Maps.AppendAt
import Derived.OwnWalk
import Derived.StillTailTactics
import Derived.IntWalk
import Derived.ChangeKeysEq
import Derived.Deep.LoopGhost
import Derived.Maps.OwnOps
import Derived.Maps.OwnSet
import Derived.DeepKeys4
import Derived.Deep.Cut
import Derived.Deep.RegionHeld3
namespace Go.Proofs.Ytmnolldomipgiaa
open Go.RowKit Go.Maps

def Blk (w : World) (g : Nat) (t : TypeId) (cs : Array Value) : Prop := w.heap[g]? = some (.cells cs t (0, 0))
section
variable {w w' : World} {g : Nat} {t : TypeId} {cs : Array Value}
theorem Blk.lt (h : Blk w g t cs) : g < w.heap.size := by
  rcases Nat.lt_or_ge g w.heap.size with hlt | hge
  · exact hlt
  · unfold Blk at h; rw [Array.getElem?_eq_none hge] at h; cases h
theorem Blk.cell (h : Blk w g t cs) (i : Nat) : w.cell? ⟨g, i, none⟩ = cs[i]? := cell_of_row w g i cs t (0, 0) h
theorem Blk.frozen (h : Blk w g t cs) (i : Nat) : w.frozen? ⟨g, i, none⟩ = false := by
  unfold Blk at h
  simp [World.frozen?, h]
theorem Blk.new (w : World) (t : TypeId) (cs : Array Value) : Blk (w.alloc (.cells cs t)) w.heap.size t cs := heap_alloc_new w _
theorem Blk.drewN (h : Blk w g t cs) (n : Nat) : Blk (w.drewN n) g t cs := h
theorem Blk.set_ (h : Blk w g t cs) (i : Nat) (u : Value) : Blk (w.setCell ⟨g, i, none⟩ u) g t (cs.setIfInBounds i u) := by
  unfold Blk at h ⊢
  simp [World.setCell, Array.getElem?_modify, h]
theorem Blk.set_other (h : Blk w g t cs) {b : Nat} (hb : b ≠ g) (i : Nat) (u : Value) : Blk (w.setCell ⟨b, i, none⟩ u) g t cs := by
  unfold Blk at h ⊢
  simp [World.setCell, Array.getElem?_modify, h, hb]
theorem Blk.below {B : Nat} (h : Blk w g t cs) (hb : Below B w w') (hg : g < B) : Blk w' g t cs := (hb.block g hg).trans h
theorem Blk.alloc (h : Blk w g t cs) (o : Obj) : Blk (w.alloc o) g t cs := by
  have hb : Below w.heap.size w (w.alloc o) := (Below.refl _ _).alloc (Nat.le_refl _) _
  exact h.below hb h.lt
end

/-- An entry: its pair and its number. -/
structure En where
  lo : Int
  hi : Int
  id : Int
deriving DecidableEq
def In64 (x : Int) : Prop := -9223372036854775808 ≤ x ∧ x ≤ 9223372036854775807
theorem In64.wf {x : Int} (h : In64 x) : (Lit.int .i64 x).wf = true := WalkArith.wf_i64 h
theorem in64_of {x : Int} (h : (Lit.int .i64 x).wf = true) : In64 x := by simpa [In64, Lit.wf, IntKind.min, IntKind.max, IntKind.signed, IntKind.bits] using h
structure En.ok (x : En) : Prop where
  lo : In64 x.lo
  hi : In64 x.hi
  id : In64 x.id

theorem zero3 (w : World) : (zeroValue 3).run Try.prog w = .ok (.int .i64 0) w := by kernel_rfl
theorem laidB : laidOutB Try.prog = true := by kernel_rfl
theorem wide53 : (match Try.prog.underlying 53 with | some (.array _ _) | some (.struct _) => true | _ => false) = true := by rw [Try.underlying53]
theorem law53 : Keyed Try.prog 53 := Keyed.of_law (deep_law_laid laidB (m := 2) (by omega) (of_decide_eq_true (by kernel_rfl)) (by kernel_rfl) wide53)
noncomputable def akey (lo hi : Int) : Lit := (keyOf Try.prog 53 (.agg #[.int .i64 lo, .int .i64 hi])).getD .nil
theorem keyT53 : Try.prog.keyType 53 = true := by kernel_rfl
theorem cells53 : Try.prog.cellsOf 53 = 2 := by kernel_rfl
theorem cells36 : Try.prog.cellsOf 36 = 1 := by kernel_rfl
theorem formed53 {c0 c1 : Value} : (Value.agg #[c0, c1]).formed Try.prog 53 = true := by simp [Value.formed, Try.underlying53, cells53]
theorem akey_of {lo hi : Int} (h1 : In64 lo) (h2 : In64 hi) : keyOf Try.prog 53 (.agg #[.int .i64 lo, .int .i64 hi]) = some (akey lo hi) := by
  have w1 := h1.wf
  have w2 := h2.wf
  have e : ∃ l, keyOf Try.prog 53 (.agg #[.int .i64 lo, .int .i64 hi]) = some l := by
    obtain ⟨m, hm⟩ : ∃ m, Try.prog.types.size = m + 1 := Nat.exists_eq_succ_of_ne_zero (Nat.pos_iff_ne_zero.1 (of_decide_eq_true (by kernel_rfl)))
    unfold keyOf
    rw [Try.underlying53, hm]
    simp [keyT53, formed53, Value.cells, Program.keyLits, Try.underlying53, Try.underlying36, cells53, cells36, w1, w2, List.range, List.range.loop]
  obtain ⟨l, hl⟩ := e
  unfold akey
  rw [hl]
  rfl
theorem akey_inj {lo hi lo' hi' : Int} (h1 : In64 lo) (h2 : In64 hi) (h1' : In64 lo') (h2' : In64 hi') (h : akey lo hi = akey lo' hi') : lo = lo' ∧ hi = hi' := by
  have a := akey_of h1 h2
  have b := akey_of h1' h2'
  rw [← h] at b
  have := law53.inj a b
  simpa using this
theorem akey_inv {v : Value} {l : Lit} (h : keyOf Try.prog 53 v = some l) : ∃ lo hi, In64 lo ∧ In64 hi ∧ v = .agg #[.int .i64 lo, .int .i64 hi] := by
  obtain ⟨m, hm⟩ : ∃ m, Try.prog.types.size = m + 1 := Nat.exists_eq_succ_of_ne_zero (Nat.pos_iff_ne_zero.1 (of_decide_eq_true (by kernel_rfl)))
  unfold keyOf at h
  rw [Try.underlying53, hm] at h
  dsimp only at h
  have hf : Value.formed Try.prog 53 v = true := by
    cases hq : Value.formed Try.prog 53 v with
    | true => rfl
    | false => rw [hq, Bool.and_false] at h; cases h
  rw [hf, keyT53] at h
  cases v with
  | agg cs =>
    have h2 : cs.size = 2 := by simpa [Value.formed, Try.underlying53, cells53] using hf
    obtain ⟨a, b, rfl⟩ : ∃ a b, cs = #[a, b] := by
      obtain ⟨l⟩ := cs
      match l, h2 with
      | [a, b], _ => exact ⟨a, b, rfl⟩
    simp [Value.cells, Program.keyLits, Try.underlying53, cells53, cells36, List.range, List.range.loop, Try.underlying36] at h
    cases a with
    | int ka na =>
      by_cases ha : ka = .i64 ∧ (Lit.int .i64 na).wf = true
      · cases b with
        | int kb nb =>
          by_cases hb : kb = .i64 ∧ (Lit.int .i64 nb).wf = true
          · exact ⟨na, nb, in64_of ha.2, in64_of hb.2, by rw [ha.1, hb.1]⟩
          · simp [ha, hb] at h
        | _ => simp [ha] at h
      · cases b <;> simp [ha] at h
    | _ => simp at h
  | _ => simp [Value.formed, Try.underlying53] at hf
def lookE (M : List En) (lo hi : Int) : Option Int := (M.find? (fun e => decide (e.lo = lo ∧ e.hi = hi))).map (·.id)
theorem lookE_some {M : List En} {lo hi id : Int} (h : lookE M lo hi = some id) : (⟨lo, hi, id⟩ : En) ∈ M := by
  unfold lookE at h
  cases e : M.find? (fun e => decide (e.lo = lo ∧ e.hi = hi)) with
  | none => rw [e] at h; cases h
  | some x =>
    rw [e] at h
    have h1 := List.mem_of_find?_eq_some e
    have h2 := List.find?_some e
    simp at h h2
    obtain ⟨a, b, c⟩ := x
    simp at h h2
    obtain ⟨rfl, rfl⟩ := h2
    subst h
    exact h1
theorem lookE_none {M : List En} {lo hi : Int} (h : lookE M lo hi = none) (id : Int) : (⟨lo, hi, id⟩ : En) ∉ M := by
  unfold lookE at h
  rw [Option.map_eq_none_iff, List.find?_eq_none] at h
  intro hm
  have := h _ hm
  simp at this
/-- A map of pairs to numbers in block b holds the entries M. -/
def UT (w : World) (b n : Nat) (M : List En) : Prop :=
  ∃ D : DataW Unit, w.ownsMap Try.prog 53 (plainElem Try.prog 3) b n D ∧ (∀ lo hi, In64 lo → In64 hi → (Maps.has D (akey lo hi) = true ↔ ∃ id, (⟨lo, hi, id⟩ : En) ∈ M)) ∧ (∀ e ∈ M, e.ok ∧ ∀ z, D.atKey (akey e.lo e.hi) z = .lit (.int .i64 e.id)) ∧ Maps.size D = M.length
theorem UT.ok {w : World} {b n M} (h : UT w b n M) {e : En} (he : e ∈ M) : e.ok := by obtain ⟨D, _, _, h3, _⟩ := h; exact (h3 e he).1
theorem UT.one {w : World} {b n M} (h : UT w b n M) {e e' : En} (he : e ∈ M) (he' : e' ∈ M) (h1 : e.lo = e'.lo) (h2 : e.hi = e'.hi) : e = e' := by
  obtain ⟨D, _, _, h3, _⟩ := h
  have a := (h3 e he).2 .nil
  have c := (h3 e' he').2 .nil
  rw [h1, h2, c] at a
  injection a with a
  injection a with _ a
  obtain ⟨x, y, z⟩ := e
  obtain ⟨x', y', z'⟩ := e'
  simp at h1 h2 a
  subst h1; subst h2; subst a; rfl
theorem UT.lt {w : World} {b n M} (h : UT w b n M) : b < w.heap.size := by obtain ⟨D, h, _⟩ := h; exact h.lt
theorem UT.below {w w' : World} {b n M} {B : Nat} (h : UT w b n M) (hb : Below B w w') (hB : b < B) : UT w' b n M := by
  obtain ⟨D, ⟨es, clock, h1, h2⟩, r⟩ := h
  exact ⟨D, ⟨es, clock, (hb.block b hB).trans h1, h2⟩, r⟩
theorem UT.grown {w w' : World} {b n M} {g : Nat} (h : UT w b n M) (hg : w.grownBy w' (some g)) (hne : b ≠ g) : UT w' b n M := by
  obtain ⟨D, h, r⟩ := h
  exact ⟨D, h.kept hg (by simp [hne]), r⟩
theorem UT.mono {w : World} {b n M} {m : Nat} (h : UT w b n M) (hm : n ≤ m) : UT w b m M := by
  obtain ⟨D, h, r⟩ := h
  exact ⟨D, h.mono hm, r⟩
theorem UT.drew {w : World} {b n M} (h : UT w b n M) : UT w.drew b n M := h
theorem UT.made (w : World) : UT (w.alloc (.map #[] 0)) w.heap.size 0 [] := ⟨.map [], World.ownsMap_made _ _ _ _, fun _ _ _ _ => ⟨(fun h => by cases h), (fun ⟨_, h⟩ => by cases h)⟩, (fun e h => by cases h), rfl⟩
theorem UT.look {w : World} {b n M} (h : UT w b n M) {lo hi : Int} (h1 : In64 lo) (h2 : In64 hi) : (Instr.lookup 48 (.map (some b)) (.agg #[.int .i64 lo, .int .i64 hi]) true).run Try.prog w = .ok (.tuple #[.int .i64 ((lookE M lo hi).getD 0), .bool (lookE M lo hi).isSome]) w := by
  obtain ⟨D, h, h3, h4, _⟩ := h
  obtain ⟨v, ps, hrun, hv⟩ := h.look_ok law53 Try.underlying48 (zero3 w) (plainElem_int Try.underlying3 (by decide)) (akey_of h1 h2)
  obtain ⟨c, rfl, hc, hw⟩ := plainElem_int_inv Try.underlying3 hv
  have hc := congrArg Prod.fst hc
  simp only at hc
  cases e : lookE M lo hi with
  | none =>
    have hh : Maps.has D (akey lo hi) = false := by
      cases q : Maps.has D (akey lo hi) with
      | false => rfl
      | true => obtain ⟨id, hm⟩ := (h3 lo hi h1 h2).1 q; exact absurd hm (lookE_none e id)
    rw [atKey_of_not_has hh] at hc
    injection hc with hc; injection hc with _ hc
    rw [hrun, hh, ← hc]; rfl
  | some id =>
    have hm := lookE_some e
    have hh : Maps.has D (akey lo hi) = true := (h3 lo hi h1 h2).2 ⟨id, hm⟩
    rw [(h4 _ hm).2] at hc
    injection hc with hc; injection hc with _ hc
    rw [hrun, hh, ← hc]; rfl
theorem UT.put {w : World} {b n M} (h : UT w b n M) {x : En} (hx : x.ok) (hno : lookE M x.lo x.hi = none) (hn : n < maxLen) {M' : List En} (hM : ∀ e, e ∈ M' ↔ e = x ∨ e ∈ M) (hl : M'.length = M.length + 1) :
    ∃ w', (Instr.mapUpdate 48 (.map (some b)) (.agg #[.int .i64 x.lo, .int .i64 x.hi]) (.int .i64 x.id)).run Try.prog w = .ok () w' ∧ UT w' b (n + 1) M' ∧ w.grownBy w' (some b) := by
  obtain ⟨D, h, h3, h4, h5⟩ := h
  obtain ⟨w', hrun, ho, hg⟩ := h.update law53 Try.underlying48 hn (akey_of hx.lo hx.hi) (plainElem_int Try.underlying3 hx.id.wf)
  have hk := law53.key (akey_of hx.lo hx.hi)
  have hno2 : Maps.has D (akey x.lo x.hi) = false := by
    cases q : Maps.has D (akey x.lo x.hi) with
    | false => rfl
    | true => obtain ⟨id, hm⟩ := (h3 _ _ hx.lo hx.hi).1 q; exact absurd hm (lookE_none hno id)
  refine ⟨w', hrun, ⟨_, ho, fun lo hi h1 h2 => ?_, fun e he => ?_, ?_⟩, hg⟩
  · by_cases e : lo = x.lo ∧ hi = x.hi
    · obtain ⟨rfl, rfl⟩ := e
      rw [has_put_same h.isMap hk]
      exact ⟨fun _ => ⟨x.id, (hM _).2 (.inl rfl)⟩, fun _ => rfl⟩
    · rw [has_put_other (fun q => e (akey_inj h1 h2 hx.lo hx.hi q)), h3 lo hi h1 h2]
      constructor
      · rintro ⟨id, hm⟩; exact ⟨id, (hM _).2 (.inr hm)⟩
      · rintro ⟨id, hm⟩
        rcases (hM _).1 hm with rfl | hm
        · exact absurd ⟨rfl, rfl⟩ e
        · exact ⟨id, hm⟩
  · rcases (hM _).1 he with rfl | he
    · exact ⟨hx, fun z => by rw [atKey_put_same h.isMap hk]⟩
    · obtain ⟨h6, h7⟩ := h4 e he
      refine ⟨h6, fun z => ?_⟩
      rw [atKey_put_other (fun q => ?_), h7 z]
      obtain ⟨q1, q2⟩ := akey_inj h6.lo h6.hi hx.lo hx.hi q
      exact lookE_none hno e.id (by rw [← q1, ← q2]; exact he)
  · rw [size_put (h.tidy law53), hno2, h5, hl]; rfl
theorem UT.cut {w : World} {b n M} (h : UT w b n M) {x : En} (hx : x ∈ M) {M' : List En} (hM : ∀ e, e ∈ M' ↔ e ≠ x ∧ e ∈ M) (hl : M'.length + 1 = M.length) (ty : TypeId) :
    ∃ w', (Builtin.delete_ #[48, 53] ty #[.map (some b), .agg #[.int .i64 x.lo, .int .i64 x.hi]]).run Try.prog w = .ok (.tuple #[]) w' ∧ UT w' b n M' ∧ w.grownBy w' (some b) := by
  have hone := fun e he => UT.one h (e := e) (e' := x) he hx
  obtain ⟨D, h, h3, h4, h5⟩ := h
  have hxo := (h4 x hx).1
  obtain ⟨w', hrun, ho, hg⟩ := h.drop law53 Try.underlying48 (akey_of hxo.lo hxo.hi) ty
  refine ⟨w', hrun, ⟨_, ho, fun lo hi h1 h2 => ?_, fun e he => ?_, ?_⟩, hg.grown⟩
  · by_cases e : lo = x.lo ∧ hi = x.hi
    · obtain ⟨rfl, rfl⟩ := e
      rw [has_del_same]
      constructor
      · intro h; cases h
      · rintro ⟨id, hm⟩
        obtain ⟨q1, q2⟩ := (hM _).1 hm
        exact absurd (hone _ q2 rfl rfl) q1
    · rw [has_del_other (fun q => e (akey_inj h1 h2 hxo.lo hxo.hi q)), h3 lo hi h1 h2]
      constructor
      · rintro ⟨id, hm⟩; exact ⟨id, (hM _).2 ⟨fun q => e (by rw [← q]; exact ⟨rfl, rfl⟩), hm⟩⟩
      · rintro ⟨id, hm⟩; exact ⟨id, ((hM _).1 hm).2⟩
  · obtain ⟨q1, q2⟩ := (hM _).1 he
    obtain ⟨h6, h7⟩ := h4 e q2
    refine ⟨h6, fun z => ?_⟩
    rw [atKey_del_other (fun q => ?_), h7 z]
    obtain ⟨r1, r2⟩ := akey_inj h6.lo h6.hi hxo.lo hxo.hi q
    exact q1 (hone e q2 r1 r2)
  · have := size_del (h.tidy law53) (k := akey x.lo x.hi)
    rw [(h3 _ _ hxo.lo hxo.hi).2 ⟨x.id, hx⟩] at this
    simp at this
    omega
theorem UT.clear {w : World} {b n M} (h : UT w b n M) (ty : TypeId) : ∃ w', (Builtin.clear_ #[48] ty #[.map (some b)]).run Try.prog w = .ok (.tuple #[]) w' ∧ UT w' b 0 [] ∧ w.grownBy w' (some b) := by
  obtain ⟨D, ⟨es, clock, hb, F, hs, hD⟩, _⟩ := h
  refine ⟨_, by simp [Builtin.clear_, run_underlying Try.underlying48, MapKept.run_getObj_map hb, MapKept.run_setObj_map _ hb, Result.andThen]; rfl, ?_, ?_⟩
  · exact ⟨.map [], ⟨#[], clock, (MapKept.heap_set hb).1, ⟨by simp, MapKept.stamped_empty clock, by simp⟩, Nat.le_refl _, rfl⟩, fun _ _ _ _ => ⟨(fun h => by cases h), (fun ⟨_, h⟩ => by cases h)⟩, (fun e h => by cases h), rfl⟩
  · exact ⟨rfl, rfl, rfl, by simp, fun i _ hi => (MapKept.heap_set hb).2 i (fun e => hi (by rw [e]))⟩
theorem UT.len {w : World} {b n M} (h : UT w b n M) (ty : TypeId) : (Builtin.len_ #[48] ty #[.map (some b)]).run Try.prog w = .ok (.int .i64 M.length) w := by
  obtain ⟨D, h, _, _, h5⟩ := h
  rw [h.len Try.underlying48 ty, h5]
end Go.Proofs.Ytmnolldomipgiaa
