/- The iterator over the entries of a map; layer 10 (uniq). -/
import Derived.Test.YtmnolldomipgiaaFn6
import Derived.Test.YtmnolldomipgiaaIter
import Derived.Maps.OwnIn
import Derived.Sort.MapsRangeIn
import Derived.OwnWalkIn
import Derived.TacticsInMore
import Derived.RegionIn
import Derived.LoopNIn
import Derived.LoopIn
namespace Go.Proofs.Ytmnolldomipgiaa
open Go.RowKit Go.Maps

theorem wide_fn (f : FuncId) : Fence.wide.fn f = True := rfl
theorem wide_depth : Fence.wide.depth = none := rfl
attribute [local go_sem] Oper.semAt_some wide_fn wide_depth

structure Kp where
  lo : Int
  hi : Int
/-- What an entry's cells are handed over as. -/
def enY (x : En) : Array Value := #[.agg #[.int .i64 x.lo, .int .i64 x.hi], .int .i64 x.id]
/-- One more entry of M has come. -/
def GAll (M : List En) (pre : List En) (x : Array Value) (pre' : List En) (_ : World) : Prop := ∃ e, e ∈ M ∧ e ∉ pre ∧ pre.Nodup ∧ (∀ y ∈ pre, y ∈ M) ∧ x = enY e ∧ pre' = pre ++ [e]
noncomputable def keyP (e : En) : Lit := akey e.lo e.hi
/-- pre is what has come: its keys are no longer left. -/
structure Come (D : DataW Unit) (M : List En) (left : Lit → Bool) (pre : List En) : Prop where
  nd : pre.Nodup
  sub : ∀ y ∈ pre, y ∈ M
  left : ∀ e ∈ M, (left (keyP e) = false ↔ e ∈ pre)
theorem ranges_of {w w' : World} {k b r n : Nat} {R} {D : DataW Unit} {left : Lit → Bool} {cnt : Nat} (h : w.ranges Try.prog k R b r n D left cnt) (hb : w'.heap[b]? = w.heap[b]?) (hr : w'.heap[r]? = w.heap[r]?) : w'.ranges Try.prog k R b r n D left cnt := by
  obtain ⟨es, clock, since, seen, c0, h1, h2, h3, h4, h5, rest⟩ := h
  exact ⟨es, clock, since, seen, c0, hb.trans h1, h2, h3, h4, hr.trans h5, rest⟩
theorem ranges_cells {w : World} {k b r n : Nat} {R} {D : DataW Unit} {left : Lit → Bool} {cnt : Nat} (h : w.ranges Try.prog k R b r n D left cnt) : ∃ o, w.heap[r]? = some o ∧ o.isCells = false ∧ ∀ Pt, isPrv Pt o = true := by
  obtain ⟨es, clock, since, seen, c0, h1, h2, h3, h4, h5, rest⟩ := h
  exact ⟨_, h5, rfl, fun _ => rfl⟩
theorem ranges_iter {w : World} {k b r n : Nat} {R} {D : DataW Unit} {left : Lit → Bool} {cnt : Nat} (h : w.ranges Try.prog k R b r n D left cnt) : ∃ o, w.heap[r]? = some o ∧ ∀ Pt, isPrv Pt o = true := by
  obtain ⟨es, clock, since, seen, c0, h1, h2, h3, h4, h5, rest⟩ := h
  exact ⟨_, h5, fun _ => rfl⟩
set_option maxRecDepth 100000 in
set_option maxHeartbeats 4000000 in
theorem iter_all {w : World} {b n Bm : Nat} {M : List En} (hU : UT w b n M) (hM : M.Nodup) (hB : Blk w Bm 48 #[.map (some b)]) (Pt : TypeId → Bool) {S : Nat → Prop} (hSb : S b) (_hSB : S Bm) (hSl : ∀ b, S b → b < w.heap.size) :
    Iter Try.prog 27 #[.pointer (some ⟨Bm, 0, none⟩)] Pt S (GAll M) [] (fun L => L.Perm M) w := by
  intro l J Jx W hW hJ hJx hY h0
  obtain ⟨D, hown, hhas, hat0, hsz⟩ := hU.below hW hU.lt
  have hBW := hB.below hW hB.lt
  have hbW : b < W.heap.size := hown.lt
  have e0 := hBW.cell 0
  simp only [List.getElem?_toArray, List.getElem?_cons_zero] at e0
  have HO := Lib.hid hown
  have HH := Lib.hid hhas
  have HA := Lib.hid hat0
  have HY := Lib.hid hY
  have HJ := Lib.hid hJ
  have H0 := Lib.hid (h0 W (Below.refl _ _))
  have HSl : Hid (∀ b, S b → b < W.heap.size) := Lib.hid (fun b hb => Nat.lt_of_lt_of_le (hSl b hb) hW.size)
  have HM := Lib.hid hM
  have HSb := Lib.hid hSb
  have HBW := Lib.hid hBW
  clear hU hB hW hJ hJx hY h0 hown hhas hat0 hSl hBW hM hSb _hSB
  refine callsIn_of_wp Try.func27 rfl trivial ?_ rfl
  simp only [Try.ntmps27, List.size_toArray, List.length_cons, List.length_nil, Nat.reduceAdd, Nat.reduceSub, Array.replicate_succ, Array.replicate_zero, List.push_toArray, List.append_toArray, List.nil_append, List.cons_append]
  gi_wp2_with (first
    | (gi_at_range; refine wpListIn_range_own _ rfl _ 48 rfl 53 3 law53 Try.underlying48 _ b n _ rfl HO.out ?_; intro w0 hrg0 hg0 hs0; have HRG := Lib.hid hrg0; have HG := Lib.hid hg0; have HS := Lib.hid hs0; clear hrg0 hg0 hs0)
    | gi_in)
  have HM0 : Hid (Come D M (Maps.has D) []) := Lib.hid ⟨List.nodup_nil, (fun _ h => by cases h), (fun e he => by
    obtain ⟨q, _⟩ := HA.out e he
    rw [keyP, (HH.out _ _ q.lo q.hi).2 ⟨e.id, he⟩]
    simp)⟩
  have HJ1 : Hid (J [] w0) := Lib.hid (HJ.out [] W w0 none H0.out HG.out (fun r e => by cases e))
  have HK0 : Hid (Kept S W w0 ∧ W.heap.size ≤ w0.heap.size) := Lib.hid ⟨Kept.grown HG.out HSl.out (fun b e => by cases e), HG.out.size⟩
  have HFind : Hid (∀ (x : Kp) (c : Int) (kl : Lit) (y : DataW Unit × List MemPlace), keyOf Try.prog 53 (.agg #[.int .i64 x.lo, .int .i64 x.hi]) = some kl → plainElem Try.prog 3 (.int .i64 c) = some y → (∀ zd, D.atKey kl zd = y.1) → (⟨x.lo, x.hi, c⟩ : En) ∈ M ∧ kl = akey x.lo x.hi) := Lib.hid (fun x c kl y hkey hv hat => by
    obtain ⟨lo, hi, h1, h2, e⟩ := akey_inv hkey
    have e1 : x.lo = lo ∧ x.hi = hi := by simpa using e
    obtain ⟨rfl, rfl⟩ := e1
    have hk := akey_of h1 h2
    rw [hk] at hkey
    injection hkey with hkey
    subst hkey
    obtain ⟨c', ec, ez, _⟩ := plainElem_int_inv Try.underlying3 hv
    obtain rfl : c = c' := by simpa using ec
    have hy : y.1 = .lit (.int .i64 c) := (Prod.mk.inj ez).1
    have hh : Maps.has D (akey x.lo x.hi) = true := Maps.has_true_of_atKey (fun zd => hat zd)
    obtain ⟨id, hid⟩ := (HH.out _ _ h1 h2).1 hh
    have h3 := (HA.out _ hid).2 .nil
    rw [hat .nil, hy] at h3
    injection h3 with h3; injection h3 with _ h3
    exact ⟨by rw [h3]; exact hid, rfl⟩)
  have HStep : Hid (∀ left pre e, Come D M left pre → e ∈ M → left (keyP e) = true → e ∉ pre ∧ Come D M (fun z => left z && !z.sameKey (keyP e)) (pre ++ [e])) := Lib.hid (fun left pre e hc he hl => by
    have hne : e ∉ pre := fun h => by have := (hc.left e he).2 h; rw [hl] at this; cases this
    refine ⟨hne, ?_, ?_, ?_⟩
    · exact List.nodup_append.2 ⟨hc.nd, List.nodup_cons.2 ⟨by simp, List.nodup_nil⟩, fun a ha b hb => by simp at hb; subst hb; exact fun q => hne (q ▸ ha)⟩
    · intro y hy
      rcases List.mem_append.1 hy with h | h
      · exact hc.sub y h
      · simp at h; rw [h]; exact he
    · intro y hy
      have hkl := law53.key (akey_of (HA.out e he).1.lo (HA.out e he).1.hi)
      by_cases q : y = e
      · subst q
        simp [WideAt.sameKey_self (show WideAt.IsKeyLit (keyP y) from hkl)]
      · have hk : keyP y ≠ keyP e := fun hh => by
          obtain ⟨h1, h2⟩ := akey_inj (HA.out y hy).1.lo (HA.out y hy).1.hi (HA.out e he).1.lo (HA.out e he).1.hi hh
          have a := (HA.out y hy).2 .nil
          have c := (HA.out e he).2 .nil
          rw [h1, h2, c] at a
          injection a with a; injection a with _ a
          obtain ⟨y1, y2, y3⟩ := y
          obtain ⟨z1, z2, z3⟩ := e
          simp at h1 h2 a
          exact q (by rw [h1, h2, a])
        have hs : (keyP y).sameKey (keyP e) = false := by
          cases hq : (keyP y).sameKey (keyP e) with
          | false => rfl
          | true => exact absurd ((WideAt.sameKey_iff hkl).1 hq) hk
        rw [hs]
        simp [q, hc.left y hy])
  have HEnd : Hid (∀ left pre, Come D M left pre → (∀ kl, left kl = false) → pre.Perm M) := Lib.hid (fun left pre hc hl => (List.perm_ext_iff_of_nodup hc.nd HM.out).2 (fun e => ⟨hc.sub e, fun he => (hc.left e he).1 (hl _)⟩))
  clear HH HA
  go_frame
  gi_loopw [3, 4] (fun _ _ wr => ∃ (left : Lit → Bool) (cnt : Nat) (pre : List En), wr.ranges Try.prog 53 (plainElem Try.prog 3) b W.heap.size n D left cnt ∧ Come D M left pre ∧ J pre wr ∧ Kept S W wr ∧ W.heap.size ≤ wr.heap.size)
    (fun _ _ wr => wr.rangeLeft b W.heap.size)
  case atStart => exact ⟨_, _, [], HRG.out, HM0.out, HJ1.out, HK0.out⟩
  case round =>
    obtain ⟨left, cnt, pre, hrg, hC, hJs, hKp, hSz⟩ := hrel
    have HC := Lib.hid hC
    have HJs := Lib.hid hJs
    have HKp := Lib.hid hKp
    have HSz := Lib.hid hSz
    have HRg := Lib.hid hrg
    clear hC hJs hKp hSz HRG HM0 HJ1 HK0 HG HS H0
    gi_wp2_with (first
      | (gi_at_next; refine wpListIn_next_ranges _ rfl _ rfl 53 law53 (plainElem Try.prog 3) (fun p : Kp => Value.agg #[.int .i64 p.lo, .int .i64 p.hi]) (Value.int .i64) (fun key kl hk => by obtain ⟨lo, hi, _, _, e⟩ := akey_inv hk; exact ⟨⟨lo, hi⟩, e⟩) (fun v y hv => by obtain ⟨c, rfl, _⟩ := plainElem_int_inv Try.underlying3 hv; exact ⟨c, rfl⟩) b W.heap.size n _ _ _ rfl HRg.out ?_ ?_)
      | gi_in)
    · intro hc0 hl0
      gi_wp2
      go_end0
      exact ⟨⟨_, rfl⟩, .inl ⟨pre, HEnd.out _ _ HC.out hl0, HJs.out⟩⟩
    · intro x c kl yd yp w2 cnt2 hkey hlk hv hat hrg2 hlt hg2 hs2 hen
      obtain ⟨hmem, rfl⟩ := HFind.out x c kl (yd, yp) hkey hv hat
      obtain ⟨hnew, hC2⟩ := HStep.out left pre ⟨x.lo, x.hi, c⟩ HC.out hmem hlk
      obtain ⟨o, ho1, ho2, ho3⟩ := ranges_cells HRg.out
      have hJ2 : J pre w2 := HJ.out pre wr w2 (some W.heap.size) HJs.out hg2 (fun r e => by injection e with e; subst e; exact ⟨Nat.le_refl _, o, ho1, ho2⟩)
      have hJ3 : J pre (w2.alloc (.cells #[.int .i64 x.lo, .int .i64 x.hi] 53)) := HJ.out pre w2 _ none hJ2 (World.grownBy_alloc w2 _ none) (fun r e => by cases e)
      obtain ⟨fn, tmps, assign, body, hy, hR⟩ := HY.out pre (enY ⟨x.lo, x.hi, c⟩) (pre ++ [⟨x.lo, x.hi, c⟩]) _ ⟨_, hmem, hnew, HC.out.nd, HC.out.sub, rfl, rfl⟩ hJ3
      dsimp only [enY] at hy
      have hrg2a := hrg2.alloc (.cells #[.int .i64 x.lo, .int .i64 x.hi] 53)
      obtain ⟨o2, ho21, _, ho23⟩ := ranges_cells hrg2a
      have HO2 := Lib.hid (And.intro ho21 (ho23 Pt))
      have HR2 := Lib.hid hrg2a
      have HC2 : Hid (Come D M (fun z => left z && !z.sameKey (akey x.lo x.hi)) (pre ++ [⟨x.lo, x.hi, c⟩])) := Lib.hid hC2
      have HKw : Hid (Kept S W (w2.alloc (.cells #[.int .i64 x.lo, .int .i64 x.hi] 53)) ∧ W.heap.size ≤ (w2.alloc (.cells #[.int .i64 x.lo, .int .i64 x.hi] 53)).heap.size) := Lib.hid (by
        have h1 : Kept S wr w2 := Kept.grown hg2 (fun b hb => Nat.lt_of_lt_of_le (HSl.out b hb) HSz.out) (fun b e hb => by injection e with e; have := HSl.out b hb; omega)
        have h2 : Kept S w2 (w2.alloc (.cells #[.int .i64 x.lo, .int .i64 x.hi] 53)) := Kept.alloc (fun b hb => Nat.lt_of_lt_of_le (HSl.out b hb) (Nat.le_trans HSz.out hg2.size)) _
        exact ⟨(HKp.out.trans h1).trans h2, by have := HSz.out; have := hg2.size; simp; omega⟩)
      have HLt : Hid (cnt2 < cnt) := Lib.hid hlt
      clear hJ2 hJ3 hrg2 hrg2a ho1 ho2 ho3 ho21 ho23 hC2 hkey hv hat hlk hg2 hmem hnew hrg hs2
      gi_wp2
      refine hR.mono ?_
      rintro e W3 (⟨rfl, hJ4, hk3, hK3⟩ | ⟨rfl, hJx3, hk3⟩)
      · have hrg3 := ranges_of HR2.out (hK3 b HSb.out) ((hk3.same _ _ (Nat.le_refl _) HO2.out.1 HO2.out.2).trans HO2.out.1.symm)
        have HRG3 := Lib.hid hrg3
        have HJ4 := Lib.hid hJ4
        have HK3 : Hid (Kept S W W3 ∧ W.heap.size ≤ W3.heap.size) := Lib.hid ⟨HKw.out.1.trans hK3, Nat.le_trans HKw.out.2 hk3.size⟩
        clear hrg3 hJ4 hk3 hK3
        gi_wp2
        go_roundw
        case rel => exact ⟨_, cnt2, pre ++ [⟨x.lo, x.hi, c⟩], HRG3.out, HC2.out, HJ4.out, HK3.out⟩
        case measure => rw [HRG3.out.left_eq, HRg.out.left_eq]; exact HLt.out
      · have HJx3 := Lib.hid hJx3
        clear hJx3 hk3
        gi_wp2
        refine bodyPost_ret (results_none rfl _ _ _) rfl ?_
        exact ⟨⟨_, rfl⟩, .inr ⟨_, HJx3.out⟩⟩
end Go.Proofs.Ytmnolldomipgiaa
