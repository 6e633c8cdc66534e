/- Whether a node is a violation; layer 25 (ddaudit). -/
import Derived.Test.YtmpcfplpdbdmmaaFn2
import Derived.Deep.RegionWith
namespace Go.Proofs.Ytmpcfplpdbdmmaa
open Go.RowKit Go.Maps

noncomputable def vioP (pos tops : Int → Option Int) (met sh : Lit → Bool) (k : Int) (x : Nd) : Bool :=
  if k = 4 then negF x.hi
  else if k = 3 then decide (x.lo = x.hi)
  else if k = 5 then lostP tops x.lo || lostP tops x.hi
  else if k = 1 then decide (posZ pos x.v < 0) || !underP pos tops x.v x.lo || !underP pos tops x.v x.hi
  else met (.int .i64 x.id) || sh (skey x.v x.lo x.hi)
section
variable (x : Nd) (hx : x.ok) (w : World) {T n : Nat} {pos tops : Int → Option Int} {met sh : Lit → Bool} {bp bt bm bs : Nat} (h : Tb w T n pos tops met sh bp bt bm bs)
set_option linter.unusedSectionVars false
include hx h
theorem vio4 : Calls Try.prog 15 #[.pointer (some ⟨T, 0, none⟩), .int .i64 4, ndV x] w fun r w' => r = .returned (.bool (vioP pos tops met sh 4 x)) ∧ Below w.heap.size w w' := by
  have HB : Hid (Below w.heap.size w (w.alloc (.cells (ndR x) 39))) := Lib.hid ((Below.refl w.heap.size w).alloc (Nat.le_refl _) (.cells (ndR x) 39))
  have HN := Lib.hid (edge_Neg x.hi (w.alloc (.cells (ndR x) 39)) hx.hi)
  unfold ndV; unfold ndR at *
  clear h
  go_enter Try.func15, Try.ntmps15
  go_wp2_with (go_at_call 28; refine HN.out.mono ?_; rintro r w' ⟨rfl, rfl⟩)
  go_ret
  exact ⟨rfl, HB.out⟩
theorem vio3 : Calls Try.prog 15 #[.pointer (some ⟨T, 0, none⟩), .int .i64 3, ndV x] w fun r w' => r = .returned (.bool (vioP pos tops met sh 3 x)) ∧ Below w.heap.size w w' := by
  have HB : Hid (Below w.heap.size w (w.alloc (.cells (ndR x) 39))) := Lib.hid ((Below.refl w.heap.size w).alloc (Nat.le_refl _) (.cells (ndR x) 39))
  unfold ndV; unfold ndR at *
  clear h
  go_enter Try.func15, Try.ntmps15
  go_wp2
  go_ret
  exact ⟨ret_b (by unfold vioP; simp [beq_iff_eq]; try rfl), HB.out⟩
theorem vio5 : Calls Try.prog 15 #[.pointer (some ⟨T, 0, none⟩), .int .i64 5, ndV x] w fun r w' => r = .returned (.bool (vioP pos tops met sh 5 x)) ∧ Below w.heap.size w w' := by
  have HB : Hid (Below w.heap.size w (w.alloc (.cells (ndR x) 39))) := Lib.hid ((Below.refl w.heap.size w).alloc (Nat.le_refl _) (.cells (ndR x) 39))
  have h1 := h.below HB.out
  have HL1 := Lib.hid (e_lost x.lo hx.lo (w.alloc (.cells (ndR x) 39)) h1)
  have HL2 := Lib.hid (e_lost x.hi hx.hi (w.alloc (.cells (ndR x) 39)) h1)
  have HZ : Hid (∀ p q, lostP tops x.lo = p → lostP tops x.hi = q → vioP pos tops met sh 5 x = (p || q)) := Lib.hid (fun p q hp hq => by unfold vioP; simp [hp, hq])
  rw [HZ.out _ _ rfl rfl]
  unfold ndV; unfold ndR at *
  clear h h1 HZ
  generalize lostP tops x.lo = p at *
  generalize lostP tops x.hi = q at *
  cases p
  all_goals
    go_enter Try.func15, Try.ntmps15
    go_wp2_with (first
      | (go_at_call 29; have _t := toks; refine HL2.out.mono ?_; rintro r w' ⟨rfl, rfl⟩)
      | (go_at_call 29; refine HL1.out.mono ?_; rintro r w' ⟨rfl, rfl⟩; have toks : True := trivial))
    go_ret
    exact ⟨ret_b (by simp), HB.out⟩
theorem vio1 : Calls Try.prog 15 #[.pointer (some ⟨T, 0, none⟩), .int .i64 1, ndV x] w fun r w' => r = .returned (.bool (vioP pos tops met sh 1 x)) ∧ Below w.heap.size w w' := by
  have HB : Hid (Below w.heap.size w (w.alloc (.cells (ndR x) 39))) := Lib.hid ((Below.refl w.heap.size w).alloc (Nat.le_refl _) (.cells (ndR x) 39))
  have h1 := h.below HB.out
  have hb : Blk (w.alloc (.cells (ndR x) 39)) w.heap.size 39 (ndR x) := Blk.new _ _ _
  have HC : Hid (∀ wx, Below (w.alloc (.cells (ndR x) 39)).heap.size (w.alloc (.cells (ndR x) 39)) wx → Blk wx w.heap.size 39 (ndR x)) := Lib.hid (fun wx hh => hb.below hh hb.lt)
  have HP := Lib.hid (e_position x hx (w.alloc (.cells (ndR x) 39)) h1)
  have HU : Hid (∀ wx e, In64 e → Below (w.alloc (.cells (ndR x) 39)).heap.size (w.alloc (.cells (ndR x) 39)) wx → Calls Try.prog 30 #[.pointer (some ⟨T, 0, none⟩), ndV x, .int .i64 e] wx fun r w' => r = .returned (.bool (underP pos tops x.v e)) ∧ Below (w.alloc (.cells (ndR x) 39)).heap.size (w.alloc (.cells (ndR x) 39)) w') :=
    Lib.hid (fun wx e he hh => (e_under x hx e he wx (h1.below hh)).mono (fun r w' ⟨e1, e2⟩ => ⟨e1, hh.trans (e2.mono hh.size)⟩))
  have HE : Hid (In64 x.lo ∧ In64 x.hi) := Lib.hid ⟨hx.lo, hx.hi⟩
  have HS : Hid (w.heap.size ≤ (w.alloc (.cells (ndR x) 39)).heap.size) := Lib.hid (by simp)
  have HZ : Hid (∀ z p q, posZ pos x.v = z → underP pos tops x.v x.lo = p → underP pos tops x.v x.hi = q → vioP pos tops met sh 1 x = (decide (z < 0) || !p || !q)) := Lib.hid (fun z p q hz hp hq => by unfold vioP; simp [hz, hp, hq])
  rw [HZ.out _ _ _ rfl rfl rfl]
  have HU1 := Lib.hid (fun wx hh => HU.out wx x.lo HE.out.1 hh)
  have HU2 := Lib.hid (fun wx hh => HU.out wx x.hi HE.out.2 hh)
  unfold ndV at *; unfold ndR at *
  clear h h1 HZ hb hx HU HE
  generalize posZ pos x.v = z at *
  generalize underP pos tops x.v x.lo = p at *
  generalize underP pos tops x.v x.hi = q at *
  by_cases hz : z < 0
  · go_enter Try.func15, Try.ntmps15
    go_wp2_with (go_at_call 27; refine HP.out.mono ?_; rintro r w' ⟨rfl, hb2⟩; have HB2 := Lib.hid (HB.out.trans (hb2.mono HS.out)); clear hb2)
    go_ret
    exact ⟨ret_b (by simp [hz]), HB2.out⟩
  · have hz2 : decide (z < 0) = false := by simp [hz]
    cases p
    all_goals
      go_enter Try.func15, Try.ntmps15
      go_wp2_with (first
        | (go_at_call 30; have _t := HB3; refine (HU2.out _ HB3.out).mono ?_; rintro r w' ⟨rfl, hb4⟩; have HB4 := Lib.hid (HB.out.trans (hb4.mono HS.out)); clear hb4)
        | (go_at_call 30; have _t := HB2; refine (HU1.out _ HB2.out).mono ?_; rintro r w' ⟨rfl, hb3⟩; have k0 := (HC.out _ hb3).cell 0; have k1 := (HC.out _ hb3).cell 1; have k2 := (HC.out _ hb3).cell 2; have k3 := (HC.out _ hb3).cell 3; have k4 := (HC.out _ hb3).cell 4; simp only [List.getElem?_toArray, List.getElem?_cons_zero, List.getElem?_cons_succ] at k0 k1 k2 k3 k4; have HB3 := Lib.hid hb3; clear hb3)
        | (go_at_call 27; refine HP.out.mono ?_; rintro r w' ⟨rfl, hb2⟩; have j0 := (HC.out _ hb2).cell 0; have j1 := (HC.out _ hb2).cell 1; have j2 := (HC.out _ hb2).cell 2; have j3 := (HC.out _ hb2).cell 3; have j4 := (HC.out _ hb2).cell 4; simp only [List.getElem?_toArray, List.getElem?_cons_zero, List.getElem?_cons_succ] at j0 j1 j2 j3 j4; have HB2 := Lib.hid hb2; clear hb2))
      go_ret
      first
        | exact ⟨ret_b (by rw [hz2]; cases q <;> rfl), HB4.out⟩
        | exact ⟨ret_b (by rw [hz2]; cases q <;> rfl), HB.out.trans (HB3.out.mono HS.out)⟩
set_option maxHeartbeats 4000000 in
theorem vio2 : Calls Try.prog 15 #[.pointer (some ⟨T, 0, none⟩), .int .i64 2, ndV x] w fun r w' => r = .returned (.bool (vioP pos tops met sh 2 x)) ∧ Below w.heap.size w w' := by
  have HB : Hid (Below w.heap.size w (w.alloc (.cells (ndR x) 39))) := Lib.hid ((Below.refl w.heap.size w).alloc (Nat.le_refl _) (.cells (ndR x) 39))
  have h1 := h.below HB.out
  have hS := HB.out.size
  have t2 := h1.t.cell 2
  have t3 := h1.t.cell 3
  have hrun := h1.drew.m.look law3 Try.underlying47 (keyOf_int_mk Try.underlying3 hx.id.wf)
  have HZ : Hid (∀ p q, met (.int .i64 x.id) = p → sh (skey x.v x.lo x.hi) = q → vioP pos tops met sh 2 x = (p || q)) := Lib.hid (fun p q hp hq => by unfold vioP; simp [hp, hq])
  have hS1 := e_shapeOf x (w.alloc (.cells (ndR x) 39)).drew
  have hR : ∀ w2, Below (w.alloc (.cells (ndR x) 39)).heap.size (w.alloc (.cells (ndR x) 39)).drew w2 → Blk w2 T 50 #[.map (some bp), .map (some bt), .map (some bm), .map (some bs)] ∧ (Instr.lookup 48 (.map (some bs)) (.agg #[.int .i64 x.v, .int .i64 x.lo, .int .i64 x.hi]) false).run Try.prog w2 = .ok (.bool (sh (skey x.v x.lo x.hi))) w2 :=
    fun w2 hh => ⟨(h1.drew.below hh).t, (h1.drew.below hh).s.look law52 Try.underlying48 (skey_of hx.v hx.lo hx.hi)⟩
  have HH : Hid (∀ w2, Below (w.alloc (.cells (ndR x) 39)).heap.size (w.alloc (.cells (ndR x) 39)).drew w2 → Below w.heap.size w w2) := Lib.hid (fun w2 hh => (HB.out.drew).trans (hh.mono hS))
  rw [HZ.out _ _ rfl rfl]
  have HS1 := Lib.hid hS1
  have HR := Lib.hid hR
  clear hS1 hR
  unfold ndV at *; unfold ndR at *
  clear h h1 HZ hx
  simp only [List.getElem?_toArray, List.getElem?_cons_zero, List.getElem?_cons_succ] at t2 t3
  generalize met (.int .i64 x.id) = p at *
  generalize sh (skey x.v x.lo x.hi) = q at *
  cases p
  · go_enter Try.func15, Try.ntmps15
    go_wp2
    go_region_with (go_at_call 16; refine HS1.out.mono ?_; rintro r w' ⟨rfl, hb2⟩; have hr2 := (HR.out _ hb2).2; have u3 := (HR.out _ hb2).1.cell 3; simp only [List.getElem?_toArray, List.getElem?_cons_zero, List.getElem?_cons_succ] at u3; have HB2 := Lib.hid (HH.out _ hb2); clear hb2)
    all_goals
      go_wp2
      go_ret
      exact ⟨ret_b (by simp), HB2.out⟩
  · go_enter Try.func15, Try.ntmps15
    go_wp2
    go_region
    go_wp2
    go_ret
    exact ⟨ret_b (by simp), HB.out.drew⟩
end
end Go.Proofs.Ytmpcfplpdbdmmaa
