/- Lost edges, edges that lead up, the shape of a node; layer 25 (ddaudit). -/
import Derived.Test.YtmpcfplpdbdmmaaFn1
namespace Go.Proofs.Ytmpcfplpdbdmmaa
open Go.RowKit Go.Maps

def lostP (tops : Int → Option Int) (e : Int) : Bool := decide (e < 0) || (!(tops (nodeF e)).isSome && decide (nodeF e ≠ 0))
def underP (pos tops : Int → Option Int) (v e : Int) : Bool := decide (e < 0) || match tops (nodeF e) with | none => true | some t => decide (posZ pos v < t)
theorem e_lost (e : Int) (he : In64 e) (w : World) {T n pos tops met sh bp bt bm bs} (h : Tb w T n pos tops met sh bp bt bm bs) :
    Calls Try.prog 29 #[.pointer (some ⟨T, 0, none⟩), .int .i64 e] w fun r w' => r = .returned (.bool (lostP tops e)) ∧ w = w' := by
  obtain ⟨c, hrun, hc, hcI⟩ := h.o.look (nodeF_in he)
  have t1 := h.t.cell 1
  have HT := Lib.hid (e_target e w he)
  have HZ : Hid (∀ p q, decide (0 ≤ e) = p → (tops (nodeF e)).isSome = q → lostP tops e = (!p || (!q && !(nodeF e == 0)))) := Lib.hid (fun p q hp hq => by
    unfold lostP
    rw [← hp, hq]
    by_cases e0 : 0 ≤ e
    · simp [e0, Int.not_lt.2 e0]; rfl
    · simp [e0, Int.lt_of_not_ge e0])
  simp only [List.getElem?_toArray, List.getElem?_cons_zero, List.getElem?_cons_succ] at t1
  generalize decide (0 ≤ e) = p at *
  generalize (tops (nodeF e)).isSome = q at *
  generalize nodeF e = k at *
  clear hc h hcI
  rw [HZ.out _ _ rfl rfl]
  clear HZ
  obtain ⟨z, hz⟩ : ∃ z, (k == 0) = z := ⟨_, rfl⟩
  have hz2 : (k != 0) = !z := by rw [← hz]; rfl
  cases z <;> cases p <;> cases q
  all_goals
    go_enter Try.func29, Try.ntmps29
    go_wp2_with (go_at_call 20; refine HT.out.mono ?_; rintro r w' ⟨rfl, rfl⟩)
    go_ret
    exact ⟨ret_b (by simp [hz]), rfl⟩
theorem e_under (x : Nd) (hx : x.ok) (e : Int) (he : In64 e) (w : World) {T n pos tops met sh bp bt bm bs} (h : Tb w T n pos tops met sh bp bt bm bs) :
    Calls Try.prog 30 #[.pointer (some ⟨T, 0, none⟩), ndV x, .int .i64 e] w fun r w' => r = .returned (.bool (underP pos tops x.v e)) ∧ Below w.heap.size w w' := by
  have HB : Hid (Below w.heap.size w (w.alloc (.cells (ndR x) 39))) := Lib.hid ((Below.refl w.heap.size w).alloc (Nat.le_refl _) (.cells (ndR x) 39))
  have h1 := h.below HB.out
  obtain ⟨c, hrun, hc, hcI⟩ := h1.o.look (nodeF_in he)
  have t1 := h1.t.cell 1
  have hb : Blk (w.alloc (.cells (ndR x) 39)) w.heap.size 39 (ndR x) := Blk.new _ _ _
  have c0 := hb.cell 0
  have c1 := hb.cell 1
  have c2 := hb.cell 2
  have c3 := hb.cell 3
  have c4 := hb.cell 4
  have HT := Lib.hid (e_target e (w.alloc (.cells (ndR x) 39)) he)
  have HP := Lib.hid (e_position x hx (w.alloc (.cells (ndR x) 39)) h1)
  have HZ : Hid (∀ p q, decide (0 ≤ e) = p → (tops (nodeF e)).isSome = q → underP pos tops x.v e = (!p || !q || decide (c > posZ pos x.v))) := Lib.hid (fun p q hp hq => by
    unfold underP
    rw [← hp]
    cases ht : tops (nodeF e) with
    | none => rw [ht] at hq; subst hq; simp
    | some t =>
      rw [ht] at hq; subst hq
      rw [hc t ht]
      by_cases e0 : 0 ≤ e
      · simp [e0, Int.not_lt.2 e0]
      · simp [e0, Int.lt_of_not_ge e0])
  rw [HZ.out _ _ rfl rfl]
  clear HZ
  unfold ndV
  simp only [List.getElem?_toArray, List.getElem?_cons_zero, List.getElem?_cons_succ, ndR] at t1 c0 c1 c2 c3 c4 hrun HT HP HB ⊢
  generalize decide (0 ≤ e) = p at *
  generalize (tops (nodeF e)).isSome = q at *
  generalize nodeF e = k at *
  generalize posZ pos x.v = z at *
  clear hc h h1 hcI hb
  cases p <;> cases q
  all_goals
    go_enter Try.func30, Try.ntmps30
    go_wp2_with (first
      | (go_at_call 20; refine HT.out.mono ?_; rintro r w' ⟨rfl, rfl⟩)
      | (go_at_call 27; refine HP.out.mono ?_; rintro r w' ⟨rfl, hb2⟩; have HB2 := Lib.hid (HB.out.trans (hb2.mono (by simp))); clear hb2))
    go_ret
    first
      | exact ⟨ret_b (by simp), HB2.out⟩
      | exact ⟨ret_b (by simp), HB.out⟩
theorem size52 : (Try.prog.info? 52).map (·.size) = some 3 := by kernel_rfl
theorem e_shapeOf (x : Nd) (w : World) :
    Calls Try.prog 16 #[ndV x] w fun r w' => r = .returned (.agg #[.int .i64 x.v, .int .i64 x.lo, .int .i64 x.hi]) ∧ Below w.heap.size w w' := by
  have HB1 : Below w.heap.size w (w.alloc (.cells (ndR x) 39)) := (Below.refl w.heap.size w).alloc (Nat.le_refl _) (.cells (ndR x) 39)
  have hb : Blk (w.alloc (.cells (ndR x) 39)) w.heap.size 39 (ndR x) := Blk.new _ _ _
  unfold ndV
  unfold ndR at *
  go_enter Try.func16, Try.ntmps16
  go_wp2
  refine bodyPost_ret (v := .agg #[Value.int IntKind.i64 x.v, Value.int IntKind.i64 x.lo, Value.int IntKind.i64 x.hi]) (results_cell_row rfl _ _ (w.heap.size + 1) 52 #[Value.int IntKind.i64 x.v, Value.int IntKind.i64 x.lo, Value.int IntKind.i64 x.hi] (0, 0) _ rfl ?_ Try.underlying52 rfl size52) rfl ⟨rfl, HB1.alloc (by simp) _⟩
  have := Blk.new (w.alloc (Obj.cells #[Value.int IntKind.i64 x.id, Value.int IntKind.i64 x.v, Value.int IntKind.i64 x.lo, Value.int IntKind.i64 x.hi, Value.int IntKind.i64 x.refs] 39)) 52 #[Value.int IntKind.i64 x.v, Value.int IntKind.i64 x.lo, Value.int IntKind.i64 x.hi]
  simpa [Blk] using this
end Go.Proofs.Ytmpcfplpdbdmmaa
