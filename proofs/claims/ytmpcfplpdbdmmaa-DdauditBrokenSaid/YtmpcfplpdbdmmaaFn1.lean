/- Edges, and the position of a node in the table of layer 25 (ddaudit). -/
import Derived.Test.YtmpcfplpdbdmmaaBase
namespace Go.Proofs.Ytmpcfplpdbdmmaa
open Go.RowKit Go.Maps

theorem ret_i {k : IntKind} {a b : Int} (h : a = b) : Ending.returned (.int k a) = .returned (.int k b) := by rw [h]
theorem ret_b {a b : Bool} (h : a = b) : Ending.returned (.bool a) = .returned (.bool b) := by rw [h]
def negF (e : Int) : Bool := decide (0 ≤ e) && decide (e % 2 = 1)
def nodeF (e : Int) : Int := if e < 0 then 0 else e / 2
def leadF (e id : Int) : Bool := decide (0 ≤ e) && decide (e / 2 = id)
theorem nodeF_in {e : Int} (h : In64 e) : In64 (nodeF e) := by unfold In64 at *; unfold nodeF; split <;> omega
theorem edge_Node (e : Int) (w : World) (h : In64 e) : Calls Try.prog 31 #[.int .i64 e] w fun r w' => r = .returned (.int .i64 (nodeF e)) ∧ w = w' := by
  unfold In64 at h
  go_enter Try.func31, Try.ntmps31
  go_wp2
  all_goals
    go_ret
    exact ⟨ret_i (by unfold nodeF; split <;> omega), rfl⟩
theorem edge_Neg (e : Int) (w : World) (h : In64 e) : Calls Try.prog 28 #[.int .i64 e] w fun r w' => r = .returned (.bool (negF e)) ∧ w = w' := by
  unfold In64 at h
  go_enter Try.func28, Try.ntmps28
  go_wp2
  all_goals
    go_ret
    exact ⟨ret_b (by unfold negF; apply Bool.eq_iff_iff.2; simp; omega), rfl⟩
theorem r_leads (e id : Int) (w : World) (h : In64 e) : Calls Try.prog 26 #[.int .i64 e, .int .i64 id] w fun r w' => r = .returned (.bool (leadF e id)) ∧ w = w' := by
  unfold In64 at h
  go_enter Try.func26, Try.ntmps26
  go_wp2
  all_goals
    go_ret
    exact ⟨ret_b (by unfold leadF; apply Bool.eq_iff_iff.2; simp; omega), rfl⟩
theorem e_target (e : Int) (w : World) (h : In64 e) : Calls Try.prog 20 #[.int .i64 e] w fun r w' => r = .returned (.tuple #[.int .i64 (nodeF e), .bool (decide (0 ≤ e))]) ∧ w = w' := by
  have HN := Lib.hid (edge_Node e w h)
  by_cases hl : e < 0
  · have h2 : ¬ 0 ≤ e := by omega
    have h3 : nodeF e = 0 := by unfold nodeF; rw [if_pos hl]
    have h4 : decide (0 ≤ e) = false := by simp [h2]
    rw [h3, h4]
    go_enter Try.func20, Try.ntmps20
    go_wp2
    go_ret2
    exact ⟨rfl, rfl⟩
  · have h4 : decide (0 ≤ e) = true := by simp; omega
    rw [h4]
    go_enter Try.func20, Try.ntmps20
    go_wp2_with (go_at_call 31; refine HN.out.mono ?_; rintro r w' ⟨rfl, rfl⟩)
    go_ret2
    exact ⟨rfl, rfl⟩

/-- The table in block T. -/
structure Tb (w : World) (T n : Nat) (pos tops : Int → Option Int) (met sh : Lit → Bool) (bp bt bm bs : Nat) : Prop where
  t : Blk w T 50 #[.map (some bp), .map (some bt), .map (some bm), .map (some bs)]
  p : XM w bp pos
  o : IM w bt n tops
  m : BM w 3 bm n met
  s : BM w 52 bs n sh
  d : bp ≠ bt ∧ bp ≠ bm ∧ bp ≠ bs ∧ bt ≠ bm ∧ bt ≠ bs ∧ bm ≠ bs ∧ bp ≠ T ∧ bt ≠ T ∧ bm ≠ T ∧ bs ≠ T
theorem Tb.below {w w' : World} {T n pos tops met sh bp bt bm bs} (h : Tb w T n pos tops met sh bp bt bm bs) (hb : Below w.heap.size w w') : Tb w' T n pos tops met sh bp bt bm bs :=
  ⟨h.t.below hb h.t.lt, h.p.below hb h.p.lt, h.o.below hb h.o.lt, h.m.below hb h.m.lt, h.s.below hb h.s.lt, h.d⟩
theorem IM.drew {w : World} {b n F} (h : IM w b n F) : IM w.drew b n F := h
theorem XM.drew {w : World} {b F} (h : XM w b F) : XM w.drew b F := h
theorem BM.drew {w : World} {k b n S} (h : BM w k b n S) : BM w.drew k b n S := h
theorem Tb.drew {w : World} {T n pos tops met sh bp bt bm bs} (h : Tb w T n pos tops met sh bp bt bm bs) : Tb w.drew T n pos tops met sh bp bt bm bs := ⟨h.t, h.p, h.o, h.m, h.s, h.d⟩
def posZ (F : Int → Option Int) (v : Int) : Int := (F v).getD (-1)
theorem al {B : Nat} {w w' : World} (h : Below B w w') (hB : B ≤ w'.heap.size) (o : Obj) : Below B w (w'.alloc o) := h.alloc hB o
theorem e_position (x : Nd) (hx : x.ok) (w : World) {T n pos tops met sh bp bt bm bs} (h : Tb w T n pos tops met sh bp bt bm bs) :
    Calls Try.prog 27 #[.pointer (some ⟨T, 0, none⟩), ndV x] w fun r w' => r = .returned (.int .i64 (posZ pos x.v)) ∧ Below w.heap.size w w' := by
  have h1 := h.below ((Below.refl w.heap.size w).alloc (Nat.le_refl _) (.cells (ndR x) 39))
  obtain ⟨c, hrun, hc, hcI⟩ := h1.drew.p.look hx.v
  have t0 := h1.t.cell 0
  have hb : Blk (w.alloc (.cells (ndR x) 39)) w.heap.size 39 (ndR x) := Blk.new _ _ _
  have c1 := hb.cell 1
  have hbel := Lib.hid ((Below.refl w.heap.size w).alloc (Nat.le_refl _) (.cells (ndR x) 39))
  have HZ : Hid (∀ q, (pos x.v).isSome = q → posZ pos x.v = if q then c else -1) := Lib.hid (fun q hq => by
    unfold posZ
    cases e : pos x.v with
    | none => rw [e] at hq; subst hq; rfl
    | some i => rw [e] at hq; subst hq; simp [hc i e])
  clear hc h h1 hb
  simp only [List.getElem?_toArray, List.getElem?_cons_zero, List.getElem?_cons_succ, ndR] at t0 c1 hrun hbel
  generalize (pos x.v).isSome = q at *
  unfold ndV ndR
  cases q
  · go_enter Try.func27, Try.ntmps27
    go_wp2
    go_region
    go_wp2
    go_ret
    exact ⟨ret_i (by rw [HZ.out _ rfl]; rfl), hbel.out.drew⟩
  · go_enter Try.func27, Try.ntmps27
    go_wp2
    go_region
    go_wp2
    go_ret
    exact ⟨ret_i (by rw [HZ.out _ rfl]; rfl), hbel.out.drew⟩
end Go.Proofs.Ytmpcfplpdbdmmaa
