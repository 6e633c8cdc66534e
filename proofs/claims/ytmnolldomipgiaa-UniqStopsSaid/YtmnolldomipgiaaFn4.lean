/- The specification's Cut and Do; layer 10 (uniq). -/
import Derived.Test.YtmnolldomipgiaaFn3
namespace Go.Proofs.Ytmnolldomipgiaa
open Go.RowKit Go.Maps

theorem wr_one (k1 : Int) (h1 : 0 ≤ k1) (h2 : k1 ≤ 2000) : IntKind.i64.wrap k1 = k1 := IntWalk.i64_in _ (by omega)
theorem step_app_en {ops : Array Oper} {o : Oper} {a : Act} {K : Act → World → Prop} {Q' : Exit → Act → World → Prop} {E : Prop} (hgd : o.guard = none) (s x : Operand)
    (ho : o.op = .call { callee := .builtin .append, args := #[s, x], argTypes := #[26, 26] }) (i : TypeInfo) (z : Value) (hi : Try.prog.info? 38 = some i) (hz : i.zero = some z) (hsize : i.size = 3) (hby : i.bytes = 24) (hzs : z.cells.size = 3) (w : World)
    (base : Nat) (v : Value) (n : Nat) (xs : List Value) (hs : a.eval s = v) (hown : w.ownsRow base 38 3 v n xs)
    (b off m c : Nat) (news : List Value) (hx : a.eval x = .slice (some ⟨b, off, none⟩) m c) (hrow : ∀ j u, news[j]? = some u → w.cell? ⟨b, off + j, none⟩ = some u) (hl : news.length = m * 3) (h1 : ∀ u ∈ news, u.oneCell' = true)
    (h63 : n + m ≤ 1000000) (hbase : base ≤ w.heap.size)
    (h : ∀ v' w', w'.ownsRow base 38 3 v' (n + m) (xs ++ news) → Below base w w' → K (a.put o.dst v') w') :
    if Region.wanted o (yielded ops a.tmps) = true then Oper.wp Try.prog o a w K Q' else E := by
  have hw : Region.wanted o (yielded ops a.tmps) = true := by simp [Region.wanted, hgd]
  rw [if_pos hw]
  obtain ⟨v', w', hr, hO, hg, _, _⟩ := run_append_own_at (P := Try.prog) w base 26 o.type 38 i z 3 24 Try.underlying26 hi hz hsize hby hzs (by decide) v n xs hown ⟨b, off, none⟩ m c news hl (fun j u hj => by
      have e : (⟨b, off, none⟩ : Addr).add j = ⟨b, off + j, none⟩ := by unfold Addr.add; split <;> simp_all
      rw [e]; exact hrow j u hj) h1 (by unfold maxLen; omega) (by omega) hbase
  unfold Oper.wp
  simp [execOp, ho, resolve, invoke, builtin, hs, hx, hr, Result.andThen]
  exact h v' w' hO ((Below.refl _ _).grown hg hbase (fun k e => (World.ownsRow.lt hown k e).1))
theorem r_Put_old (l : List En) (x : En) (A : Option Addr) (ca : Nat) (w : World) (hA : RowE w.heap.size w A l) (hl : l.length ≤ 1000) (hc : l.length ≤ ca) {k : Nat} (hi : idxE l x.lo x.hi = some k) :
    Calls Try.prog 18 #[.slice A l.length ca, .int .i64 x.lo, .int .i64 x.hi, .int .i64 x.id] w (GivE w l 6) := by
  have hF := r_Find l x.lo x.hi A ca w hA (by omega)
  have e1 : idxZ l x.lo x.hi = (k : Int) := by unfold idxZ; rw [hi]
  rw [e1] at hF
  have HF := Lib.hid hF
  have HA := Lib.hid hA
  have HCa := Lib.hid hc
  clear hF e1 hA hl hi hc
  go_enter Try.func18, Try.ntmps18
  go_wp2_with (go_at_call 10; refine HF.out.mono ?_; rintro e w' ⟨rfl, rfl⟩)
  go_ret2
  exact ⟨A, ca, rfl, HA.out, Below.refl _ _, HCa.out⟩
theorem r_Cut_no (l : List En) (lo hi : Int) (A : Option Addr) (ca : Nat) (w : World) (hA : RowE w.heap.size w A l) (hl : l.length ≤ 1000) (hc : l.length ≤ ca) (hi' : idxE l lo hi = none) :
    Calls Try.prog 19 #[.slice A l.length ca, .int .i64 lo, .int .i64 hi] w (GivE w l 5) := by
  have hF := r_Find l lo hi A ca w hA (by omega)
  have e1 : idxZ l lo hi = -1 := by unfold idxZ; rw [hi']
  rw [e1] at hF
  have HF := Lib.hid hF
  have HA := Lib.hid hA
  have HCa := Lib.hid hc
  clear hF e1 hA hl hi' hc
  go_enter Try.func19, Try.ntmps19
  go_wp2_with (go_at_call 10; refine HF.out.mono ?_; rintro e w' ⟨rfl, rfl⟩)
  go_ret2
  exact ⟨A, ca, rfl, HA.out, Below.refl _ _, HCa.out⟩
theorem enC_take (l : List En) (k : Nat) : (enC l).take (k * 3) = enC (l.take k) := by
  induction l generalizing k with
  | nil => simp [enC]
  | cons x t ih =>
    cases k with
    | zero => simp [enC]
    | succ k =>
      show (enL x ++ enC t).take ((k + 1) * 3) = enL x ++ enC (t.take k)
      have e : (k + 1) * 3 = (enL x).length + k * 3 := by show _ = 3 + _; omega
      rw [e, List.take_append, Nat.add_sub_cancel_left, ih k, List.take_of_length_le (by omega)]
theorem enC_drop (l : List En) (k : Nat) : (enC l).drop (k * 3) = enC (l.drop k) := by
  induction l generalizing k with
  | nil => simp [enC]
  | cons x t ih =>
    cases k with
    | zero => simp [enC]
    | succ k =>
      show (enL x ++ enC t).drop ((k + 1) * 3) = enC (t.drop k)
      have e : (k + 1) * 3 = (enL x).length + k * 3 := by show _ = 3 + _; omega
      rw [e, List.drop_append, Nat.add_sub_cancel_left, ih k, List.drop_of_length_le (by omega)]
      rfl
set_option maxRecDepth 100000 in
set_option maxHeartbeats 4000000 in
theorem r_Cut (l : List En) (lo hi : Int) (A : Option Addr) (ca : Nat) (w : World) (hA : RowE w.heap.size w A l) (hl : l.length ≤ 1000) (hc : l.length ≤ ca) {k : Nat} (hi' : idxE l lo hi = some k) :
    Calls Try.prog 19 #[.slice A l.length ca, .int .i64 lo, .int .i64 hi] w (GivE w (l.take k ++ l.drop (k + 1)) 0) := by
  have hF := r_Find l lo hi A ca w hA (by omega)
  have e1 : idxZ l lo hi = (k : Int) := by unfold idxZ; rw [hi']
  rw [e1] at hF
  obtain ⟨hk, -, -⟩ := idxE_some hi'
  obtain ⟨b, f, rfl, hbl, -⟩ := hA (by omega)
  have HC := Lib.hid (RowE.cells hA)
  obtain ⟨n, hn⟩ : ∃ n, l.length = n := ⟨_, rfl⟩
  rw [hn] at hF ⊢
  have HLn := Lib.hid hn
  have HF := Lib.hid hF
  obtain ⟨i0, hi0, hz0, hz1, hz2⟩ := info_parts info38
  obtain ⟨m, hm⟩ : ∃ m, n = k + 1 + m := ⟨n - (k + 1), by omega⟩
  have HM := Lib.hid hm
  have g1 : ((k : Int) + 1) ≤ (n : Int) := by omega
  have g2 : (k : Int) ≤ (n : Int) := by omega
  have g5 : k ≤ n := by omega
  have g6 : k + 1 ≤ n := by omega
  have g7 : n ≤ ca := by omega
  have g8 : k ≤ ca := by omega
  obtain ⟨off, c2, hX, hoff⟩ : ∃ off c2, Value.slice (if ca = k + 1 then some ⟨b, f, none⟩ else some ⟨b, f + (k + 1) * 3, none⟩) (n - (k + 1)) (ca - (k + 1)) = .slice (some ⟨b, off, none⟩) m c2 ∧ (m = 0 ∨ off = f + (k + 1) * 3) := by
    have e : n - (k + 1) = m := by omega
    rw [e]
    by_cases h : ca = k + 1
    · exact ⟨f, _, by rw [if_pos h], .inl (by omega)⟩
    · exact ⟨f + (k + 1) * 3, _, by rw [if_neg h], .inr rfl⟩
  have HX := Lib.hid hX
  clear hX
  have HE1 : Hid ((w.drew.alloc (.cells #[] 38)).ownsRow w.heap.size 38 3 (.slice (some ⟨w.heap.size, 0, none⟩) 0 0) 0 []) := Lib.hid ⟨rfl, .inr ⟨w.heap.size, 0, #[], rfl, Nat.le_refl _, heap_alloc_new w.drew _, Nat.le_refl _, Nat.zero_le _, rfl, rfl⟩⟩
  have HB1 : Hid (Below w.heap.size w (w.drew.alloc (.cells #[] 38))) := Lib.hid ((Below.refl _ _).drew.alloc (Nat.le_refl _) _)
  have HR : Hid (∀ wx, Below w.heap.size w wx → ∀ j u, (enC l)[j]? = some u → wx.cell? ⟨b, f + j, none⟩ = some u) := Lib.hid (fun wx hb j u hj => (hb.cell (p := ⟨b, _, none⟩) hbl).trans (HC.out j u hj))
  have HR1 : Hid (∀ wx, Below w.heap.size w wx → ∀ j u, (enC (l.take k))[j]? = some u → wx.cell? ⟨b, f + j, none⟩ = some u) := Lib.hid (fun wx hb j u hj => HR.out wx hb j u (by
    rw [← enC_take, List.getElem?_take] at hj
    split at hj
    · exact hj
    · cases hj))
  have HR2 : Hid (∀ wx, Below w.heap.size w wx → ∀ j u, (enC (l.drop (k + 1)))[j]? = some u → wx.cell? ⟨b, off + j, none⟩ = some u) := Lib.hid (fun wx hb j u hj => by
    rcases hoff with h0 | hoff
    · have h1 : (enC (l.drop (k + 1))).length = 0 := by rw [enC_len, List.length_drop]; omega
      rw [List.eq_nil_of_length_eq_zero h1] at hj
      cases hj
    rw [hoff, Nat.add_assoc]
    exact HR.out wx hb _ u (by rw [← enC_drop, List.getElem?_drop] at hj; exact hj))
  have HL1 : Hid ((enC (l.take k)).length = k * 3) := Lib.hid (by rw [enC_len, List.length_take]; congr 1; omega)
  have HL2 : Hid ((enC (l.drop (k + 1))).length = m * 3) := Lib.hid (by rw [enC_len, List.length_drop]; congr 1; omega)
  have HO1 := Lib.hid (enC_one (l.take k))
  have HO2 := Lib.hid (enC_one (l.drop (k + 1)))
  have HBd : Hid (k + m ≤ 1000000 ∧ 0 + k ≤ 1000000) := Lib.hid (by omega)
  have HFin : Hid (∀ (W : World) v, W.ownsRow w.heap.size 38 3 v (k + m) (enC (l.take k) ++ enC (l.drop (k + 1))) → ∃ A c, v = .slice A (l.take k ++ l.drop (k + 1)).length c ∧ RowE W.heap.size W A (l.take k ++ l.drop (k + 1)) ∧ (l.take k ++ l.drop (k + 1)).length ≤ c) := Lib.hid (fun W v h => by
    refine OwnE.row (B := w.heap.size) ?_
    unfold OwnE
    have e2 : (l.take k ++ l.drop (k + 1)).length = k + m := by rw [List.length_append, List.length_take, List.length_drop]; omega
    have e3 : enC (l.take k ++ l.drop (k + 1)) = enC (l.take k) ++ enC (l.drop (k + 1)) := by unfold enC; rw [List.flatMap_append]
    rw [e2, e3]; exact h)
  generalize l.take k ++ l.drop (k + 1) = L at HFin ⊢
  have q1 : (0 : Int) ≤ (k : Int) + 1 := by omega
  have q2 : (k : Int) + 1 ≤ 2000 := by omega
  have g3 : wrap64 ((k : Int) + 1) = (k : Int) + 1 := by unfold wrap64; omega
  have g4 := wr_one _ q1 q2
  clear hF e1 hA hl hc hi' HC HR hn hm hoff
  go_enter Try.func19, Try.ntmps19
  go_upto_region 4 with (go_at_call 10; refine HF.out.mono ?_; rintro e w' ⟨rfl, rfl⟩)
  go_region_law (first
    | (refine step_app_en rfl (.tmp 20) (.tmp 24) rfl i0 _ hi0 hz0 hz1 hz2 rfl _ w.heap.size v8 k (enC (l.take k)) rfl HO8.out b off m c2 (enC (l.drop (k + 1))) HX.out (HR2.out _ HB8.out) HL2.out HO2.out HBd.out.1 HSz.out ?_; intro v9 w9 hO9 hb9; have HB9 := Lib.hid (HB8.out.trans hb9); have HR9 := Lib.hid (HFin.out _ _ hO9); clear hO9 hb9)
    | (refine step_app_en rfl (.tmp 16) (.tmp 19) rfl i0 _ hi0 hz0 hz1 hz2 rfl _ w.heap.size (.slice (some ⟨w.heap.size, 0, none⟩) 0 0) 0 [] rfl HE1.out b f k _ (enC (l.take k)) rfl (HR1.out _ HB1.out) HL1.out HO1.out HBd.out.2 (by simp) ?_; intro v8 w8 hO8 hb8; have HB8 := Lib.hid (HB1.out.trans hb8); rw [Nat.zero_add, List.nil_append] at hO8; have HO8 := Lib.hid hO8; have HSz : Hid (w.heap.size ≤ w8.heap.size) := Lib.hid HB8.out.size; clear hO8 hb8))
  all_goals
    obtain ⟨A9, c9, e9, hr9, hp9⟩ := HR9.out
    have HP9 := Lib.hid hp9
    clear hp9
    subst e9
    go_wp2
    all_goals
      go_ret2
      exact ⟨A9, c9, rfl, hr9, HB9.out, HP9.out⟩
/-- An operation. -/
structure Act where
  op : Int
  lo : Int
  hi : Int
  id : Int
structure Act.ok (x : Act) : Prop where
  lo : In64 x.lo
  hi : In64 x.hi
  id : In64 x.id
def actR (x : Act) : Array Value := #[.int .i64 x.op, .int .i64 x.lo, .int .i64 x.hi, .int .i64 x.id]
def Act.en (x : Act) : En := ⟨x.lo, x.hi, x.id⟩
/-- The table behind an operation, and the error. -/
def doE (l : List En) (x : Act) : List En × Int :=
  if x.op = 0 then (match idxE l x.lo x.hi with | some _ => (l, 6) | none => (insE l x.en, 0))
  else if x.op = 1 then (match idxE l x.lo x.hi with | some k => (l.take k ++ l.drop (k + 1), 0) | none => (l, 5))
  else if x.op = 2 then ([], 0) else (l, 0)
set_option maxHeartbeats 4000000 in
theorem r_Do (l : List En) (x : Act) (A : Option Addr) (ca : Nat) (w : World) (hA : RowE w.heap.size w A l) (hl : l.length ≤ 1000) (hc : l.length ≤ ca) :
    Calls Try.prog 8 #[.slice A l.length ca, .agg (actR x)] w (GivE w (doE l x).1 (doE l x).2) := by
  have HB : Hid (Below w.heap.size w (w.alloc (.cells (actR x) 28))) := Lib.hid ((Below.refl _ _).alloc (Nat.le_refl _) _)
  have hA1 := hA.step HB.out
  have HA1 := Lib.hid hA1
  have HCa := Lib.hid hc
  have HG : Hid (∀ L y e w', GivE (w.alloc (.cells (actR x) 28)) L y e w' → GivE w L y e w') := Lib.hid (fun L y e w' ⟨A', c', h1, h2, h3, h4⟩ => ⟨A', c', h1, h2, HB.out.trans (h3.mono HB.out.size), h4⟩)
  by_cases h0 : x.op = 0
  · have b0 : (x.op == 0) = true := by simp [h0]
    cases hi : idxE l x.lo x.hi with
    | some k =>
      have e : doE l x = (l, 6) := by unfold doE; rw [if_pos h0, hi]
      have HC := Lib.hid (r_Put_old l x.en A ca _ hA1 hl hc (k := k) hi)
      rw [e]
      unfold actR Act.en at *
      clear hA hA1 hl hc h0 hi e
      go_enter Try.func8, Try.ntmps8
      go_wp2_with (go_at_call 18; refine HC.out.mono ?_; rintro e w1 ⟨A', c', rfl, h2, h3, h4⟩; have HE := Lib.hid (And.intro h2 (And.intro h3 h4)); clear h2 h3 h4)
      go_ret2
      exact HG.out _ _ _ _ ⟨A', c', rfl, HE.out.1, HE.out.2.1, HE.out.2.2⟩
    | none =>
      have e : doE l x = (insE l x.en, 0) := by unfold doE; rw [if_pos h0, hi]
      have HC := Lib.hid (r_Put_new l x.en A ca _ hA1 hl hi)
      rw [e]
      generalize insE l x.en = L at *
      unfold actR Act.en at *
      clear hA hA1 hl hc h0 hi e
      go_enter Try.func8, Try.ntmps8
      go_wp2_with (go_at_call 18; refine HC.out.mono ?_; rintro e w1 ⟨A', c', rfl, h2, h3, h4⟩; have HE := Lib.hid (And.intro h2 (And.intro h3 h4)); clear h2 h3 h4)
      go_ret2
      exact HG.out _ _ _ _ ⟨A', c', rfl, HE.out.1, HE.out.2.1, HE.out.2.2⟩
  have b0 : (x.op == 0) = false := by simp [h0]
  by_cases h1 : x.op = 1
  · have b1 : (x.op == 1) = true := by simp [h1]
    cases hi : idxE l x.lo x.hi with
    | some k =>
      have e : doE l x = (l.take k ++ l.drop (k + 1), 0) := by unfold doE; rw [if_neg h0, if_pos h1, hi]
      have HC := Lib.hid (r_Cut l x.lo x.hi A ca _ hA1 hl hc (k := k) hi)
      rw [e]
      generalize l.take k ++ l.drop (k + 1) = L at *
      unfold actR at *
      clear hA hA1 hl hc h0 h1 hi e
      go_enter Try.func8, Try.ntmps8
      go_wp2_with (go_at_call 19; refine HC.out.mono ?_; rintro e w1 ⟨A', c', rfl, h2, h3, h4⟩; have HE := Lib.hid (And.intro h2 (And.intro h3 h4)); clear h2 h3 h4)
      go_ret2
      exact HG.out _ _ _ _ ⟨A', c', rfl, HE.out.1, HE.out.2.1, HE.out.2.2⟩
    | none =>
      have e : doE l x = (l, 5) := by unfold doE; rw [if_neg h0, if_pos h1, hi]
      have HC := Lib.hid (r_Cut_no l x.lo x.hi A ca _ hA1 hl hc hi)
      rw [e]
      unfold actR at *
      clear hA hA1 hl hc h0 h1 hi e
      go_enter Try.func8, Try.ntmps8
      go_wp2_with (go_at_call 19; refine HC.out.mono ?_; rintro e w1 ⟨A', c', rfl, h2, h3, h4⟩; have HE := Lib.hid (And.intro h2 (And.intro h3 h4)); clear h2 h3 h4)
      go_ret2
      exact HG.out _ _ _ _ ⟨A', c', rfl, HE.out.1, HE.out.2.1, HE.out.2.2⟩
  have b1 : (x.op == 1) = false := by simp [h1]
  by_cases h2 : x.op = 2
  · have b2 : (x.op == 2) = true := by simp [h2]
    have e : doE l x = ([], 0) := by unfold doE; rw [if_neg h0, if_neg h1, if_pos h2]
    rw [e]
    unfold actR at *
    clear hA hA1 hl hc h0 h1 h2 e
    go_enter Try.func8, Try.ntmps8
    go_wp2
    go_ret2
    exact ⟨none, 0, rfl, RowE.nil, HB.out, Nat.le_refl _⟩
  · have b2 : (x.op == 2) = false := by simp [h2]
    have e : doE l x = (l, 0) := by unfold doE; rw [if_neg h0, if_neg h1, if_neg h2]
    rw [e]
    unfold actR at *
    clear hA hA1 hl hc h0 h1 h2 e
    go_enter Try.func8, Try.ntmps8
    go_wp2
    go_ret2
    exact ⟨A, ca, rfl, HA1.out, HB.out, HCa.out⟩
end Go.Proofs.Ytmnolldomipgiaa
