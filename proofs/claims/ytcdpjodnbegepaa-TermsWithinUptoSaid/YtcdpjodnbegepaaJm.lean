/- The type of a node by its operator, as the specification says it, of layer 30 (terms). -/
import Derived.Test.YtcdpjodnbegepaaFnO
import Derived.Test.YtcdpjodnbegepaaFnF
namespace Go.Proofs.Ytcdpjodnbegepaa
open Go.RowKit

/-- A type within the limits. -/
def TyK (y : Ty) : Prop := -1048576 ≤ y.lo ∧ y.lo ≤ y.hi ∧ y.hi ≤ 1048576
theorem span_k (lo hi : Int) : TyK (spanS lo hi).1 := by
  unfold spanS
  split
  · unfold TyK ty0; decide
  · unfold TyK; simp only; omega
theorem tyT_k : TyK tyT := by unfold TyK tyT; decide
theorem ty0_k : TyK ty0 := by unfold TyK ty0; decide
theorem vspan_k (v : Vr) : TyK (vspan v).1 := by
  unfold vspan
  split
  · exact tyT_k
  · exact span_k _ _
theorem tyOf_k (t : Ex) (l : List Ty) : TyK (tyOf t l).1 := by
  unfold tyOf reachS
  (repeat' split) <;> first | exact span_k _ _ | exact tyT_k | exact ty0_k
theorem node_k (vs : List Vr) (nx : Bool) (t : Ex) (l : List Ty) : TyK (nodeT vs nx t l).1 := by
  unfold nodeT varT
  (repeat' split) <;> first | exact vspan_k _ | exact tyOf_k _ _ | exact ty0_k
theorem TyK.in_ {y : Ty} (h : TyK y) : TyIn y := by unfold TyK at h; unfold TyIn I64; omega
theorem mn4 (a b c d : Int) : mnN [a, b, c, d] 3 = min (min (min a b) c) d := by
  show (if (if (if a ≤ b then a else b) ≤ c then (if a ≤ b then a else b) else c) ≤ d then (if (if a ≤ b then a else b) ≤ c then (if a ≤ b then a else b) else c) else d) = _
  (repeat' split) <;> omega
theorem mx4 (a b c d : Int) : mxN [a, b, c, d] 3 = max (max (max a b) c) d := by
  show (if d ≤ (if c ≤ (if b ≤ a then a else b) then (if b ≤ a then a else b) else c) then (if c ≤ (if b ≤ a then a else b) then (if b ≤ a then a else b) else c) else d) = _
  (repeat' split) <;> omega
theorem comp14 {x y : Int} (hx : -1048576 ≤ x ∧ x ≤ 1048576) (hy : -1048576 ≤ y ∧ y ≤ 1048576) : (compS 14 x y).1 = x + y := by
  show (addF x y).1 = _
  unfold addF; rw [if_pos (by omega)]
theorem comp15 {x y : Int} (hx : -1048576 ≤ x ∧ x ≤ 1048576) (hy : -1048576 ≤ y ∧ y ≤ 1048576) : (compS 15 x y).1 = x - y := by
  show (addF x (IntKind.i64.wrap (-y))).1 = _
  have : IntKind.i64.wrap (-y) = -y := by rw [IntKind.wrap_i64]; omega
  rw [this]
  unfold addF; rw [if_pos (by omega)]; show x + -y = x - y; omega
theorem mul_bd {x y : Int} (hx : -1048576 ≤ x ∧ x ≤ 1048576) (hy : -1048576 ≤ y ∧ y ≤ 1048576) : -1099511627776 ≤ x * y ∧ x * y ≤ 1099511627776 := by
  have h1 : x.natAbs ≤ 1048576 := by omega
  have h2 : y.natAbs ≤ 1048576 := by omega
  have h3 : (x * y).natAbs ≤ 1048576 * 1048576 := by rw [Int.natAbs_mul]; exact Nat.mul_le_mul h1 h2
  omega
theorem comp16 {x y : Int} (hx : -1048576 ≤ x ∧ x ≤ 1048576) (hy : -1048576 ≤ y ∧ y ≤ 1048576) : (compS 16 x y).1 = wrap64 (x * y) := by
  have h := mul_bd hx hy
  have e : wrap64 (x * y) = x * y := by unfold wrap64; omega
  show (mulF x y).1 = _
  rw [e]
  unfold mulF; rw [if_pos (by omega)]
section
variable {t : Ex} {a b c : Ty}
theorem join_tr {l : List Ty} (ho : 5 ≤ t.op ∧ t.op ≤ 9) : tyOf t l = if (trC l == l.length) = true then (tyT, 0) else (ty0, 13) := by
  have hs : suitS t.op l = (trC l == l.length) := by unfold suitS; rw [if_neg (by omega), if_neg (by omega), if_neg (by omega)]
  unfold tyOf
  rw [hs]
  cases trC l == l.length
  · rfl
  · rw [if_neg (by simp), if_neg (by omega), if_neg (by omega), if_neg (by omega), if_neg (by omega)]; rfl
theorem suit2 (ho : 12 ≤ t.op ∧ t.op ≤ 17) : suitS t.op [a, b] = !(a.b || b.b) := by
  unfold suitS
  rw [if_neg (by omega), if_neg (by omega), if_pos (by omega)]
  simp only [trC]
  cases a.b <;> cases b.b <;> rfl
theorem join_eq (ho : t.op = 10 ∨ t.op = 11) : tyOf t [a, b] = if (a.b != b.b) = true then (ty0, 13) else (tyT, 0) := by
  have hs : suitS t.op [a, b] = !(a.b != b.b) := by
    unfold suitS; rw [if_pos ho]; simp only [trC]
    cases a.b <;> cases b.b <;> rfl
  unfold tyOf
  rw [hs]
  cases a.b != b.b
  · rw [if_neg (by simp), if_neg (by omega), if_neg (by omega), if_neg (by omega), if_neg (by omega)]; rfl
  · rfl
theorem join_cmp (ho : t.op = 12 ∨ t.op = 13) : tyOf t [a, b] = if (a.b || b.b) = true then (ty0, 13) else (tyT, 0) := by
  unfold tyOf
  rw [suit2 (by omega)]
  cases a.b || b.b
  · rw [if_neg (by simp), if_neg (by omega), if_neg (by omega), if_neg (by omega), if_neg (by omega)]; rfl
  · rfl
theorem join_if (ho : t.op = 18) : tyOf t [a, b, c] = if (!a.b || b.b != c.b) = true then (ty0, 13) else if b.b then (tyT, 0) else spanS (min b.lo c.lo) (max b.hi c.hi) := by
  have hs : suitS t.op [a, b, c] = !(!a.b || b.b != c.b) := by
    unfold suitS; rw [if_neg (by omega), if_pos ho]; simp only [trC]
    show (a.b && _) = _
    cases a.b <;> cases b.b <;> cases c.b <;> rfl
  unfold tyOf
  rw [hs]
  cases !a.b || b.b != c.b
  · rw [if_neg (by simp), if_neg (by omega), if_neg (by omega), if_neg (by omega), if_pos ho]; rfl
  · rfl
theorem join_add (ho : t.op = 14) (ha : TyK a) (hb : TyK b) : tyOf t [a, b] = if (a.b || b.b) = true then (ty0, 13) else spanS (a.lo + b.lo) (a.hi + b.hi) := by
  unfold TyK at ha hb
  unfold tyOf
  rw [suit2 (by omega)]
  cases a.b || b.b
  · rw [if_neg (by simp), if_neg (by omega), if_pos (by omega)]
    show reachS t.op a b = spanS _ _
    unfold reachS
    have hc : corners t.op a b = [a.lo + b.lo, a.lo + b.hi, a.hi + b.lo, a.hi + b.hi] := by
      rw [ho]
      show [(compS 14 a.lo b.lo).1, (compS 14 a.lo b.hi).1, (compS 14 a.hi b.lo).1, (compS 14 a.hi b.hi).1] = _
      rw [comp14 (by omega) (by omega), comp14 (by omega) (by omega), comp14 (by omega) (by omega), comp14 (by omega) (by omega)]
    rw [hc, mn4, mx4]
    congr 1 <;> omega
  · rfl
theorem join_sub (ho : t.op = 15) (ha : TyK a) (hb : TyK b) : tyOf t [a, b] = if (a.b || b.b) = true then (ty0, 13) else spanS (a.lo - b.hi) (a.hi - b.lo) := by
  unfold TyK at ha hb
  unfold tyOf
  rw [suit2 (by omega)]
  cases a.b || b.b
  · rw [if_neg (by simp), if_neg (by omega), if_pos (by omega)]
    show reachS t.op a b = spanS _ _
    unfold reachS
    have hc : corners t.op a b = [a.lo - b.lo, a.lo - b.hi, a.hi - b.lo, a.hi - b.hi] := by
      rw [ho]
      show [(compS 15 a.lo b.lo).1, (compS 15 a.lo b.hi).1, (compS 15 a.hi b.lo).1, (compS 15 a.hi b.hi).1] = _
      rw [comp15 (by omega) (by omega), comp15 (by omega) (by omega), comp15 (by omega) (by omega), comp15 (by omega) (by omega)]
    rw [hc, mn4, mx4]
    congr 1 <;> omega
  · rfl
theorem join_mul (ho : t.op = 16) (ha : TyK a) (hb : TyK b) : tyOf t [a, b] = if (a.b || b.b) = true then (ty0, 13) else spanS (mnN (prods a b) 3) (mxN (prods a b) 3) := by
  unfold TyK at ha hb
  unfold tyOf
  rw [suit2 (by omega)]
  cases a.b || b.b
  · rw [if_neg (by simp), if_neg (by omega), if_pos (by omega)]
    show reachS t.op a b = spanS _ _
    unfold reachS
    have hc : corners t.op a b = prods a b := by
      rw [ho]
      show [(compS 16 a.lo b.lo).1, (compS 16 a.lo b.hi).1, (compS 16 a.hi b.lo).1, (compS 16 a.hi b.hi).1] = _
      rw [comp16 (by omega) (by omega), comp16 (by omega) (by omega), comp16 (by omega) (by omega), comp16 (by omega) (by omega)]
      rfl
    rw [hc]
  · rfl
theorem join_mod (ho : t.op = 17) : tyOf t [a, b] = if (a.b || b.b) = true then (ty0, 13) else if (kd t.ks 1).op = 1 ∧ 0 < (kd t.ks 1).vr then spanS 0 ((kd t.ks 1).vr - 1) else (ty0, 2) := by
  unfold tyOf
  rw [suit2 (by omega)]
  cases a.b || b.b
  · rw [if_neg (by simp), if_neg (by omega), if_neg (by omega), if_pos ho]; rfl
  · rfl
end
end Go.Proofs.Ytcdpjodnbegepaa
