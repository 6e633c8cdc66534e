/- Contract of Take of a pool, of layer 9 (pool), over the translation. -/
import Derived.Test.YtljclikholchmaaFn4
namespace Go.Proofs.Ytljclikholchmaa
open Go.RowKit

section
variable {w : World} {base bp : Nat} {room : Int} {An As : Option Addr} {cn cs : Nat} {N : List Nd} {st : List Int} {nf : Nat}
set_option maxRecDepth 100000 in
set_option maxHeartbeats 1000000 in
/-- A full pool. -/
theorem pool_Take_full (h : PoolIn w base bp room An As cn cs N st 0) (_hN : N.length ≤ 1048576) (hr : room ≤ N.length) (x : Nd) : Calls Try.prog 19 #[.pointer (some ⟨bp, 0, none⟩), ndV x] w fun e w' =>
    e = .returned (.tuple #[.int .i64 0, .int .i64 7]) ∧ PoolIn w' base bp room An As cn cs N st 0 ∧ Frm (PoolS bp An As) w w' := by
  have hb : Below w.heap.size w (w.alloc (.cells (ndRow x) 38)) := (Below.refl _ _).alloc (Nat.le_refl _) _
  have hbl : base ≤ w.heap.size := Nat.le_trans h.lo (Nat.le_of_lt h.head.lt)
  have hP := h.below hb
  have e0 := hP.head.cell 0
  have e1 := hP.head.cell 1
  have e3 := hP.head.cell 3
  simp [freeV] at e0 e1 e3
  have HP := Lib.hid hP
  have HB := Lib.hid hb
  have HL := Lib.hid hbl
  obtain ⟨x0, x1, x2, x3, x4⟩ := x
  unfold ndV ndRow
  unfold ndRow at HB HP e0 e1 e3
  dsimp only at HB HP e0 e1 e3 ⊢
  have hr2 : decide ((N.length : Int) < room) = false := decide_eq_false (by omega)
  clear h hb hbl hP
  go_enter Try.func19, Try.ntmps19
  go_wp2
  go_quiet (fail)
  go_wp2
  go_ret2
  have hbd := below_drewN (Below.refl w.heap.size (w.alloc (.cells #[.int .i64 x0, .int .i64 x1, .int .i64 x2, .int .i64 x3, .int .i64 x4] 38))) nq
  exact ⟨rfl, HP.out.below (below_drewN (Below.refl _ _) _), Frm.of_below (HB.out.trans hbd)⟩
end
end Go.Proofs.Ytljclikholchmaa
