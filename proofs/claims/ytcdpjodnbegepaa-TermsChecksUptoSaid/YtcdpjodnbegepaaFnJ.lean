/- The contract of valueOf at a remainder, of layer 30 (terms). -/
import Derived.Test.YtcdpjodnbegepaaFnG
import Derived.Test.YtcdpjodnbegepaaFnH
namespace Go.Proofs.Ytcdpjodnbegepaa
open Go.RowKit

def modS (x y : Int) : Int := (x.tmod y + y) % y
set_option maxHeartbeats 2000000 in
theorem pr_valueMod (t : Ex) (A : Option Addr) (c : Nat) (l : List Int) (K : Option Addr) (ck : Nat) (w : World) (hT : RI w w.heap.size K l) (ho : t.op = 17) (hl : l.length = 2) (h1 : 0 < li l 1) (h2 : li l 1 ≤ 1000000000) :
    Calls Try.prog 51 #[exV t A c, .slice K l.length ck] w fun e w' => e = .returned (.tuple #[.int .i64 (modS (li l 0) (li l 1)), .int .i64 0]) ∧ Below w.heap.size w w' := by
  have HB : Hid (∀ ob, Below w.heap.size w (w.alloc ob)) := Lib.hid (fun ob => (Below.refl _ _).alloc (Nat.le_refl _) ob)
  obtain ⟨b, f, rfl, hb, hc⟩ := hT (by omega)
  have e0 : w.cell? ⟨b, f, none⟩ = some (.int .i64 (li l 0)) := by simpa using hc 0 (by omega)
  have e1 : w.cell? ⟨b, f + 1, none⟩ = some (.int .i64 (li l 1)) := hc 1 (by omega)
  show Calls Try.prog 51 #[.agg #[.int .i64 t.op, .int .i64 t.vr, .string t.nm, .slice A t.ks.length c], .slice (some ⟨b, f, none⟩) l.length ck] w _
  rw [ho, hl]
  generalize t.vr = v at *
  generalize t.nm = m at *
  generalize t.ks.length = n at *
  generalize li l 0 = x at *
  generalize li l 1 = y at *
  have r1 : x.tmod y < y := Int.tmod_lt_of_pos x h1
  have r2 : -y < x.tmod y := Int.lt_tmod_of_pos x h1
  have X : Hid (modS x y = (x.tmod y + y) % y) := Lib.hid rfl
  have g0 : (y == 0) = false := by simp; omega
  have g1 : ¬ y = 0 := by omega
  have g2 : wrap64 (x.tmod y + y) = x.tmod y + y := by unfold wrap64; omega
  have g3 : IntKind.i64.wrap (x.tmod y + y) = x.tmod y + y := by rw [IntKind.wrap_i64]; omega
  have r3 : (x.tmod y + y).tmod y < y := Int.tmod_lt_of_pos _ h1
  have r4 : -y < (x.tmod y + y).tmod y := Int.lt_tmod_of_pos _ h1
  have g4 : wrap64 (x.tmod y) = x.tmod y := by unfold wrap64; omega
  have g5 : IntKind.i64.wrap (x.tmod y) = x.tmod y := by rw [IntKind.wrap_i64]; omega
  have g6 : wrap64 ((x.tmod y + y).tmod y) = (x.tmod y + y).tmod y := by unfold wrap64; omega
  have g7 : IntKind.i64.wrap ((x.tmod y + y).tmod y) = (x.tmod y + y).tmod y := by rw [IntKind.wrap_i64]; omega
  clear hc hT ho hl
  go_enter Try.func51, Try.ntmps51
  go_wp2
  go_quiet (fail)
  go_wp2
  go_ret2
  rw [X.out]
  exact ⟨rfl, by first | exact HB.out _ | exact below_drewN (HB.out _) _⟩
end Go.Proofs.Ytcdpjodnbegepaa
