/- flaw of a manager, Plan, Right; layer 28 (events). -/
import Derived.Test.YtfppplalgdopjaaDoorE2
namespace Go.Proofs.YtfppplalgdopjaaDoor
open Go.RowKit

/-- What is wrong about an event for n variables. -/
def flawE (n : Int) (x : Ev) : Int := if x.k < 1 ∨ 3 < x.k then 11 else if x.a < 1 ∨ x.k = 2 ∧ (x.l < 0 ∨ n - 1 ≤ x.l) then 2 else 0
set_option maxHeartbeats 8000000 in
theorem e_flaw (g n : Nat) (evs : Value) (x : Ev) (w : World) (hn : n ≤ 64) (hM : Man w g n evs) : Calls Tryd.prog 27 #[.pointer (some ⟨g, 0, none⟩), .agg #[.int .i64 x.a, .int .i64 x.k, .int .i64 x.l]] w fun e w' => e = .returned (.int .i64 (flawE n x)) ∧ Below w.heap.size w w' := by
  obtain ⟨a, k, l⟩ := x
  have HV : Hid (∀ wx, Below w.heap.size w wx → Calls Tryd.prog 41 #[.pointer (some ⟨g, 0, none⟩)] wx fun e w' => e = .returned (.int .i64 (n : Int)) ∧ wx = w') := Lib.hid (fun wx hb => e_Vars g n evs wx (hM.below hb))
  have HB1 : Hid (∀ o, Below w.heap.size w (w.alloc o)) := Lib.hid (fun o => below_al o)
  clear hM
  have w1 : IntKind.i64.wrap ((n : Int) - 1) = (n : Int) - 1 := by rw [IntKind.wrap_i64]; omega
  obtain ⟨r, hr⟩ : ∃ r, flawE n ⟨a, k, l⟩ = r := ⟨_, rfl⟩
  rw [hr]
  unfold flawE at hr
  dsimp only at hr ⊢
  have HR := Lib.hid hr
  clear hr
  by_cases l0 : l < 0
  all_goals by_cases l1 : (n : Int) - 1 ≤ l
  all_goals by_cases k0 : k < 1
  all_goals by_cases k1 : 3 < k
  all_goals by_cases a0 : a < 1
  all_goals by_cases k2 : k = 2
  all_goals try (exfalso; omega)
  all_goals have HR' := HR.out
  all_goals simp only [l0, l1, k0, k1, a0, k2, or_true, or_false, and_true, and_false, if_true, if_false, or_self] at HR'
  all_goals first | subst HR' | (exfalso; omega) | skip
  all_goals clear HR
  all_goals
    go_enter Tryd.func27, Tryd.ntmps27
    go_upto_region 1 with (fail)
    (first | (have d0 : decide (l < 0) = true := decide_eq_true (by omega)) | (have d0 : decide (l < 0) = false := decide_eq_false (by omega)))
    (first | (have d1 : decide ((n : Int) - 1 ≤ l) = true := decide_eq_true (by omega)) | (have d1 : decide ((n : Int) - 1 ≤ l) = false := decide_eq_false (by omega)))
    go_quiet ((go_at_call 41; exact Calls.quiet_of_same ((HV.out _ (below_drewN (HB1.out _) _)).mono fun _ _ h => ⟨h.1, h.2.symm⟩)))
    go_wp2
    go_ret
    exact ⟨rfl, below_drewN (HB1.out _) _⟩
end Go.Proofs.YtfppplalgdopjaaDoor
