/- Why an event can't be written down; the words; layer 28 (events). -/
import Derived.Test.YtfppplalgdopjaaDoorE5
import Derived.Test.YtfppplalgdopjaaDoorSb
import Derived.Test.YtfppplalgdopjaaDoorSh
import Derived.Test.YtfppplalgdopjaaDoorN5
namespace Go.Proofs.YtfppplalgdopjaaDoor
open Go.RowKit

def flT (x : Ev) : Int := if x.k < 1 ∨ 3 < x.k then 11 else if x.a < 1 ∨ x.l < 0 ∨ (0 < x.l ∧ x.k ≠ 2) then 2 else 0
set_option maxHeartbeats 8000000 in
theorem e_flT (x : Ev) (w : World) : Calls Tryd.prog 19 #[.agg #[.int .i64 x.a, .int .i64 x.k, .int .i64 x.l]] w fun e w' => e = .returned (.int .i64 (flT x)) ∧ Below w.heap.size w w' := by
  obtain ⟨a, k, l⟩ := x
  have HB1 : Hid (∀ o, Below w.heap.size w (w.alloc o)) := Lib.hid (fun o => below_al o)
  obtain ⟨r, hr⟩ : ∃ r, flT ⟨a, k, l⟩ = r := ⟨_, rfl⟩
  rw [hr]
  unfold flT at hr
  dsimp only at hr ⊢
  have HR := Lib.hid hr
  clear hr
  by_cases k0 : k < 1
  all_goals by_cases k1 : 3 < k
  all_goals by_cases a0 : a < 1
  all_goals by_cases l0 : l < 0
  all_goals by_cases l1 : 0 < l
  all_goals by_cases k2 : k = 2
  all_goals try (exfalso; omega)
  all_goals have HR' := HR.out
  all_goals simp only [l0, l1, k0, k1, a0, k2, or_true, or_false, and_true, and_false, if_true, if_false, or_self, ne_eq, not_true, not_false_iff] at HR'
  all_goals first | subst HR' | (exfalso; omega) | skip
  all_goals clear HR
  all_goals
    (try have kk : (k != 2) = true := by simp [k2])
    go_enter Tryd.func19, Tryd.ntmps19
    go_wp2
    go_ret
    exact ⟨rfl, by first | exact HB1.out _ | exact below_drewN (HB1.out _) _⟩
end Go.Proofs.YtfppplalgdopjaaDoor
