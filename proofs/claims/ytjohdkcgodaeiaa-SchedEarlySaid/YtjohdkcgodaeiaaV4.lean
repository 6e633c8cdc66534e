/- Contract of Union of vset; layer 42 (sched). -/
import Derived.Test.YtjohdkcgodaeiaaV3
namespace Go.Proofs.Ytjohdkcgodaeiaa
open Go.RowKit

set_option maxHeartbeats 2000000 in
theorem vset_Union (A : Option Addr) (ca : Nat) (rows : List Rw) (w : World) (h : RR w w.heap.size A rows) (hr : rows.length ≤ 1000000) (hl : (allL rows rows.length).length ≤ 1000000) :
    Calls Try.prog 20 #[.slice A rows.length ca] w (GivesF w (setL (allL rows rows.length))) := by
  have HC := Lib.hid (concat_any A ca rows w h hr hl)
  obtain ⟨T, hT⟩ : ∃ T, allL rows rows.length = T := ⟨_, rfl⟩
  rw [hT] at HC hl ⊢
  clear h hT
  go_enter Try.func20, Try.ntmps20
  go_wp2_with fail
  refine HC.out.mono ?_; rintro e w1 ⟨v, rfl, hO, hb1⟩
  have HS := Lib.hid (vset_sorted _ _ _ _ hO (by omega))
  clear hO HC
  go_wp2_with fail
  refine HS.out.mono ?_; rintro e w2 ⟨A2, rfl, hA, hb2⟩
  have HG : Hid (GivesF w (setL T) (.returned (.slice A2 (setL T).length (setL T).length)) w2) := Lib.hid (by
    have hb := hb1.trans hb2
    obtain ⟨A, c, he, h1, h2, h3⟩ := GivesB.gives ⟨A2, rfl, hA, hb⟩
    refine ⟨A, c, he, h1, h2, ?_, h3⟩
    injection he with he
    injection he with he1 he2 he3
    subst he1
    rcases hA with ⟨e, _⟩ | ⟨g, e, hg, _⟩
    · rw [e]; intro a h; cases h
    · rw [e]; intro a h; cases h; exact hg)
  obtain ⟨n, hn⟩ : ∃ n, (setL T).length = n := ⟨_, rfl⟩
  rw [hn] at HG ⊢
  clear hA HS hn
  go_wp2
  go_ret
  exact HG.out

end Go.Proofs.Ytjohdkcgodaeiaa
