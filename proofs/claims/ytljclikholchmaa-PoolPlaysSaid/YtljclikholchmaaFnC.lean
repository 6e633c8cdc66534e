/- The example of the chapter holds; layer 9 (pool). -/
import Derived.Test.YtljclikholchmaaFnB
namespace Go.Proofs.Ytljclikholchmaa
open Go.RowKit

section
variable {w : World}
set_option maxRecDepth 100000 in
set_option maxHeartbeats 1000000 in
theorem lives_any (w : World) : Calls Try.prog 7 #[] w fun e w' => e = .returned (.bool true) ∧ Below w.heap.size w w' := by
  have HN := Lib.hid (pl_New (n := 2) (by omega) (by omega) w)
  obtain ⟨Z, hZ⟩ : ∃ Z, w.heap.size = Z := ⟨_, rfl⟩
  rw [hZ] at HN
  have HZ := Lib.hid hZ
  have hb : Below Z w w := Below.refl _ _
  clear hZ
  go_enter Try.func7, Try.ntmps7
  go_wp2_with fail
  refine HN.out.mono ?_; rintro e w1 ⟨rfl, ⟨F1, h1⟩, b1⟩
  have H1 := Lib.hid h1
  have B1 := Lib.hid b1
  have C1 := Lib.hid (pl_Take_new h1 (by decide) ⟨0, 7, 0, 0, 0⟩)
  clear h1 b1 HN hb
  unfold ndV ndRow at C1
  dsimp only at C1
  go_wp2_with fail
  refine C1.out.mono ?_; rintro e w2 ⟨rfl, hn⟩
  have B2 := Lib.hid (B1.out.trans (hn.below H1.out))
  obtain ⟨F2, h2, -, -⟩ := hn
  have H2 := Lib.hid h2
  have C2 := Lib.hid (pl_Take_new h2 (by decide) nd0)
  clear h2 H1 B1 C1
  unfold ndV ndRow nd0 at C2
  dsimp only at C2
  go_wp2_with fail
  refine C2.out.mono ?_; rintro e w3 ⟨rfl, hn⟩
  have B3 := Lib.hid (B2.out.trans (hn.below H2.out))
  obtain ⟨F3, h3, -, -⟩ := hn
  have H3 := Lib.hid h3
  have C3 := Lib.hid (pl_Take_full h3 (by decide) nd0)
  clear h3 H2 B2 C2
  unfold ndV ndRow nd0 at C3
  dsimp only at C3
  go_wp2_with fail
  refine C3.out.mono ?_; rintro e w4 ⟨rfl, hn⟩
  have B4 := Lib.hid (B3.out.trans (hn.below H3.out))
  obtain ⟨F4, h4, -, -⟩ := hn
  have H4 := Lib.hid h4
  have C4 := Lib.hid (pl_Give (i := 0) h4 (by decide) (by decide))
  clear h4 H3 B3 C3
  go_wp2_with fail
  refine C4.out.mono ?_; rintro e w5 ⟨rfl, hn⟩
  have B5 := Lib.hid (B4.out.trans (hn.below H4.out))
  obtain ⟨F5, h5, -, -⟩ := hn
  have H5 := Lib.hid h5
  have C5 := Lib.hid (pl_Take_free (f := []) (i := 0) h5 ⟨0, 9, 0, 0, 0⟩)
  clear h5 H4 B4 C4
  unfold ndV ndRow at C5
  dsimp only at C5
  go_wp2_with fail
  refine C5.out.mono ?_; rintro e w6 ⟨rfl, hn⟩
  have B6 := Lib.hid (B5.out.trans (hn.below H5.out))
  obtain ⟨F6, h6, -, -⟩ := hn
  have hA := pl_At h6 1 (by decide)
  have HA : Hid (Calls Try.prog 11 #[.pointer (some ⟨Z, 0, none⟩), .int .i64 1] w6 fun e w' => e = .returned (.tuple #[.agg #[.int .i64 1, .int .i64 9, .int .i64 0, .int .i64 0, .int .i64 0], .bool true]) ∧ Below w6.heap.size w6 w') := Lib.hid hA
  clear h6 hA H5 B5 C5
  go_wp2_with fail
  refine HA.out.mono ?_; rintro e w7 ⟨rfl, b7⟩
  have B7 := Lib.hid (B6.out.trans (b7.mono (by have := B6.out.size; have := HZ.out; omega)))
  clear b7 HA B6
  go_wp2
  go_ret
  refine ⟨rfl, ?_⟩
  rw [HZ.out]
  exact B7.out.alloc (by have := B7.out.size; have := HZ.out; omega) _
end
end Go.Proofs.Ytljclikholchmaa
