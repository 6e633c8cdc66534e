/- EventsSpread's walk; layer 28 (events). -/
import Derived.Test.YtfppplalgdopjaaDoorEd
namespace Go.Proofs.YtfppplalgdopjaaDoor
open Go.RowKit

theorem own_row {w : World} {B n : Nat} {v : Value} {l : List Ev} (h : OwnE w B v n l) : ∃ A c, v = .slice A l.length c ∧ RowG w w.heap.size A c (evC l) := by
  obtain ⟨h1, h2⟩ := h
  subst h1
  exact RowG.own (by decide) h2
theorem eventsSpread_walk (x many most vars : Int) (hv : -9223372036854775808 ≤ vars ∧ vars ≤ 9223372036854775807) (w : World) (hG : Gl w) :
    Calls Tryd.prog 5 #[.int .u64 x, .int .i64 many, .int .i64 most, .int .i64 vars] w fun e w' => e = .returned (.bool true) ∧ Below w.heap.size w w' := by
  obtain ⟨n, hn⟩ : ∃ n, (nearF many 0 256).toNat = n := ⟨_, rfl⟩
  have hn2 : n ≤ 256 := by rw [← hn]; unfold nearF; split <;> (try split) <;> omega
  obtain ⟨L, hL⟩ : ∃ L, spr (nearF most 1 1048576) vars x n = L := ⟨_, rfl⟩
  have H1 := Lib.hid (e_Spread x many most vars hv w)
  have H2 : Hid (∀ wx, _) := Lib.hid (fun wx => r_Spread_any x many most vars hv wx)
  rw [hn, hL] at H1
  simp only [hn, hL] at H2
  have HG := Lib.hid hG
  clear hG hv hn hL
  go_enter Tryd.func5, Tryd.ntmps5
  go_wp2_with (first
    | (go_at_call 7; have _ := HB3; (with_reducible refine (law_lives w3 (HG.out.step HB3.out)).mono ?_); rintro e w4 ⟨rfl, hb4⟩; have HB4 := Lib.hid (HB3.out.trans (hb4.mono HB3.out.size)); clear hb4)
    | (go_at_call 16; have _ := HR2; (with_reducible refine (l_same HR1b.out HR2.out HLL.out).mono ?_); rintro e w3 ⟨rfl, hb3⟩; have HB3 := Lib.hid (HB2.out.trans (hb3.mono HB2.out.size)); clear hb3)
    | (go_at_call 18; have _ := HR1; (with_reducible refine (H2.out w1).mono ?_); rintro e w2 ⟨v2, rfl, ho2, hb2⟩; obtain ⟨A2, c2, rfl, hr2⟩ := own_row ho2; have HR2 := Lib.hid hr2; have HR1b := Lib.hid (HR1.out.step hb2); have HB2 := Lib.hid (HB1.out.trans (hb2.mono HB1.out.size)); clear hb2 hr2 ho2)
    | (go_at_call 17; (with_reducible refine H1.out.mono ?_); rintro e w1 ⟨v1, rfl, ho1, hb1⟩; have HLL : Hid (L.length ≤ 1000000) := Lib.hid (by rw [ho1.1]; omega); obtain ⟨A1, c1, rfl, hr1⟩ := own_row ho1; have HR1 := Lib.hid hr1; have HB1 := Lib.hid hb1; clear hb1 hr1 ho1))
  go_ret
  exact ⟨rfl, HB4.out⟩
end Go.Proofs.YtfppplalgdopjaaDoor
