/- EventsReads's walk; layer 28 (events). -/
import Derived.Test.YtfppplalgdopjaaDoorFf
import Derived.Test.YtfppplalgdopjaaDoorWk1
namespace Go.Proofs.YtfppplalgdopjaaDoor
open Go.RowKit

set_option maxRecDepth 100000 in
set_option maxHeartbeats 4000000 in
theorem eventsReads_walk (s : ByteArray) (w : World) (hG : Gl w) (hW : Wt w) :
    Calls Tryd.prog 4 #[.string s] w fun e w' => e = .returned (.bool true) ∧ Below w.heap.size w w' := by
  have HL : Hid (∀ wx, Below w.heap.size w wx → Calls Tryd.prog 7 #[] wx fun e w' => e = .returned (.bool true) ∧ Below w.heap.size w w') := Lib.hid (fun wx hb => (law_lives wx (hG.step hb)).mono fun e w' ⟨h1, h2⟩ => ⟨h1, hb.trans (h2.mono hb.size)⟩)
  have HN : Hid (∀ wx, Below w.heap.size w wx → Calls Tryd.prog 16 #[.slice none 0 0, .slice none 0 0] wx fun e w' => e = .returned (.bool true) ∧ Below w.heap.size w w') := Lib.hid (fun wx hb => (l_same (L := []) (w := wx) RowG.nil RowG.nil (by simp)).mono fun e w' ⟨h1, h2⟩ => ⟨h1, hb.trans (h2.mono hb.size)⟩)
  by_cases hlong : 65536 < s.size
  · have H1 := Lib.hid (e_ParseLong s w hlong)
    have H2 : Hid (∀ wx, Below w.heap.size w wx → Calls Tryd.prog 15 #[.string s] wx fun e w' => e = .returned (.tuple #[.slice none 0 0, .int .i64 4]) ∧ Below w.heap.size w w') := Lib.hid (fun wx hb => (r_ParseLong s wx hlong).mono fun e w' ⟨h1, h2⟩ => ⟨h1, hb.trans (h2.mono hb.size)⟩)
    clear hG hW hlong
    go_enter Tryd.func4, Tryd.ntmps4
    go_wp2_with (first
      | (go_at_call 7; have _ := HB3; (with_reducible refine (HL.out _ HB3.out).mono ?_); rintro e w4 ⟨rfl, hb4⟩; have HB4 := Lib.hid hb4; clear hb4)
      | (go_at_call 16; have _ := HB2; (with_reducible refine (HN.out _ HB2.out).mono ?_); rintro e w3 ⟨rfl, hb3⟩; have HB3 := Lib.hid hb3; clear hb3)
      | (go_at_call 15; have _ := HB1; (with_reducible refine (H2.out _ HB1.out).mono ?_); rintro e w2 ⟨rfl, hb2⟩; have HB2 := Lib.hid hb2; clear hb2)
      | (go_at_call 14; (with_reducible refine H1.out.mono ?_); rintro e w1 ⟨rfl, hb1⟩; have HB1 := Lib.hid hb1; clear hb1))
    go_ret
    exact ⟨rfl, HB4.out⟩
  have h15 := fun wx => r_Parse s wx (by omega)
  have h14 := e_ParseAll s w hG hW (by omega)
  rcases parse_agree s with ⟨L, hp, he, ht⟩ | ⟨hp, ht⟩
  · have H1 : Hid (Calls Tryd.prog 14 #[.string s] w fun e w' => ∃ A c, e = .returned (.tuple #[.slice A L.length c, .int .i64 0]) ∧ RowG w' w'.heap.size A c (evC L) ∧ Below w.heap.size w w') := Lib.hid (h14.mono (by
      rintro e w' ⟨A, n, c, v, rfl, (⟨h1, rfl, rfl, h4⟩ | ⟨h1, _⟩), hb2⟩
      · rw [he] at h4 ⊢
        exact ⟨A, c, rfl, h4, hb2⟩
      · exact absurd ht h1))
    have H2 : Hid (∀ wx, Below w.heap.size w wx → Calls Tryd.prog 15 #[.string s] wx fun e w' => ∃ A c, e = .returned (.tuple #[.slice A L.length c, .int .i64 0]) ∧ RowG w' w'.heap.size A c (evC L) ∧ Below wx.heap.size wx w' ∧ Below w.heap.size w w') := Lib.hid (fun wx hb => (h15 wx).mono (by
      rintro e w' (⟨v, L', h1, rfl, h3, h4⟩ | ⟨h1, _⟩)
      · obtain rfl := Option.some.inj (hp.symm.trans h1)
        obtain ⟨A, c, rfl, hr⟩ := own_row h3
        exact ⟨A, c, rfl, hr, h4, hb.trans (h4.mono hb.size)⟩
      · rw [hp] at h1; cases h1))
    have hll : L.length ≤ 1000000 := by
      rw [he] at ht
      have := (textR_inv _ _ ht).1
      omega
    have H16 : Hid (∀ wx A c B d, Below w.heap.size w wx → RowG wx wx.heap.size A c (evC L) → RowG wx wx.heap.size B d (evC L) → Calls Tryd.prog 16 #[.slice A L.length c, .slice B L.length d] wx fun e w' => e = .returned (.bool true) ∧ Below w.heap.size w w') := Lib.hid (fun wx A c B d hb h1 h2 => (l_same h1 h2 hll).mono fun e w' ⟨h1, h2⟩ => ⟨h1, hb.trans (h2.mono hb.size)⟩)
    clear hG hW hlong h15 h14 hp he ht hll
    go_enter Tryd.func4, Tryd.ntmps4
    go_wp2_with (first
      | (go_at_call 7; have _ := HB3; (with_reducible refine (HL.out _ HB3.out).mono ?_); rintro e w4 ⟨rfl, hb4⟩; have HB4 := Lib.hid hb4; clear hb4)
      | (go_at_call 16; have _ := HB2; (with_reducible refine (H16.out _ _ _ _ _ HB2.out HR1b.out HR2.out).mono ?_); rintro e w3 ⟨rfl, hb3⟩; have HB3 := Lib.hid hb3; clear hb3)
      | (go_at_call 15; have _ := HB1; (with_reducible refine (H2.out _ HB1.out).mono ?_); rintro e w2 ⟨A2, c2, rfl, hr2, hb2, hB2⟩; have HR2 := Lib.hid hr2; have HR1b := Lib.hid (HR1.out.step hb2); have HB2 := Lib.hid hB2; clear hb2 hr2 hB2)
      | (go_at_call 14; (with_reducible refine H1.out.mono ?_); rintro e w1 ⟨A1, c1, rfl, hr1, hb1⟩; have HR1 := Lib.hid hr1; have HB1 := Lib.hid hb1; clear hb1 hr1))
    go_ret
    exact ⟨rfl, HB4.out⟩
  · have H1 : Hid (Calls Tryd.prog 14 #[.string s] w fun e w' => e = .returned (.tuple #[.slice none 0 0, .int .i64 3]) ∧ Below w.heap.size w w') := Lib.hid (h14.mono (by
      rintro e w' ⟨A, n, c, v, rfl, (⟨h1, _⟩ | ⟨_, rfl, rfl, rfl, rfl⟩), hb2⟩
      · exact absurd h1 ht
      · exact ⟨rfl, hb2⟩))
    have H2 : Hid (∀ wx, Below w.heap.size w wx → Calls Tryd.prog 15 #[.string s] wx fun e w' => e = .returned (.tuple #[.slice none 0 0, .int .i64 3]) ∧ Below w.heap.size w w') := Lib.hid (fun wx hb => (h15 wx).mono (by
      rintro e w' (⟨v, L', h1, _⟩ | ⟨_, rfl, h4⟩)
      · rw [hp] at h1; cases h1
      · exact ⟨rfl, hb.trans (h4.mono hb.size)⟩))
    clear hG hW hlong h15 h14 hp ht
    go_enter Tryd.func4, Tryd.ntmps4
    go_wp2_with (first
      | (go_at_call 7; have _ := HB3; (with_reducible refine (HL.out _ HB3.out).mono ?_); rintro e w4 ⟨rfl, hb4⟩; have HB4 := Lib.hid hb4; clear hb4)
      | (go_at_call 16; have _ := HB2; (with_reducible refine (HN.out _ HB2.out).mono ?_); rintro e w3 ⟨rfl, hb3⟩; have HB3 := Lib.hid hb3; clear hb3)
      | (go_at_call 15; have _ := HB1; (with_reducible refine (H2.out _ HB1.out).mono ?_); rintro e w2 ⟨rfl, hb2⟩; have HB2 := Lib.hid hb2; clear hb2)
      | (go_at_call 14; (with_reducible refine H1.out.mono ?_); rintro e w1 ⟨rfl, hb1⟩; have HB1 := Lib.hid hb1; clear hb1))
    go_ret
    exact ⟨rfl, HB4.out⟩
end Go.Proofs.YtfppplalgdopjaaDoor
