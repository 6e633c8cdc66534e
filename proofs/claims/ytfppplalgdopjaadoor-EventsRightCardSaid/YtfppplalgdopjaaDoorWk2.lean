/- EventsRight's walk; layer 28 (events). -/
import Derived.Test.YtfppplalgdopjaaDoorRb
import Derived.Test.YtfppplalgdopjaaDoorEc
namespace Go.Proofs.YtfppplalgdopjaaDoor
open Go.RowKit

set_option maxRecDepth 100000 in
set_option maxHeartbeats 4000000 in
theorem eventsRight_walk (vars : Int) (A : Option Addr) (c : Nat) (L : List Ev) (w : World) (hG : Gl w) (hR : RowG w w.heap.size A c (evC L)) (hI : ∀ x, x ∈ L → InE x) :
    Calls Tryd.prog 3 #[.int .i64 vars, .slice A L.length c] w fun e w' => e = .returned (.bool true) ∧ Below w.heap.size w w' := by
  have HL : Hid (∀ wx, Below w.heap.size w wx → Calls Tryd.prog 7 #[] wx fun e w' => e = .returned (.bool true) ∧ Below w.heap.size w w') := Lib.hid (fun wx hb => (law_lives wx (hG.step hb)).mono fun e w' ⟨h1, h2⟩ => ⟨h1, hb.trans (h2.mono hb.size)⟩)
  by_cases hmany : 300 < L.length
  · have k1 : (300 : Int) < (L.length : Int) := by omega
    have HL0 := Lib.hid (HL.out w (Below.refl _ _))
    clear HL hG hR hI
    go_enter Tryd.func3, Tryd.ntmps3
    go_wp2_with (go_at_call 7; (with_reducible refine HL0.out.mono ?_); rintro e w1 ⟨rfl, hb1⟩; have HB1 := Lib.hid hb1; clear hb1)
    go_ret
    exact ⟨rfl, HB1.out⟩
  · have k1 : ¬ (300 : Int) < (L.length : Int) := by omega
    have hl : L.length ≤ 1000000 := by omega
    obtain ⟨T, hT⟩ : ∃ T : ByteArray, (⟨(textR L).1.toArray⟩ : ByteArray) = T := ⟨_, rfl⟩
    obtain ⟨q, hq⟩ : ∃ q : Int, (textR L).2 = q := ⟨_, rfl⟩
    obtain ⟨r, hr⟩ : ∃ r : Int, rightE vars L = r := ⟨_, rfl⟩
    have H8 : Hid (Calls Tryd.prog 8 #[.slice A L.length c] w fun e w' => e = .returned (.tuple #[.string T, .int .i64 q]) ∧ Below w.heap.size w w') := Lib.hid (by rw [← hT, ← hq]; exact e_Text L A c w hG hR hI hl)
    have H9 : Hid (∀ wx, Below w.heap.size w wx → Calls Tryd.prog 9 #[.slice A L.length c] wx fun e w' => e = .returned (.tuple #[.string T, .int .i64 q]) ∧ Below w.heap.size w w') := Lib.hid (fun wx hb => by
      rw [← hT, ← hq]
      exact (r_Text L A c wx (hR.step hb) hI hl).mono fun e w' ⟨h1, h2⟩ => ⟨h1, hb.trans (h2.mono hb.size)⟩)
    have H10 : Hid (∀ wx, Below w.heap.size w wx → Calls Tryd.prog 10 #[.int .i64 vars, .slice A L.length c] wx fun e w' => e = .returned (.int .i64 r) ∧ Below w.heap.size w w') := Lib.hid (fun wx hb => by
      rw [← hr]
      exact (e_Right vars L A c wx (hR.step hb) hl).mono fun e w' ⟨h1, h2⟩ => ⟨h1, hb.trans (h2.mono hb.size)⟩)
    have H11 : Hid (∀ wx, Below w.heap.size w wx → Calls Tryd.prog 11 #[.int .i64 vars, .slice A L.length c] wx fun e w' => e = .returned (.int .i64 r) ∧ Below w.heap.size w w') := Lib.hid (fun wx hb => by
      rw [← hr]
      exact (r_Right vars L A c wx (hR.step hb) hl).mono fun e w' ⟨h1, h2⟩ => ⟨h1, hb.trans (h2.mono hb.size)⟩)
    have g2 : (q != q) = false := by simp
    have g3 : (r != r) = false := by simp
    have g4 : (r == r) = true := by simp
    by_cases hv : vars < 0 ∨ 64 < vars
    · have H12 : Hid (∀ wx, Below w.heap.size w wx → Calls Tryd.prog 12 #[.int .i64 vars, .int .i64 10] wx fun e w' => e = .returned (.tuple #[.pointer none, .int .i64 2]) ∧ Below w.heap.size w w') := Lib.hid (fun wx hb => (e_ddNew vars 10 wx (by decide) (by decide)).mono (by
        rintro e w' (⟨_, h1, h2⟩ | ⟨n, g, s, A, c, r, m, rfl, hn, _⟩)
        · exact ⟨h1, hb.trans (h2.mono hb.size)⟩
        · omega))
      obtain rfl : 2 = r := by rw [← hr, show rightE vars L = 2 from if_pos hv]
      clear hT hq hr hG hR hI hv
      go_enter Tryd.func3, Tryd.ntmps3
      go_wp2_with (first
        | (go_at_call 7; have _ := HB5; (with_reducible refine (HL.out _ HB5.out).mono ?_); rintro e w6 ⟨rfl, hb6⟩; have HB6 := Lib.hid hb6; clear hb6)
        | (go_at_call 12; have _ := HB4; (with_reducible refine (H12.out _ HB4.out).mono ?_); rintro e w5 ⟨rfl, hb5⟩; have HB5 := Lib.hid hb5; clear hb5)
        | (go_at_call 11; have _ := HB3; (with_reducible refine (H11.out _ HB3.out).mono ?_); rintro e w4 ⟨rfl, hb4⟩; have HB4 := Lib.hid hb4; clear hb4)
        | (go_at_call 10; have _ := HB2; (with_reducible refine (H10.out _ HB2.out).mono ?_); rintro e w3 ⟨rfl, hb3⟩; have HB3 := Lib.hid hb3; clear hb3)
        | (go_at_call 9; have _ := HB1; (with_reducible refine (H9.out _ HB1.out).mono ?_); rintro e w2 ⟨rfl, hb2⟩; have HB2 := Lib.hid hb2; clear hb2)
        | (go_at_call 8; (with_reducible refine H8.out.mono ?_); rintro e w1 ⟨rfl, hb1⟩; have HB1 := Lib.hid hb1; clear hb1))
      go_ret
      exact ⟨rfl, HB6.out⟩
    · have H12 : Hid (∀ wx, Below w.heap.size w wx → Calls Tryd.prog 12 #[.int .i64 vars, .int .i64 10] wx fun e w' => ∃ (n g : Nat), vars = (n : Int) ∧ n ≤ 64 ∧ e = .returned (.tuple #[.pointer (some ⟨g, 0, none⟩), .int .i64 0]) ∧ Man w' g n (.slice none 0 0) ∧ w.heap.size ≤ g ∧ Below w.heap.size w w') := Lib.hid (fun wx hb => (e_ddNew vars 10 wx (by decide) (by decide)).mono (by
        rintro e w' (⟨h, _⟩ | ⟨n, g, s, A, c, r, m, hvn, hn, he, hK, hc, hsg, hws, hb2⟩)
        · omega
        · exact ⟨n, g, hvn, hn, he, ⟨s, _, _, _, hK, A, c, hc, Nat.lt_trans hsg hK.lt⟩, by have := hb.size; omega, hb.trans (hb2.mono hb.size)⟩))
      have H13 : Hid (∀ wx (n g : Nat), Below w.heap.size w wx → vars = (n : Int) → n ≤ 64 → Man wx g n (.slice none 0 0) → w.heap.size ≤ g → Calls Tryd.prog 13 #[.pointer (some ⟨g, 0, none⟩), .slice A L.length c] wx fun e w' => e = .returned (.int .i64 r) ∧ Below w.heap.size w w') := Lib.hid (fun wx n g hb hvn hn hM hg => by
        subst hvn
        rw [← hr, show rightE (n : Int) L = planR n L from if_neg hv]
        exact (e_Plan g n L A c wx hn hM ((hR.below hb).more hg) w.heap.size hg hl).mono fun e w' ⟨h1, h2⟩ => ⟨h1, hb.trans h2⟩)
      clear hT hq hr hG hR hI hv
      go_enter Tryd.func3, Tryd.ntmps3
      go_wp2_with (first
        | (go_at_call 7; have _ := HB6; (with_reducible refine (HL.out _ HB6.out).mono ?_); rintro e w7 ⟨rfl, hb7⟩; have HB7 := Lib.hid hb7; clear hb7)
        | (go_at_call 13; have _ := HB5; (with_reducible refine (H13.out _ _ _ HB5.out HN.out.1 HN.out.2.1 HN.out.2.2.1 HN.out.2.2.2).mono ?_); rintro e w6 ⟨rfl, hb6⟩; have HB6 := Lib.hid hb6; clear hb6)
        | (go_at_call 12; have _ := HB4; (with_reducible refine (H12.out _ HB4.out).mono ?_); rintro e w5 ⟨n, g, hn1, hn2, rfl, hM, hg, hb5⟩; have HN := Lib.hid (And.intro hn1 (And.intro hn2 (And.intro hM hg))); have HB5 := Lib.hid hb5; clear hb5 hn1 hn2 hM hg)
        | (go_at_call 11; have _ := HB3; (with_reducible refine (H11.out _ HB3.out).mono ?_); rintro e w4 ⟨rfl, hb4⟩; have HB4 := Lib.hid hb4; clear hb4)
        | (go_at_call 10; have _ := HB2; (with_reducible refine (H10.out _ HB2.out).mono ?_); rintro e w3 ⟨rfl, hb3⟩; have HB3 := Lib.hid hb3; clear hb3)
        | (go_at_call 9; have _ := HB1; (with_reducible refine (H9.out _ HB1.out).mono ?_); rintro e w2 ⟨rfl, hb2⟩; have HB2 := Lib.hid hb2; clear hb2)
        | (go_at_call 8; (with_reducible refine H8.out.mono ?_); rintro e w1 ⟨rfl, hb1⟩; have HB1 := Lib.hid hb1; clear hb1))
      go_ret
      exact ⟨rfl, HB7.out⟩
end Go.Proofs.YtfppplalgdopjaaDoor
