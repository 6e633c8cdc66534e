/- The walk of the law BitsRound. -/
import Derived.Test.YteoijhmaklocpaaWk2
import Derived.Test.YteoijhmaklocpaaBmath
namespace Go.Proofs.Yteoijhmaklocpaa
open Go.RowKit Go.PlainAid

theorem parse_calls (l : List Bool) (w : World) (hl : l.length ≤ 4096) : Calls Try.prog 20 #[.string (strOfNums (textL l))] w fun r w' => ∃ g, r = .returned (.tuple #[.slice (some ⟨g, 0, none⟩) l.length l.length, .int .i64 0]) ∧ Blk w' g 4 (boolRow l) ∧ w.heap.size ≤ g ∧ Below w.heap.size w w' := by
  have h := bits_Parse_ok (strOfNums (textL l)) w (by rw [text_size]; exact hl) (bin_text l)
  rw [parse_text, text_size] at h
  exact h
theorem of_calls (l : List Bool) (w : World) (hl : l.length ≤ 64) : Calls Try.prog 10 #[.int .u64 (numN l l.length), .int .i64 l.length] w fun r w' => ∃ g, r = .returned (.slice (some ⟨g, 0, none⟩) l.length l.length) ∧ Blk w' g 4 (boolRow l) ∧ w.heap.size ≤ g ∧ Below w.heap.size w w' := by
  have hb := numN_lt l l.length
  have hb2 := pow_le (j := l.length) (k := 64) hl
  have h := bits_Of (numN l l.length) l.length w (by omega)
  have e : clampN (l.length : Int) = l.length := by unfold clampN; rw [if_neg (by omega), if_neg (by omega)]; simp
  rw [e, of_num] at h
  exact h
theorem of64_calls (n : Nat) (w : World) (hn : n ≤ 18446744073709551615) : Calls Try.prog 10 #[.int .u64 n, .int .i64 64] w fun r w' => ∃ g, r = .returned (.slice (some ⟨g, 0, none⟩) 64 64) ∧ Blk w' g 4 (boolRow (ofL n 64)) ∧ w.heap.size ≤ g ∧ Below w.heap.size w w' := by
  have h := bits_Of n 64 w hn
  have e : clampN 64 = 64 := by decide
  rw [e] at h
  exact h
theorem num64_calls (n g : Nat) (w : World) (hn : n ≤ 18446744073709551615) (hB : Blk w g 4 (boolRow (ofL n 64))) : Calls Try.prog 12 #[.slice (some ⟨g, 0, none⟩) 64 64] w fun r w' => r = .returned (.int .u64 n) ∧ w = w' := by
  have h := bits_Num_le (some ⟨g, 0, none⟩) 64 (ofL n 64) w (RB.blk hB hB.lt) (by rw [ofL_len]; omega)
  rw [ofL_len, num_of n (by omega)] at h
  exact h
theorem same_true {A C : Option Addr} {ca cb : Nat} {a : List Bool} {w : World} (ha : RB w w.heap.size A a) (hb : RB w w.heap.size C a) (la : a.length ≤ 1000000000000) :
    Calls Try.prog 9 #[.slice A a.length ca, .slice C a.length cb] w fun r w' => r = .returned (.bool true) ∧ Below w.heap.size w w' := by
  have h := same_r (ca := ca) (cb := cb) ha hb la la
  simpa using h
theorem numnext_calls (g : Nat) (l : List Bool) (w : World) (hl : l.length ≤ 64) (hB : Blk w g 4 (boolRow (nextL l))) : Calls Try.prog 12 #[.slice (some ⟨g, 0, none⟩) l.length l.length] w fun r w' => r = .returned (.int .u64 (numN (nextL l) l.length)) ∧ w = w' := by
  have h := bits_Num_le (some ⟨g, 0, none⟩) l.length (nextL l) w (RB.blk hB hB.lt) (by rw [nextL_len]; exact hl)
  rw [nextL_len] at h
  exact h
theorem y_all {l : List Bool} (h : allL l = true) : numN (nextL l) l.length = 0 := by
  have h1 := numR_next l
  rw [if_pos h, ← numN_R, nextL_len] at h1
  exact h1
theorem y_not {l : List Bool} (h : allL l = false) : numN (nextL l) l.length = numN l l.length + 1 := by
  have h1 := numR_next l
  rw [if_neg (by simp [h]), ← numN_R, ← numN_R, nextL_len] at h1
  exact h1

set_option maxHeartbeats 1000000 in
theorem bitsRound_walk (n : Int) (A : Option Addr) (ca : Nat) (l : List Bool) (w : World) (wn : (Lit.int .u64 n).wf = true) (hl : RB w w.heap.size A l) (ml : l.length ≤ maxLen) :
    Calls Try.prog 7 #[.int .u64 n, .slice A l.length ca] w fun r w' => r = .returned (.bool true) ∧ Below w.heap.size w w' := by
  unfold maxLen at ml
  obtain ⟨n1, n2⟩ := bounds_u64 wn
  obtain ⟨n, rfl⟩ := Int.eq_ofNat_of_zero_le n1
  clear wn n1
  by_cases l1 : 64 < l.length
  · go_enter Try.func7, Try.ntmps7
    go_wp2_with (first
      | (go_at_call 8; refine (lives_any _).mono ?_; rintro e w1 ⟨rfl, hb1⟩))
    go_ret
    exact ⟨rfl, hb1⟩
  have H := Lib.hid hl
  clear hl
  have hnum := numN_lt l l.length
  have hp := pow_le (j := l.length) (k := 64) (by omega)
  have hx1 : numN l l.length ≤ 18446744073709551615 := by omega
  have hy1 : numN (nextL l) l.length ≤ 18446744073709551615 := by have := numN_lt (nextL l) l.length; omega
  clear hnum hp
  go_enter Try.func7, Try.ntmps7
  go_wp2_with fail
  refine (bits_Num_le _ _ _ _ H.out (by omega)).mono ?_; rintro e w' ⟨rfl, rfl⟩
  go_wp2_with fail
  refine (bits_Text _ _ _ _ H.out (by omega)).mono ?_; rintro e w1 ⟨rfl, h1⟩
  have H1 := Lib.hid ((H.out.below h1).more h1.size)
  go_wp2_with fail
  refine (parse_calls _ _ (by omega)).mono ?_; rintro e w2 ⟨g2, rfl, B2, hg2, h2⟩
  have H2 := Lib.hid ((H1.out.below h2).more h2.size)
  go_wp2_with fail
  refine (of_calls _ _ (by omega)).mono ?_; rintro e w3 ⟨g3, rfl, B3, hg3, h3⟩
  have H3 := Lib.hid ((H2.out.below h3).more h3.size)
  have B23 := B2.below h3 B2.lt
  go_wp2_with fail
  refine (same_true (RB.blk B3 B3.lt) H3.out (by omega)).mono ?_; rintro e w4 ⟨rfl, h4⟩
  have H4 := Lib.hid ((H3.out.below h4).more h4.size)
  have B24 := B23.below h4 B23.lt
  go_wp2_with fail
  refine (of64_calls _ _ (by omega)).mono ?_; rintro e w5 ⟨g5, rfl, B5, hg5, h5⟩
  have H5 := Lib.hid ((H4.out.below h5).more h5.size)
  have B25 := B24.below h5 B24.lt
  go_wp2_with fail
  refine (num64_calls _ _ _ (by omega) B5).mono ?_; rintro e w' ⟨rfl, rfl⟩
  go_wp2_with fail
  refine (same_true (RB.blk B25 B25.lt) H5.out (by omega)).mono ?_; rintro e w6 ⟨rfl, h6⟩
  have H6 := Lib.hid ((H5.out.below h6).more h6.size)
  go_wp2_with fail
  refine (bits_Next _ _ _ _ H6.out (by omega)).mono ?_; rintro e w7 ⟨g7, rfl, B7, hg7, h7⟩
  have H7 := Lib.hid ((H6.out.below h7).more h7.size)
  go_wp2_with fail
  refine (numnext_calls _ _ _ (by omega) B7).mono ?_; rintro e w' ⟨rfl, rfl⟩
  have c2 := h1.trans (h2.mono h1.size)
  have c3 := c2.trans (h3.mono c2.size)
  have c4 := c3.trans (h4.mono c3.size)
  have c5 := c4.trans (h5.mono c4.size)
  have c6 := c5.trans (h6.mono c5.size)
  have c7 := c6.trans (h7.mono c6.size)
  clear h1 h2 h3 h4 h5 h6 h7 c2 c3 c4 c5 c6 B2 B3 B23 B24 B5 B25 B7 hg2 hg3 hg5 hg7 H1 H2 H3 H4 H5 H6
  go_wp2_with fail
  go_loop [9, 10] (fun a i => ∃ k : Nat, k ≤ l.length ∧ a = .bool (allTo l k) ∧ i = .int .i64 k) (fun _ i => l.length - (intOf i).toNat)
  case atStart => exact ⟨0, Nat.zero_le _, rfl, rfl⟩
  case round =>
    obtain ⟨k, hk, rfl, rfl⟩ := hrel
    by_cases hlt : k < l.length
    · obtain ⟨g, o, rfl, hg, hc⟩ := H7.out (by omega)
      have e1 := hc k hlt
      have h1' : (k : Int) < (l.length : Int) := by omega
      have hs : allTo l (k + 1) = (allTo l k && lb l k) := rfl
      clear hc
      cases hv : allTo l k
      · have HS : Hid (allTo l (k + 1) = false) := by show _ = _; rw [hs, hv]; rfl
        clear hs
        go_wp2
        go_round
        case rel => exact ⟨k + 1, by omega, by rw [HS.out], by go_num⟩
        case measure => simp [intOf]; omega
      · have HS : Hid (allTo l (k + 1) = lb l k) := by show _ = _; rw [hs, hv]; rfl
        clear hs
        go_wp2
        go_round
        case rel => exact ⟨k + 1, by omega, by rw [HS.out], by go_num⟩
        case measure => simp [intOf]; omega
    · obtain rfl : k = l.length := by omega
      rw [allTo_all]
      cases ha : allL l
      · have hy := y_not ha
        rw [hy] at hy1 ⊢
        clear hy
        go_wp2_with (first
          | (go_at_call 8; refine (lives_any _).mono ?_; rintro e w8 ⟨rfl, hb1⟩))
        go_ret
        exact ⟨rfl, c7.trans (hb1.mono c7.size)⟩
      · have hy := y_all ha
        rw [hy]
        clear hy
        go_wp2_with (first
          | (go_at_call 8; refine (lives_any _).mono ?_; rintro e w8 ⟨rfl, hb1⟩))
        go_ret
        exact ⟨rfl, c7.trans (hb1.mono c7.size)⟩
end Go.Proofs.Yteoijhmaklocpaa
