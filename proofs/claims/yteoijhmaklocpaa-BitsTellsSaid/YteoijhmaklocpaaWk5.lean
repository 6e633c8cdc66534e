/- The walk of the law BitsTells. -/
import Derived.Test.YteoijhmaklocpaaWk3
import Derived.Test.YteoijhmaklocpaaFn8
namespace Go.Proofs.Yteoijhmaklocpaa
open Go.RowKit Go.PlainAid

def numV (l : List Bool) : Nat := if l.length ≤ 64 then numN l l.length else numN l 64
theorem num_any (A : Option Addr) (ca : Nat) (l : List Bool) (w : World) (h : RB w w.heap.size A l) (hl : l.length ≤ 1000000000000) :
    Calls Try.prog 12 #[.slice A l.length ca] w fun r w' => r = .returned (.int .u64 (numV l)) ∧ w = w' := by
  unfold numV
  by_cases c : l.length ≤ 64
  · rw [if_pos c]; exact bits_Num_le A ca l w h c
  · rw [if_neg c]; exact bits_Num_gt A ca l w h hl (by omega)
theorem rnum_any (A : Option Addr) (ca : Nat) (l : List Bool) (w : World) (h : RB w w.heap.size A l) (hl : l.length ≤ 1000000000000) :
    Calls Try.prog 13 #[.slice A l.length ca] w fun r w' => r = .returned (.int .u64 (numV l)) ∧ w = w' := by
  unfold numV
  by_cases c : l.length ≤ 64
  · rw [if_pos c]; exact ref_Num_le A ca l w h c
  · rw [if_neg c]; exact ref_Num_gt A ca l w h hl (by omega)
/-- Two slices that hold one list, one in a row that the call has made. -/
theorem same_two {A : Option Addr} {g n c : Nat} {a : List Bool} {w : World} (hg : Blk w g 4 (boolRow a)) (ha : RB w w.heap.size A a) (hn : a.length = n) (la : n ≤ 1000000000000) :
    Calls Try.prog 9 #[.slice (some ⟨g, 0, none⟩) n n, .slice A n c] w fun r w' => r = .returned (.bool true) ∧ Below w.heap.size w w' := by
  subst hn
  exact same_true (RB.blk hg hg.lt) ha la

set_option maxHeartbeats 1000000 in
theorem bitsTells_walk (n m : Int) (A : Option Addr) (ca : Nat) (l : List Bool) (w : World) (wn : (Lit.int .u64 n).wf = true) (wm : (Lit.int .i64 m).wf = true) (hl : RB w w.heap.size A l) (ml : l.length ≤ maxLen) :
    Calls Try.prog 3 #[.int .u64 n, .int .i64 m, .slice A l.length ca] w fun r w' => r = .returned (.bool true) ∧ Below w.heap.size w w' := by
  unfold maxLen at ml
  obtain ⟨n1, n2⟩ := bounds_u64 wn
  obtain ⟨n, rfl⟩ := Int.eq_ofNat_of_zero_le n1
  clear wn wm n1
  by_cases l1 : 300 < l.length
  · go_enter Try.func3, Try.ntmps3
    go_wp2_with (first
      | (go_at_call 8; refine (lives_any _).mono ?_; rintro e w1 ⟨rfl, hb1⟩))
    go_ret
    exact ⟨rfl, hb1⟩
  have H := Lib.hid hl
  clear hl
  have hK := clampN_le m
  have hKl := ofL_len n (clampN m)
  have HKL := Lib.hid hKl
  clear hKl
  go_enter Try.func3, Try.ntmps3
  go_wp2_with fail
  refine (bits_Of _ _ _ (by omega)).mono ?_; rintro e w1 ⟨g1, rfl, B1, hg1, h1⟩
  have H1 := Lib.hid ((H.out.below h1).more h1.size)
  go_wp2_with fail
  refine (ref_Of _ _ _ (by omega)).mono ?_; rintro e w2 ⟨v, rfl, hO, h2⟩
  have H2 := Lib.hid ((H1.out.below h2).more h2.size)
  obtain ⟨A2, c2, hv, R2⟩ := hO.rb
  rw [HKL.out] at hv
  subst hv
  have B2 := B1.below h2 B1.lt
  have HS := Lib.hid (same_two (c := c2) B2 R2 HKL.out (by omega))
  have c2' := h1.trans (h2.mono h1.size)
  clear B1 hg1 h1 hO R2 B2 h2
  go_wp2_with fail
  refine HS.out.mono ?_; rintro e w3 ⟨rfl, h3⟩
  have H3 := Lib.hid ((H2.out.below h3).more h3.size)
  go_wp2_with fail
  refine (num_any _ _ _ _ H3.out (by omega)).mono ?_; rintro e w' ⟨rfl, rfl⟩
  go_wp2_with fail
  refine (rnum_any _ _ _ _ H3.out (by omega)).mono ?_; rintro e w' ⟨rfl, rfl⟩
  go_wp2_with fail
  refine (bits_Next _ _ _ _ H3.out (by omega)).mono ?_; rintro e w4 ⟨g4, rfl, B4, hg4, h4⟩
  have H4 := Lib.hid ((H3.out.below h4).more h4.size)
  go_wp2_with fail
  refine (ref_Next _ _ _ _ H4.out (by omega)).mono ?_; rintro e w5 ⟨v5, rfl, hO5, h5⟩
  have H5 := Lib.hid ((H4.out.below h5).more h5.size)
  obtain ⟨A5, c5, hv5, R5⟩ := hO5.rb
  rw [nextL_len] at hv5
  subst hv5
  have B5 := B4.below h5 B4.lt
  have HS5 := Lib.hid (same_two (c := c5) B5 R5 (nextL_len l) (by omega))
  have c3 := c2'.trans (h3.mono c2'.size)
  have c4 := c3.trans (h4.mono c3.size)
  have c5' := c4.trans (h5.mono c4.size)
  clear B4 hg4 hO5 R5 B5 h3 h4 h5 c2' c3 c4
  go_wp2_with fail
  refine HS5.out.mono ?_; rintro e w6 ⟨rfl, h6⟩
  have H6 := Lib.hid ((H5.out.below h6).more h6.size)
  go_wp2_with fail
  refine (bits_Text _ _ _ _ H6.out (by omega)).mono ?_; rintro e w7 ⟨rfl, h7⟩
  have H7 := Lib.hid ((H6.out.below h7).more h7.size)
  go_wp2_with fail
  refine (ref_Text _ _ _ _ H7.out (by omega)).mono ?_; rintro e w' ⟨rfl, rfl⟩
  go_wp2_with fail
  refine (lives_any _).mono ?_; rintro e w8 ⟨rfl, h8⟩
  go_wp2_with fail
  go_ret
  have c6 := c5'.trans (h6.mono c5'.size)
  have c7 := c6.trans (h7.mono c6.size)
  exact ⟨rfl, c7.trans (h8.mono c7.size)⟩
end Go.Proofs.Yteoijhmaklocpaa
