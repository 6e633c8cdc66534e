/- The walk of the law BitsReads. -/
import Derived.Test.YteoijhmaklocpaaWk3
import Derived.Test.YteoijhmaklocpaaFn7
namespace Go.Proofs.Yteoijhmaklocpaa
open Go.RowKit Go.PlainAid

theorem bt_ext {a b : ByteArray} (h : a.size = b.size) (hk : ∀ i, i < a.size → bt a i = bt b i) : a = b := by
  apply ByteArray.ext
  apply Array.ext h
  intro i h1 h2
  have := hk i h1
  have h1' : i < a.size := h1
  have h2' : i < b.size := h2
  have e1 : bt a i = ((a.data[i]).toNat : Int) := by unfold bt; rw [dif_pos h1']; rfl
  have e2 : bt b i = ((b.data[i]).toNat : Int) := by unfold bt; rw [dif_pos h2']; rfl
  rw [e1, e2] at this
  apply UInt8.toNat_inj.1
  omega
theorem text_bin {s : ByteArray} (h : BinTo s s.size) : strOfNums (textL (binL s s.size)) = s := by
  have hz : (strOfNums (textL (binL s s.size))).size = s.size := by rw [text_size, binL_len]
  apply bt_ext hz
  intro i hi
  rw [hz] at hi
  rw [bt_text _ i (by rw [binL_len]; exact hi)]
  have : lb (binL s s.size) i = (bt s i == 49) := by unfold lb binL; simp [List.getD, hi]
  rw [this]
  unfold ch
  rcases h i hi with e | e <;> rw [e] <;> rfl
theorem same_nil (w : World) : Calls Try.prog 9 #[.slice none 0 0, .slice none 0 0] w fun r w' => r = .returned (.bool true) ∧ Below w.heap.size w w' :=
  same_true (a := []) (ca := 0) (cb := 0) RB.nil RB.nil (by simp)

set_option maxHeartbeats 1000000 in
theorem bitsReads_walk (s : ByteArray) (w : World) (ws : s.size ≤ maxLen) :
    Calls Try.prog 5 #[.string s] w fun r w' => r = .returned (.bool true) ∧ Below w.heap.size w w' := by
  unfold maxLen at ws
  by_cases l1 : 5000 < s.size
  · go_enter Try.func5, Try.ntmps5
    go_wp2_with (first
      | (go_at_call 8; refine (lives_any _).mono ?_; rintro e w1 ⟨rfl, hb1⟩))
    go_ret
    exact ⟨rfl, hb1⟩
  by_cases l2 : 4096 < s.size
  · go_enter Try.func5, Try.ntmps5
    go_wp2_with fail
    refine (bits_Parse_long _ _ l2 (by omega)).mono ?_; rintro e w1 ⟨rfl, h1⟩
    go_wp2_with fail
    refine (ref_Parse_long _ _ l2 (by omega)).mono ?_; rintro e w2 ⟨rfl, h2⟩
    go_wp2_with fail
    refine (same_nil _).mono ?_; rintro e w3 ⟨rfl, h3⟩
    go_wp2_with fail
    refine (lives_any _).mono ?_; rintro e w4 ⟨rfl, h4⟩
    go_wp2_with fail
    go_ret
    have c2 := h1.trans (h2.mono h1.size)
    have c3 := c2.trans (h3.mono c2.size)
    exact ⟨rfl, c3.trans (h4.mono c3.size)⟩
  by_cases hbin : BinTo s s.size
  · have ht := text_bin hbin
    have HT := Lib.hid ht
    have HBIN := Lib.hid hbin
    clear ht hbin
    go_enter Try.func5, Try.ntmps5
    go_wp2_with fail
    refine (bits_Parse_ok _ _ (by omega) HBIN.out).mono ?_; rintro e w1 ⟨g1, rfl, B1, hg1, h1⟩
    go_wp2_with fail
    refine (ref_Parse_ok _ _ (by omega) HBIN.out).mono ?_; rintro e w2 ⟨v, rfl, hO, h2⟩
    obtain ⟨A, c, rfl, R2⟩ := hO.rb
    have B2 := B1.below h2 B1.lt
    have R1 := RB.blk B2 B2.lt
    have c2 := h1.trans (h2.mono h1.size)
    have HC2 := Lib.hid c2
    have hlen := binL_len s s.size
    have hs1 : Calls Try.prog 9 #[.slice (some ⟨g1, 0, none⟩) s.size s.size, .slice A (binL s s.size).length c] w2 fun r w' => r = .returned (.bool true) ∧ Below w2.heap.size w2 w' := by
      have := same_true (ca := s.size) (cb := c) R1 R2 (by rw [hlen]; omega)
      rw [hlen] at this ⊢
      exact this
    have HS := Lib.hid hs1
    have HB2 := Lib.hid B2
    clear B1 hg1 h1 hO h2 R1 R2 c2 hs1 B2 hlen
    go_wp2_with fail
    refine HS.out.mono ?_; rintro e w3 ⟨rfl, h3⟩
    have B3 := HB2.out.below h3 HB2.out.lt
    have ht3 : Calls Try.prog 16 #[.slice (some ⟨g1, 0, none⟩) s.size s.size] w3 fun r w' => r = .returned (.string s) ∧ Below w3.heap.size w3 w' := by
      have := bits_Text (some ⟨g1, 0, none⟩) s.size (binL s s.size) w3 (RB.blk B3 B3.lt) (by rw [binL_len]; omega)
      rw [HT.out, binL_len] at this
      exact this
    have HT3 := Lib.hid ht3
    clear B3 ht3
    go_wp2_with fail
    refine HT3.out.mono ?_; rintro e w4 ⟨rfl, h4⟩
    go_wp2_with fail
    refine (lives_any _).mono ?_; rintro e w5 ⟨rfl, h5⟩
    go_wp2_with fail
    go_ret
    have c3 := HC2.out.trans (h3.mono HC2.out.size)
    have c4 := c3.trans (h4.mono c3.size)
    exact ⟨rfl, c4.trans (h5.mono c4.size)⟩
  · go_enter Try.func5, Try.ntmps5
    go_wp2_with fail
    refine (bits_Parse_bad _ _ (by omega) hbin).mono ?_; rintro e w1 ⟨rfl, h1⟩
    go_wp2_with fail
    refine (ref_Parse_bad _ _ (by omega) hbin).mono ?_; rintro e w2 ⟨rfl, h2⟩
    go_wp2_with fail
    refine (same_nil _).mono ?_; rintro e w3 ⟨rfl, h3⟩
    go_wp2_with fail
    refine (lives_any _).mono ?_; rintro e w4 ⟨rfl, h4⟩
    go_wp2_with fail
    go_ret
    have c2 := h1.trans (h2.mono h1.size)
    have c3 := c2.trans (h3.mono c2.size)
    exact ⟨rfl, c3.trans (h4.mono c3.size)⟩
end Go.Proofs.Yteoijhmaklocpaa
