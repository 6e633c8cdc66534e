/- The contract of the specification's Parse of a number; layer 28 (events). -/
import Derived.Test.YtfppplalgdopjaaDoorN8
namespace Go.Proofs.YtfppplalgdopjaaDoor
open Go.RowKit Go.PlainAid

theorem text_size (n : Int) (n1 : -9223372036854775808 ≤ n) (n2 : n ≤ 9223372036854775807) : (strOfNums (textF n)).size ≤ 9223372036854775807 := by
  rw [strOfNums_size]
  have := digs_len n.natAbs 19 (by omega) (by omega)
  unfold textF
  split <;> simp <;> omega
theorem bt_extract (s : ByteArray) (i : Nat) (h : i + 1 < s.size) : bt (s.extract 1 s.size) i = bt s (i + 1) := by
  have hz : (s.extract 1 s.size).size = s.size - 1 := by rw [ByteArray.size_extract]; omega
  rw [bt_ints _ _ (by omega), bt_ints _ _ h, ints_extract]
  simp [List.getD, List.getElem?_tail]

theorem ref_Parse_no (s : ByteArray) (l m : Int) (w : World) (hs : s.size ≤ 9223372036854775807) (hf : ¬ formF s) :
    Calls Tryd.prog 46 #[.string s, .int .i64 l, .int .i64 m] w fun r w' => r = .returned (.tuple #[.int .i64 (parseF s l m).1, .int .i64 (parseF s l m).2]) ∧ Below w.heap.size w w' := by
  have hF := parse_no (l := l) (m := m) hf
  have hn := form_not hf
  have HF := Lib.hid hF
  clear hF hf
  go_enter Tryd.func46, Tryd.ntmps46
  go_wp2_with (first
    | (go_at_call 56; refine (ref_Form _ _ (by assumption)).mono ?_; rintro e w' ⟨rfl, rfl⟩))
  go_ret2
  exact ⟨by rw [HF.out]; rfl, Below.refl _ _⟩

set_option maxHeartbeats 1000000 in
theorem ref_Parse_out (s : ByteArray) (l m : Int) (w : World) (hs : s.size ≤ 9223372036854775807) (l1 : -9223372036854775808 ≤ l) (l2 : l ≤ 9223372036854775807) (m1 : -9223372036854775808 ≤ m) (m2 : m ≤ 9223372036854775807)
    (hf : formF s) (ho : ¬ (l ≤ valS s ∧ valS s ≤ m)) :
    Calls Tryd.prog 46 #[.string s, .int .i64 l, .int .i64 m] w fun r w' => r = .returned (.tuple #[.int .i64 (parseF s l m).1, .int .i64 (parseF s l m).2]) ∧ Below w.heap.size w w' := by
  have hF := parse_out hf ho
  have hn := form_yes hf
  have HF := Lib.hid hF
  have tl := (form_text l).1
  have tm := (form_text m).1
  have vl := (form_text l).2
  have vm := (form_text m).2
  have zl := text_size l l1 l2
  have zm := text_size m m1 m2
  by_cases c : valS s < l
  · clear hF ho tm vm zm
    go_enter Tryd.func46, Tryd.ntmps46
    go_wp2_with (first
      | (go_at_call 56; refine (ref_Form _ _ (by assumption)).mono ?_; rintro e w' ⟨rfl, rfl⟩)
      | (go_at_call 23; refine (ref_Text _ _ (by omega) (by omega)).mono ?_; rintro e w1 ⟨rfl, hb1⟩)
      | (go_at_call 57; refine (ref_Less _ _ _ (by assumption) (by assumption) (by assumption) (by assumption)).mono ?_; rintro e w' ⟨rfl, n, rfl⟩))
    go_ret2
    exact ⟨by rw [HF.out]; rfl, below_drewN hb1 _⟩
  · have c2 : m < valS s := by omega
    clear hF ho
    go_enter Tryd.func46, Tryd.ntmps46
    go_wp2_with fail
    refine (ref_Form _ _ (by assumption)).mono ?_; rintro e w' ⟨rfl, rfl⟩
    go_wp2_with fail
    refine (ref_Text _ _ (by omega) (by omega)).mono ?_; rintro e w1 ⟨rfl, hb1⟩
    go_wp2_with fail
    refine (ref_Less _ _ _ (by assumption) (by assumption) (by assumption) (by assumption)).mono ?_; rintro e w' ⟨rfl, n, rfl⟩
    go_wp2_with fail
    refine (ref_Text _ _ (by omega) (by omega)).mono ?_; rintro e w2 ⟨rfl, hb2⟩
    go_wp2_with fail
    refine (ref_Less _ _ _ (by assumption) (by assumption) (by assumption) (by assumption)).mono ?_; rintro e w' ⟨rfl, n2, rfl⟩
    go_wp2_with fail
    go_ret2
    exact ⟨by rw [HF.out]; rfl, (below_drewN hb1 _).trans (below_drewN (hb2.mono (by have := hb1.size; simp; omega)) _)⟩
end Go.Proofs.YtfppplalgdopjaaDoor
