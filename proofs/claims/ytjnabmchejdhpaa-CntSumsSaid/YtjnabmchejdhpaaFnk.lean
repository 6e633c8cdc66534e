/- Contracts of Parse of layer 4 (cnt) for any string, over the translation. -/
import Derived.Test.YtjnabmchejdhpaaFnj
namespace Go.Proofs.Ytjnabmchejdhpaa
open Go.RowKit Go.PlainAid

set_option maxHeartbeats 4000000 in
theorem cnt_Parse_long (s : ByteArray) (w : World) (hs : 2000 < s.size) :
    Calls Try.prog 25 #[.string s] w fun e w' => e = .returned (.tuple #[.slice none 0 0, .int .i64 4]) ∧ Below w.heap.size w w' := by
  have hs' : (2000 : Int) < (s.size : Int) := by omega
  go_enter Try.func25, Try.ntmps25
  go_wp2
  go_ret2
  exact ⟨rfl, Below.refl _ _⟩
set_option maxHeartbeats 4000000 in
theorem cnt_Parse_zero (s : ByteArray) (w : World) (hs : s.size ≤ 2000) (hz : s.size = 0 ∨ (bt s 0 = 48 ∧ s.size ≠ 1)) :
    Calls Try.prog 25 #[.string s] w fun e w' => e = .returned (.tuple #[.slice none 0 0, .int .i64 3]) ∧ Below w.heap.size w w' := by
  have hs' : ¬ (2000 : Int) < (s.size : Int) := by omega
  rcases Nat.eq_zero_or_pos s.size with h0 | h0
  · have hl : s.toList = [] := List.eq_nil_of_length_eq_zero (by rw [size_len]; exact h0)
    have hl2 : s.toList.isEmpty = true := by rw [hl]; rfl
    go_enter Try.func25, Try.ntmps25
    go_wp2
    go_ret2
    exact ⟨rfl, Below.refl _ _⟩
  · have hz2 : bt s 0 = 48 ∧ s.size ≠ 1 := by
      rcases hz with h | h
      · omega
      · exact h
    have hb := get_bt s
    have hne1 : ¬ s.toList = [] := fun e => by have := size_len s; rw [e] at this; simp at this; omega
    have hne2 : s.toList.isEmpty = false := by
      cases h : s.toList with
      | nil => exact absurd h hne1
      | cons _ _ => rfl
    have hzb : (bt s 0 == 48) = true := by simp [hz2.1]
    have hzt : (s.toList == [48]) = false := by
      apply Bool.eq_false_iff.2; intro h2; exact hz2.2 ((is_zero s).1 (by simpa using h2)).1
    clear hz hz2
    go_enter Try.func25, Try.ntmps25
    go_wp2
    go_ret2
    exact ⟨rfl, Below.refl _ _⟩
def ParN (s : ByteArray) (w : World) (e : Ending) (w' : World) : Prop :=
  (DigTo s s.size ∧ ∃ v, e = .returned (.tuple #[v, .int .i64 0]) ∧ Res w w' (valB s s.size) s.size (.returned v)) ∨
  (¬ DigTo s s.size ∧ e = .returned (.tuple #[.slice none 0 0, .int .i64 3]) ∧ Below w.heap.size w w')
set_option maxHeartbeats 8000000 in
theorem cnt_Parse_some (s : ByteArray) (w : World) (hs : s.size ≤ 2000) (h0 : 0 < s.size) (hz0 : bt s 0 = 48 → s.size = 1) :
    Calls Try.prog 25 #[.string s] w fun e w' => ParN s w e w' := by
  by_cases hdec : DigTo s s.size
  · refine (cnt_Parse_ok s w hs ⟨hdec, h0, hz0⟩).mono ?_
    rintro e w' h
    exact .inl ⟨hdec, h⟩
  have HND := Lib.hid hdec
  clear hdec
  have hb := get_bt s
  have hs' : ¬ (2000 : Int) < (s.size : Int) := by omega
  have hne1 : ¬ s.toList = [] := fun e => by have := size_len s; rw [e] at this; simp at this; omega
  have hne2 : s.toList.isEmpty = false := by
    cases h : s.toList with
    | nil => exact absurd h hne1
    | cons _ _ => rfl
  obtain ⟨z, hz, ht⟩ : ∃ z : Bool, (bt s 0 == 48) = z ∧ (s.toList == [48]) = z := by
    by_cases h : bt s 0 = 48
    · exact ⟨true, by simp [h], by rw [(is_zero s).2 ⟨hz0 h, h⟩]; rfl⟩
    · refine ⟨false, by simp [h], ?_⟩
      apply Bool.eq_false_iff.2; intro h2; exact h ((is_zero s).1 (by simpa using h2)).2
  clear hz0
  rcases z with _ | _
  all_goals
    go_enter Try.func25, Try.ntmps25
    go_wp2
    go_loopw [2, 3, 21] (fun v r3 i wr => ∃ (k : Nat) (t : List Int), r3 = .int .i64 0 ∧ k ≤ s.size ∧ i = .int .i64 (k : Int) ∧ t.length ≤ k ∧ Hid (Own wr w.heap.size v t ∧ Dig t ∧ DigTo s k) ∧ Below w.heap.size w wr) (fun _ _ i _ => s.size - (intOf i).toNat)
    case atStart => exact ⟨0, [], rfl, Nat.zero_le _, rfl, by simp, Lib.hid ⟨Own.nil _ _, Dig.nil, DigTo.zero _⟩, Below.refl _ _⟩
    case round =>
      obtain ⟨k, t, rfl, hk, rfl, htl, HT, hbw⟩ := hrel
      obtain ⟨A, c, rfl, _⟩ := HT.out.1.len_cap
      have hlt : k < s.size := by
        rcases Nat.lt_or_ge k s.size with h | h
        · exact h
        · have e : k = s.size := by omega
          exact absurd (by have h := HT.out.2.2; rw [e] at h; exact h) HND.out
      have hlt' : (k : Int) < (s.size : Int) := by omega
      by_cases hd : 48 ≤ bt s k ∧ bt s k ≤ 57
      · obtain ⟨hd1, hd2⟩ := hd
        have h48 : ¬ bt s k < 48 := by omega
        have h57 : ¬ 57 < bt s k := by omega
        have HC := Lib.hid (cnt_scale w.heap.size (.slice A t.length c) t 10 (bt s k - 48) wr HT.out.1 hbw.size HT.out.2.1 (by omega) (by omega) (by omega) (by omega) (by omega))
        have HDT := Lib.hid (HT.out.2.2.succ hd1 hd2)
        go_wp2_with (go_at_call 41; refine HC.out.mono ?_; rintro e w2 ⟨v', s', rfl, hO2, hD2, hv2, hl2, hb2⟩; have HO2 := Lib.hid hO2; have HD2 := Lib.hid hD2; clear hO2 hD2 hv2)
        go_roundw
        case rel => exact ⟨k + 1, s', rfl, by omega, by go_num, by omega, Lib.hid ⟨HO2.out, HD2.out, HDT.out⟩, hbw.trans hb2⟩
        case measure => simp [intOf]; omega
      · by_cases h48 : bt s k < 48
        · clear hd
          go_wp2
          go_ret2
          exact .inr ⟨HND.out, rfl, hbw⟩
        · have h57 : 57 < bt s k := by omega
          clear hd
          go_wp2
          go_ret2
          exact .inr ⟨HND.out, rfl, hbw⟩
end Go.Proofs.Ytjnabmchejdhpaa
