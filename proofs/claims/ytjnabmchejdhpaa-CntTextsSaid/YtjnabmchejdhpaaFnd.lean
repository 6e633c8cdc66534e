/- Contract of Parse of layer 4 (cnt) for strings that are numbers, over the translation. -/
import Derived.Test.YtjnabmchejdhpaaFnc
import Derived.Test.YtjnabmchejdhpaaCdec
namespace Go.Proofs.Ytjnabmchejdhpaa
open Go.RowKit Go.PlainAid

theorem is_zero (s : ByteArray) : (s.toList = [48]) ↔ (s.size = 1 ∧ bt s 0 = 48) := by
  rw [ByteArray.toList_eq]
  have bt0 : ∀ h : 0 < s.size, bt s 0 = ((s[0]'h).toNat : Int) := fun h => by unfold bt; rw [dif_pos h]
  obtain ⟨⟨l⟩⟩ := s
  rcases l with _ | ⟨a, _ | ⟨b, l⟩⟩
  · constructor
    · intro h; cases h
    · rintro ⟨h, _⟩; cases h
  · have h1 : (⟨⟨[a]⟩⟩ : ByteArray).size = 1 := rfl
    have h2 := bt0 (by rw [h1]; omega)
    have h3 : ((⟨⟨[a]⟩⟩ : ByteArray)[0]'(by rw [h1]; omega)) = a := rfl
    rw [h3] at h2
    rw [h2]
    constructor
    · intro h; injection h with h _; subst h; exact ⟨rfl, rfl⟩
    · rintro ⟨_, h⟩
      have : a = 48 := by apply UInt8.toNat_inj.1; show a.toNat = 48; omega
      rw [this]
  · constructor
    · intro h; injection h with _ h; cases h
    · rintro ⟨h, _⟩
      have : (⟨⟨a :: b :: l⟩⟩ : ByteArray).size = l.length + 2 := rfl
      omega

theorem size_len (s : ByteArray) : s.toList.length = s.size := by rw [ByteArray.toList_eq]; rfl
set_option maxHeartbeats 4000000 in
theorem cnt_Parse_ok (s : ByteArray) (w : World) (hs : s.size ≤ 2000) (hd : Dec s) :
    Calls Try.prog 25 #[.string s] w fun e w' => ∃ v, e = .returned (.tuple #[v, .int .i64 0]) ∧ Res w w' (valB s s.size) s.size (.returned v) := by
  have hb := get_bt s
  have HD := Lib.hid hd
  have h0 : 0 < s.size := hd.2.1
  have hs' : ¬ (2000 : Int) < (s.size : Int) := by omega
  have hne1 : ¬ s.toList = [] := fun e => by have := size_len s; rw [e] at this; simp at this; omega
  have hne2 : s.toList.isEmpty = false := by
    cases h : s.toList with
    | nil => exact absurd h hne1
    | cons _ _ => rfl
  obtain ⟨z, hz, ht⟩ : ∃ z : Bool, (bt s 0 == 48) = z ∧ (s.toList == [48]) = z := by
    by_cases h : bt s 0 = 48
    · exact ⟨true, by simp [h], by rw [(is_zero s).2 ⟨hd.2.2 h, h⟩]; rfl⟩
    · refine ⟨false, by simp [h], ?_⟩
      apply Bool.eq_false_iff.2; intro h2; exact h ((is_zero s).1 (by simpa using h2)).2
  clear hd
  rcases z with _ | _
  all_goals
    go_enter Try.func25, Try.ntmps25
    go_wp2
    go_loopw [2, 21] (fun v i wr => ∃ (k : Nat) (t : List Int), k ≤ s.size ∧ i = .int .i64 (k : Int) ∧ t.length ≤ k ∧ Hid (Own wr w.heap.size v t ∧ Dig t ∧ val t = valB s k) ∧ Below w.heap.size w wr) (fun _ i _ => s.size - (intOf i).toNat)
    case atStart => exact ⟨0, [], Nat.zero_le _, rfl, by simp, Lib.hid ⟨Own.nil _ _, Dig.nil, rfl⟩, Below.refl _ _⟩
    case round =>
      obtain ⟨k, t, hk, rfl, htl, HT, hbw⟩ := hrel
      obtain ⟨A, c, rfl, _⟩ := HT.out.1.len_cap
      by_cases hlt : k < s.size
      · have hlt' : (k : Int) < (s.size : Int) := by omega
        have hdk := HD.out.1 k hlt
        have h48 : ¬ bt s k < 48 := by omega
        have h57 : ¬ 57 < bt s k := by omega
        have HC := Lib.hid (cnt_scale w.heap.size (.slice A t.length c) t 10 (bt s k - 48) wr HT.out.1 hbw.size HT.out.2.1 (by omega) (by omega) (by omega) (by omega) (by omega))
        go_wp2_with (go_at_call 41; refine HC.out.mono ?_; rintro e w2 ⟨v', s', rfl, hO2, hD2, hv2, hl2, hb2⟩; have HO2 := Lib.hid hO2; have HD2 := Lib.hid hD2; have HV2 := Lib.hid hv2; clear hO2 hD2 hv2)
        go_roundw
        case rel => exact ⟨k + 1, s', by omega, by go_num, by omega, Lib.hid ⟨HO2.out, HD2.out, by rw [HV2.out, HT.out.2.2]; rfl⟩, hbw.trans hb2⟩
        case measure => simp [intOf]; omega
      · obtain rfl : k = s.size := by omega
        have HC3 := Lib.hid (trim_res HT.out.1 HT.out.2.1 HT.out.2.2 htl (by omega) hbw)
        go_wp2_with (go_at_call 36; refine HC3.out.mono ?_; rintro e w2 ⟨v', s', rfl, hR⟩; have HR := Lib.hid hR; clear hR)
        go_ret2
        exact ⟨v', rfl, v', s', rfl, HR.out⟩
end Go.Proofs.Ytjnabmchejdhpaa
