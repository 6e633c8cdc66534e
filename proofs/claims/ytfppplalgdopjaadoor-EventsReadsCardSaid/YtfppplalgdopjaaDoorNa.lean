/- The contract of the specification's Parse of a number, second part; layer 28 (events). -/
import Derived.Test.YtfppplalgdopjaaDoorN9
namespace Go.Proofs.YtfppplalgdopjaaDoor
open Go.RowKit Go.PlainAid

set_option maxHeartbeats 1000000 in
theorem ref_Parse_in (s : ByteArray) (l m : Int) (w : World) (hs : s.size ≤ 9223372036854775807) (l1 : -9223372036854775808 ≤ l) (l2 : l ≤ 9223372036854775807) (m1 : -9223372036854775808 ≤ m) (m2 : m ≤ 9223372036854775807)
    (hf : formF s) (ho1 : l ≤ valS s) (ho2 : valS s ≤ m) :
    Calls Tryd.prog 46 #[.string s, .int .i64 l, .int .i64 m] w fun r w' => r = .returned (.tuple #[.int .i64 (parseF s l m).1, .int .i64 (parseF s l m).2]) ∧ Below w.heap.size w w' := by
  have hF := parse_in hf ⟨ho1, ho2⟩
  have hn := form_yes hf
  have HF := Lib.hid hF
  have tl := (form_text l).1
  have tm := (form_text m).1
  have vl := (form_text l).2
  have vm := (form_text m).2
  have zl := text_size l l1 l2
  have zm := text_size m m1 m2
  have c1 : ¬ valS s < l := by omega
  have c2 : ¬ m < valS s := by omega
  have hb := get_bt s
  by_cases hN : Neg s
  · have hv : valS s = - valB (s.extract 1 s.size) (s.extract 1 s.size).size := by unfold valS; rw [if_pos hN]
    have hD : Dec (s.extract 1 s.size) := by
      rcases hf with ⟨_, h, _⟩ | ⟨h, _⟩
      · exact h
      · exact absurd hN h
    have hsz : (s.extract 1 s.size).size = s.size - 1 := by rw [ByteArray.size_extract]; omega
    have hbt : ∀ i, i + 1 < s.size → bt s (i + 1) = bt (s.extract 1 s.size) i := fun i h => (bt_extract s i h).symm
    obtain ⟨N1, N2⟩ := hN
    have N3 : (bt s 0 == 45) = true := by simp [N2]
    generalize s.extract 1 s.size = T at *
    have HV := Lib.hid hv
    have HD := Lib.hid hD
    have HB := Lib.hid hbt
    have HS := Lib.hid hsz
    clear hF hv hD hbt hsz
    go_enter Tryd.func46, Tryd.ntmps46
    go_wp2_with fail
    refine (ref_Form _ _ (by assumption)).mono ?_; rintro e w' ⟨rfl, rfl⟩
    go_wp2_with fail
    refine (ref_Text _ _ (by omega) (by omega)).mono ?_; rintro e w1 ⟨rfl, hb1⟩
    go_wp2_with fail
    refine (ref_Less _ _ _ (by assumption) (by assumption) (by assumption) (by assumption)).mono ?_; rintro e w' ⟨rfl, q1, rfl⟩
    go_wp2_with fail
    refine (ref_Text _ _ (by omega) (by omega)).mono ?_; rintro e w2 ⟨rfl, hb2⟩
    go_wp2_with fail
    refine (ref_Less _ _ _ (by assumption) (by assumption) (by assumption) (by assumption)).mono ?_; rintro e w' ⟨rfl, q2, rfl⟩
    go_wp2_with fail
    have hbw : Below w.heap.size w (w2.drewN q2) := (below_drewN hb1 _).trans (below_drewN (hb2.mono (by have := hb1.size; simp; omega)) _)
    have HBW := Lib.hid hbw
    clear hbw hb1 hb2 tl tm vl vm zl zm hn c1 c2 hf
    go_loop [8, 9] (fun a i => ∃ (k : Nat) (x : Int), k ≤ s.size ∧ ((k = 0 ∧ x = 0) ∨ (0 < k ∧ x = -valB T (k - 1))) ∧ a = .int .i64 x ∧ i = .int .i64 k) (fun _ i => s.size - (intOf i).toNat)
    case atStart => exact ⟨0, 0, Nat.zero_le _, .inl ⟨rfl, rfl⟩, rfl, rfl⟩
    case round =>
      obtain ⟨k, x, hk, hx, rfl, rfl⟩ := hrel
      have HX := Lib.hid hx
      clear hx
      by_cases hlt : k < s.size
      · by_cases h0 : k = 0
        · subst h0
          have hx0 : x = 0 := by rcases HX.out with ⟨_, h⟩ | ⟨h, _⟩; exact h; omega
          subst hx0
          go_wp2
          go_round
          case rel => exact ⟨1, 0, by omega, .inr ⟨by omega, rfl⟩, rfl, rfl⟩
          case measure => simp [intOf]; omega
        · obtain ⟨j, rfl⟩ : ∃ j, k = j + 1 := ⟨k - 1, by omega⟩
          have hxj : x = -valB T j := by rcases HX.out with ⟨h, _⟩ | ⟨_, h⟩; omega; simpa using h
          have hd := HD.out.1 j (by rw [HS.out]; omega)
          have hbj := HB.out j (by omega)
          have hmono := valB_mono (j := j + 1) (k := T.size) HD.out.1 (by rw [HS.out]; omega)
          have hnn := valB_nonneg (s := T) (k := j) (fun i hi => HD.out.1 i (by rw [HS.out]; omega))
          have hst : valB T (j + 1) = valB T j * 10 + (bt T j - 48) := rfl
          have hvv := HV.out
          have hd1 : 48 ≤ bt s (j + 1) := by omega
          have hd2 : bt s (j + 1) ≤ 57 := by omega
          have hn45 : (bt s (j + 1) == 45) = false := by simp; omega
          have hr1 : -9223372036854775808 ≤ 10 * x - (bt s (j + 1) - 48) := by omega
          have hr2 : x ≤ 0 := by omega
          have HN : Hid (10 * x - (bt s (j + 1) - 48) = -valB T (j + 1)) := by show _ = _; omega
          have hjk : (((j + 1 : Nat) : Int)) = (j : Int) + 1 := by omega
          rw [hjk]
          clear hxj hd hbj hmono hnn hst hvv hjk
          go_wp2
          go_round
          case rel => exact ⟨j + 2, _, by omega, .inr ⟨by omega, HN.out⟩, rfl, by go_num⟩
          case measure => simp [intOf]; omega
      · obtain rfl : k = s.size := by omega
        have hx1 : x = valS s := by
          rcases HX.out with ⟨h, _⟩ | ⟨_, h⟩
          · omega
          · rw [h, HV.out, HS.out]
        subst hx1
        go_wp2
        go_ret2
        exact ⟨by rw [HF.out]; rfl, HBW.out⟩
  · have hv : valS s = valB s s.size := by unfold valS; rw [if_neg hN]
    have hD : Dec s := by
      rcases hf with ⟨h, _, _⟩ | ⟨_, h⟩
      · exact absurd h hN
      · exact h
    have N1 := hD.2.1
    have N3 : (bt s 0 == 45) = false := by simp; intro h; exact hN ⟨N1, h⟩
    have HV := Lib.hid hv
    have HD := Lib.hid hD
    clear hF hv hD hN
    go_enter Tryd.func46, Tryd.ntmps46
    go_wp2_with fail
    refine (ref_Form _ _ (by assumption)).mono ?_; rintro e w' ⟨rfl, rfl⟩
    go_wp2_with fail
    refine (ref_Text _ _ (by omega) (by omega)).mono ?_; rintro e w1 ⟨rfl, hb1⟩
    go_wp2_with fail
    refine (ref_Less _ _ _ (by assumption) (by assumption) (by assumption) (by assumption)).mono ?_; rintro e w' ⟨rfl, q1, rfl⟩
    go_wp2_with fail
    refine (ref_Text _ _ (by omega) (by omega)).mono ?_; rintro e w2 ⟨rfl, hb2⟩
    go_wp2_with fail
    refine (ref_Less _ _ _ (by assumption) (by assumption) (by assumption) (by assumption)).mono ?_; rintro e w' ⟨rfl, q2, rfl⟩
    go_wp2_with fail
    have hbw : Below w.heap.size w (w2.drewN q2) := (below_drewN hb1 _).trans (below_drewN (hb2.mono (by have := hb1.size; simp; omega)) _)
    have HBW := Lib.hid hbw
    clear hbw hb1 hb2 tl tm vl vm zl zm hn c1 c2 hf
    go_loop [8, 9] (fun a i => ∃ (k : Nat), k ≤ s.size ∧ a = .int .i64 (valB s k) ∧ i = .int .i64 k) (fun _ i => s.size - (intOf i).toNat)
    case atStart => exact ⟨0, Nat.zero_le _, rfl, rfl⟩
    case round =>
      obtain ⟨k, hk, rfl, rfl⟩ := hrel
      by_cases hlt : k < s.size
      · have hd := HD.out.1 k hlt
        obtain ⟨hd1, hd2⟩ := hd
        have hmono := valB_mono (j := k + 1) (k := s.size) HD.out.1 (by omega)
        have hnn := valB_nonneg (s := s) (k := k) (fun i hi => HD.out.1 i (by omega))
        have hst : valB s (k + 1) = valB s k * 10 + (bt s k - 48) := rfl
        have hvv := HV.out
        have hn45 : (bt s k == 45) = false := by simp; omega
        have hr1 : 10 * valB s k + (bt s k - 48) ≤ 9223372036854775807 := by omega
        have HN : Hid (10 * valB s k + (bt s k - 48) = valB s (k + 1)) := by show _ = _; omega
        clear hmono hst hvv
        go_wp2
        go_round
        case rel => exact ⟨k + 1, by omega, by rw [← HN.out], by go_num⟩
        case measure => simp [intOf]; omega
      · obtain rfl : k = s.size := by omega
        have hvv := HV.out
        have HF2 : Hid (parseF s l m = (valB s s.size, 0)) := by show _ = _; rw [HF.out, hvv]
        clear hvv
        go_wp2
        go_ret2
        exact ⟨by rw [HF2.out]; rfl, HBW.out⟩

theorem ref_Parse (s : ByteArray) (l m : Int) (w : World) (hs : s.size ≤ 9223372036854775807) (l1 : -9223372036854775808 ≤ l) (l2 : l ≤ 9223372036854775807) (m1 : -9223372036854775808 ≤ m) (m2 : m ≤ 9223372036854775807) :
    Calls Tryd.prog 46 #[.string s, .int .i64 l, .int .i64 m] w fun r w' => r = .returned (.tuple #[.int .i64 (parseF s l m).1, .int .i64 (parseF s l m).2]) ∧ Below w.heap.size w w' := by
  by_cases hf : formF s
  · by_cases ho : l ≤ valS s ∧ valS s ≤ m
    · exact ref_Parse_in s l m w hs l1 l2 m1 m2 hf ho.1 ho.2
    · exact ref_Parse_out s l m w hs l1 l2 m1 m2 hf ho
  · exact ref_Parse_no s l m w hs hf

end Go.Proofs.YtfppplalgdopjaaDoor
