/- Contracts of skip and of the specification's starts and Blank of layer 29 (lexi), over the translation. -/
import Derived.Test.YtnmofkngengoeaaDoorFn2
import Derived.WalkMore
import Derived.ScopeJumps
namespace Go.Proofs.YtnmofkngengoeaaDoor
open Go.RowKit Go.PlainAid

theorem cut_size {s : ByteArray} {j : Nat} : (s.extract j s.size).size = s.size - j := by rw [ByteArray.size_extract]; omega
theorem lx_span_at (p : Int → Bool) (f : Nat) (s : ByteArray) (j m : Nat) (w : World) (hs : s.size ≤ 9223372036854775800) (hj : j ≤ s.size) (hm : span p s j = m) (hf4 : f = 39 ∨ f = 41 ∨ f = 24 ∨ f = 37)
    (hf : ∀ c w, Calls Tryd.prog f #[.int .u8 c] w fun e w' => e = .returned (.bool (p c)) ∧ w = w') :
    Calls Tryd.prog 36 #[.string (s.extract j s.size), .func (.func f) #[] #[]] w fun e w' => e = .returned (.int .i64 ((m : Int) - (j : Int))) ∧ w = w' := by
  have h := lx_span p f (s.extract j s.size) w (by rw [cut_size]; omega) hf4 hf
  have h2 := span_cut (p := p) hj 0 (by omega)
  rw [Nat.add_zero, hm] at h2
  have e : ((span p (s.extract j s.size) 0 : Nat) : Int) = (m : Int) - (j : Int) := by omega
  rw [e] at h
  exact h
theorem span_at {p : Int → Bool} {s : ByteArray} : ∀ n i, i + n = s.size → span p s i < s.size → p (bt s (span p s i)) = false := by
  intro n
  induction n with
  | zero => intro i h hl; rw [span_end (by omega)] at hl; omega
  | succ n ih =>
    intro i h hl
    cases hp : p (bt s i) with
    | true =>
      rw [span_step (by omega) hp] at hl ⊢
      exact ih (i + 1) (by omega) hl
    | false => rw [span_stop hp]; exact hp
set_option maxRecDepth 1000000 in
set_option maxHeartbeats 2000000 in
theorem lx_skip (s : ByteArray) (i : Nat) (w : World) (hs : s.size ≤ 9223372036854775800) (hi : i ≤ s.size) :
    Calls Tryd.prog 23 #[.string s, .int .i64 (i : Int)] w fun e w' => e = .returned (.int .i64 (blankS s i : Nat)) ∧ w = w' := by
  obtain ⟨m, hm⟩ : ∃ m, blankS s i = m := ⟨_, rfl⟩
  rw [hm]
  have HM := Lib.hid hm
  have HB := Lib.hid (fun (j j1 : Nat) (h : j ≤ s.size) (e : span blkQ s j = j1) => lx_span_at blkQ 39 s j j1 w hs h e (.inl rfl) lx_isBlank)
  have HR := Lib.hid (fun (j j1 : Nat) (h : j ≤ s.size) (e : span rmkQ s j = j1) => lx_span_at rmkQ 41 s j j1 w hs h e (.inr (.inl rfl)) lx_isRemark)
  have HP : Hid (∀ j b, j ≤ s.size → ddQ s j = b → Calls Tryd.prog 40 #[.string (s.extract j s.size), .string ⟨#[45, 45]⟩] w fun e w' => e = .returned (.bool b) ∧ w = w') := Lib.hid (fun j b h e => by
    have := lx_Prefix (s.extract j s.size) ⟨#[45, 45]⟩ w
    rw [show startsB (s.extract j s.size) ⟨#[45, 45]⟩ = b from (starts_dd h).trans e] at this
    exact this)
  clear hm
  go_enter Tryd.func23, Tryd.ntmps23
  go_wp2
  refine wp_scope_jumps 0 (fun a' w' => w = w' ∧ ∃ (j : Nat) (u5 u6 u7 u8 u9 u10 u11 u12 u13 u14 u15 u16 u17 u18 u19 u20 u21 : Value), a' = { tmps := #[.string s, .int .i64 (j : Int), undef, undef, .int .i64 0, u5, u6, u7, u8, u9, u10, u11, u12, u13, u14, u15, u16, u17, u18, u19, u20, u21], defers := [] } ∧ j ≤ s.size ∧ Hid (blankS s j = m)) (fun a' _ => s.size - (intOf (a'.tmps.getD 1 undef)).toNat) rfl ?_ ?_
  · have hj := hi
    have HJ := HM
    obtain ⟨j1, hj1⟩ : ∃ j1, span blkQ s i = j1 := ⟨_, rfl⟩
    obtain ⟨b, hb⟩ : ∃ b, ddQ s j1 = b := ⟨_, rfl⟩
    have h1 : i ≤ j1 := by rw [← hj1]; exact span_ge _ _ _
    have h2 : j1 ≤ s.size := by rw [← hj1]; exact span_le hj
    have HS : Hid (blankS s j1 = m) := Lib.hid (by rw [← hj1, ← blank_span (s.size - i) i (by omega)]; exact HJ.out)
    have HC1 := Lib.hid (HB.out i j1 hj hj1)
    have HC3 := Lib.hid (HP.out j1 b h2 hb)
    obtain ⟨j2, hj2⟩ : ∃ j2, span rmkQ s j1 = j2 := ⟨_, rfl⟩
    have HC2 := Lib.hid (HR.out j1 j2 h2 hj2)
    have h3 : j2 ≤ s.size := by rw [← hj2]; exact span_le h2
    cases b
    · have HX : Hid (j1 = m) := Lib.hid (by
        rw [← HS.out]
        rcases Nat.lt_or_ge j1 s.size with c | c
        · exact (blank_stop hb (by have := span_at (p := blkQ) (s := s) (s.size - i) i (by omega) (by rw [hj1]; exact c); rwa [hj1] at this)).symm
        · exact (blank_end c).symm)
      clear hj1 hb hj2
      go_wp2
      go_step3
      go_wp2_with (first | (go_at_call 36; with_reducible refine HC1.out.mono ?_; rintro e w1 ⟨rfl, rfl⟩) | (go_at_call 40; with_reducible refine HC3.out.mono ?_; rintro e w1 ⟨rfl, rfl⟩))
      have e1 : (i : Int) + ((j1 : Int) - (i : Int)) = (m : Int) := by rw [← HX.out]; omega
      simp only [Exit.jump]
      go_ret
      exact ⟨by first | rfl | (rw [← e1]; rfl) | simp [e1], rfl⟩
    · have HX : Hid (blankS s j2 = m) := Lib.hid (by rw [← hj2, ← blank_rem hb]; exact HS.out)
      have h4 : j1 < j2 := by rw [← hj2]; exact (rmk_gt hb).1
      clear hj1 hb hj2
      go_wp2
      go_step3
      go_wp2_with (first | (go_at_call 36; first | (with_reducible refine HC1.out.mono ?_; rintro e w1 ⟨rfl, rfl⟩) | (with_reducible refine HC2.out.mono ?_; rintro e w1 ⟨rfl, rfl⟩)) | (go_at_call 40; with_reducible refine HC3.out.mono ?_; rintro e w1 ⟨rfl, rfl⟩))
      have e1 : (i : Int) + ((j1 : Int) - (i : Int)) + ((j2 : Int) - (j1 : Int)) = (j2 : Int) := by omega
      go_step3
      rw [e1]
      refine ⟨rfl, rfl, j2, _, _, _, _, _, _, _, _, _, _, _, _, _, _, _, _, _, rfl, h3, HX⟩
  · rintro a' w' ⟨rfl, j, u5, u6, u7, u8, u9, u10, u11, u12, u13, u14, u15, u16, u17, u18, u19, u20, u21, rfl, hj, HJ⟩
    obtain ⟨j1, hj1⟩ : ∃ j1, span blkQ s j = j1 := ⟨_, rfl⟩
    obtain ⟨b, hb⟩ : ∃ b, ddQ s j1 = b := ⟨_, rfl⟩
    have h1 : j ≤ j1 := by rw [← hj1]; exact span_ge _ _ _
    have h2 : j1 ≤ s.size := by rw [← hj1]; exact span_le hj
    have HS : Hid (blankS s j1 = m) := Lib.hid (by rw [← hj1, ← blank_span (s.size - j) j (by omega)]; exact HJ.out)
    have HC1 := Lib.hid (HB.out j j1 hj hj1)
    have HC3 := Lib.hid (HP.out j1 b h2 hb)
    obtain ⟨j2, hj2⟩ : ∃ j2, span rmkQ s j1 = j2 := ⟨_, rfl⟩
    have HC2 := Lib.hid (HR.out j1 j2 h2 hj2)
    have h3 : j2 ≤ s.size := by rw [← hj2]; exact span_le h2
    cases b
    · have HX : Hid (j1 = m) := Lib.hid (by
        rw [← HS.out]
        rcases Nat.lt_or_ge j1 s.size with c | c
        · exact (blank_stop hb (by have := span_at (p := blkQ) (s := s) (s.size - j) j (by omega) (by rw [hj1]; exact c); rwa [hj1] at this)).symm
        · exact (blank_end c).symm)
      clear hj1 hb hj2
      skip
      skip
      go_wp2_with (first | (go_at_call 36; with_reducible refine HC1.out.mono ?_; rintro e w1 ⟨rfl, rfl⟩) | (go_at_call 40; with_reducible refine HC3.out.mono ?_; rintro e w1 ⟨rfl, rfl⟩))
      have e1 : (j : Int) + ((j1 : Int) - (j : Int)) = (m : Int) := by rw [← HX.out]; omega
      simp only [Exit.jump]
      go_ret
      exact ⟨by first | rfl | (rw [← e1]; rfl) | simp [e1], rfl⟩
    · have HX : Hid (blankS s j2 = m) := Lib.hid (by rw [← hj2, ← blank_rem hb]; exact HS.out)
      have h4 : j1 < j2 := by rw [← hj2]; exact (rmk_gt hb).1
      clear hj1 hb hj2
      skip
      skip
      go_wp2_with (first | (go_at_call 36; first | (with_reducible refine HC1.out.mono ?_; rintro e w1 ⟨rfl, rfl⟩) | (with_reducible refine HC2.out.mono ?_; rintro e w1 ⟨rfl, rfl⟩)) | (go_at_call 40; with_reducible refine HC3.out.mono ?_; rintro e w1 ⟨rfl, rfl⟩))
      have e1 : (j : Int) + ((j1 : Int) - (j : Int)) + ((j2 : Int) - (j1 : Int)) = (j2 : Int) := by omega
      go_step3
      rw [e1]
      refine ⟨rfl, ⟨rfl, j2, _, _, _, _, _, _, _, _, _, _, _, _, _, _, _, _, _, rfl, h3, HX⟩, ?_⟩
      simp [intOf]
      omega
end Go.Proofs.YtnmofkngengoeaaDoor
