/- Contract of Move of the specification of layer 5 (perm), over the translation. -/
import Derived.Test.YthbcjjodinnnfaaFn11
namespace Go.Proofs.Ythbcjjodinnnfaa
open Go.RowKit

theorem moveF_out {l : List Int} {f t : Int} (h : ¬ ((0 ≤ f ∧ f < l.length) ∧ (0 ≤ t ∧ t < l.length))) : moveF l f t = l := by unfold moveF; rw [if_neg h]
theorem moveF_in {l : List Int} {f t : Nat} (hf : f < l.length) (ht : t < l.length) : moveF l (f : Int) (t : Int) = downL (upL l f (t - f)) f (f - t) := by
  unfold moveF; rw [if_pos (by omega)]
  have e1 : ((t : Int) - f).toNat = t - f := by omega
  have e2 : ((f : Int) - t).toNat = f - t := by omega
  rw [e1, e2]; rfl
theorem Own.less {w : World} {base b2 : Nat} {v : Value} {l : List Int} (h : Own w base v l) (hb : b2 ≤ base) : Own w b2 v l := by
  obtain ⟨h1, h2⟩ := h
  refine ⟨h1, ?_⟩
  rcases h2 with h2 | ⟨g, cap, cur, e, hg, r⟩
  · exact .inl h2
  · exact .inr ⟨g, cap, cur, e, by omega, r⟩

set_option maxHeartbeats 400000 in
theorem ref_Move_nil (f t : Int) (w : World) :
    Calls Try.prog 18 #[.slice none 0 0, .int .i64 f, .int .i64 t] w fun r w' => ∃ v, r = .returned v ∧ Own w' w.heap.size v [] ∧ Below w.heap.size w w' := by
  obtain ⟨i0, hi0, hz0, hz1, hz2⟩ := info_parts info3
  have hE := Lib.hid (Own.empty w)
  have hi := fun w => ref_is none 0 [] f w (by simp)
  have hF : decide (0 ≤ f ∧ f < (([] : List Int).length : Int)) = false := by simp
  rw [hF] at hi
  have HI := Lib.hid hi
  clear hi hF
  go_enter Try.func18, Try.ntmps18
  go_wp2_with (first
    | (at_builtin; refine wpList_append_own_none rfl _ _ 22 rfl w.heap.size 3 i0 1 Try.underlying22 hi0 _ _ _ rfl hE.out rfl ?_)
    | (go_at_call 26; refine (HI.out _).mono ?_; rintro e w' ⟨rfl, rfl⟩))
  go_ret
  exact ⟨_, rfl, hE.out, (Below.refl _ _).alloc (Nat.le_refl _) _⟩

set_option maxHeartbeats 400000 in
theorem ref_Move_out (ad : Addr) (ca : Nat) (l : List Int) (f t : Int) (w : World) (h : RI w w.heap.size (some ad) l) (hl : l.length ≤ 1000000) (hi : ¬ ((0 ≤ f ∧ f < l.length) ∧ (0 ≤ t ∧ t < l.length))) :
    Calls Try.prog 18 #[.slice (some ad) l.length ca, .int .i64 f, .int .i64 t] w fun r w' => ∃ v, r = .returned v ∧ Own w' w.heap.size v l ∧ Below w.heap.size w w' := by
  obtain ⟨i0, hi0, hz0, hz1, hz2⟩ := info_parts info3
  have hE := Lib.hid (Own.empty w)
  have H := Lib.hid h
  have hsrc : Hid (∀ j u, (l.map (Value.int .i64))[j]? = some u → (w.alloc (.cells #[] 3)).cell? (ad.add j) = some u) := fun j u hj => by
    obtain ⟨h1, h2⟩ := h.src j u hj
    rw [World.cell?_alloc_lt _ _ _ h2]; exact h1
  clear h
  by_cases hd : 0 ≤ f ∧ f < (l.length : Int)
  · have hF : decide (0 ≤ f ∧ f < (l.length : Int)) = true := by simp [hd]
    have hF2 : decide (0 ≤ t ∧ t < (l.length : Int)) = false := by simp; omega
    have HIF : Hid (∀ w, Calls Try.prog 26 #[.slice (some ad) l.length ca, .int .i64 f] w fun r w' => r = .returned (.bool true) ∧ w = w') := fun w => by have := ref_is (some ad) ca l f w (by omega); rw [hF] at this; exact this
    have HIT : Hid (∀ w, Calls Try.prog 26 #[.slice (some ad) l.length ca, .int .i64 t] w fun r w' => r = .returned (.bool false) ∧ w = w') := fun w => by have := ref_is (some ad) ca l t w (by omega); rw [hF2] at this; exact this
    clear hF hF2
    clear hi hd
    go_enter Try.func18, Try.ntmps18
    go_wp2_with (first
      | (at_builtin; refine wpList_append_own _ rfl _ _ 22 rfl w.heap.size 3 i0 _ 1 8 Try.underlying22 hi0 hz0 hz1 hz2 rfl (by decide) _ _ _ rfl hE.out ad l.length ca (l.map (Value.int .i64)) rfl (by simp) hsrc.out (by intro v hv; rw [List.mem_map] at hv; obtain ⟨_, _, rfl⟩ := hv; rfl) (by unfold maxLen; simp; omega) (by simp; omega) (by simp) ?_; intro v2 w1 hown hg1 _)
      | (go_at_call 26; first | (with_reducible refine (HIF.out _).mono ?_; rintro e w' ⟨rfl, rfl⟩) | (with_reducible refine (HIT.out _).mono ?_; rintro e w' ⟨rfl, rfl⟩)))
    go_ret
    have hO : Own w1 w.heap.size v2 l := by unfold Own; simpa using hown
    exact ⟨_, rfl, hO, growE hg1⟩
  · have hF : decide (0 ≤ f ∧ f < (l.length : Int)) = false := by simp; omega
    clear hi hd
    go_enter Try.func18, Try.ntmps18
    go_wp2_with (first
      | (at_builtin; refine wpList_append_own _ rfl _ _ 22 rfl w.heap.size 3 i0 _ 1 8 Try.underlying22 hi0 hz0 hz1 hz2 rfl (by decide) _ _ _ rfl hE.out ad l.length ca (l.map (Value.int .i64)) rfl (by simp) hsrc.out (by intro v hv; rw [List.mem_map] at hv; obtain ⟨_, _, rfl⟩ := hv; rfl) (by unfold maxLen; simp; omega) (by simp; omega) (by simp) ?_; intro v2 w1 hown hg1 _)
      | (go_at_call 26; refine (ref_is _ _ _ f _ (by omega)).mono ?_; rintro e w' ⟨rfl, rfl⟩; rw [hF]))
    go_ret
    have hO : Own w1 w.heap.size v2 l := by unfold Own; simpa using hown
    exact ⟨_, rfl, hO, growE hg1⟩

set_option maxHeartbeats 400000 in
theorem ref_Move_in (ad : Addr) (ca : Nat) (l : List Int) (f t : Nat) (w : World) (h : RI w w.heap.size (some ad) l) (hl : l.length ≤ 1000000) (hf : f < l.length) (ht : t < l.length) :
    Calls Try.prog 18 #[.slice (some ad) l.length ca, .int .i64 (f : Int), .int .i64 (t : Int)] w fun r w' => ∃ v, r = .returned v ∧ Own w' w.heap.size v (downL (upL l f (t - f)) f (f - t)) ∧ Below w.heap.size w w' := by
  obtain ⟨i0, hi0, hz0, hz1, hz2⟩ := info_parts info3
  have hE := Lib.hid (Own.empty w)
  have hsrc : Hid (∀ j u, (l.map (Value.int .i64))[j]? = some u → (w.alloc (.cells #[] 3)).cell? (ad.add j) = some u) := fun j u hj => by
    obtain ⟨h1, h2⟩ := h.src j u hj
    rw [World.cell?_alloc_lt _ _ _ h2]; exact h1
  clear h
  have hF : decide (0 ≤ (f : Int) ∧ (f : Int) < (l.length : Int)) = true := by simp; omega
  have hF2 : decide (0 ≤ (t : Int) ∧ (t : Int) < (l.length : Int)) = true := by simp; omega
  have HIF : Hid (∀ w, Calls Try.prog 26 #[.slice (some ad) l.length ca, .int .i64 (f : Int)] w fun r w' => r = .returned (.bool true) ∧ w = w') := fun w => by have := ref_is (some ad) ca l (f : Int) w (by omega); rw [hF] at this; exact this
  have HIT : Hid (∀ w, Calls Try.prog 26 #[.slice (some ad) l.length ca, .int .i64 (t : Int)] w fun r w' => r = .returned (.bool true) ∧ w = w') := fun w => by have := ref_is (some ad) ca l (t : Int) w (by omega); rw [hF2] at this; exact this
  clear hF hF2
  go_enter Try.func18, Try.ntmps18
  go_wp2_with (first
    | (at_builtin; refine wpList_append_own _ rfl _ _ 22 rfl w.heap.size 3 i0 _ 1 8 Try.underlying22 hi0 hz0 hz1 hz2 rfl (by decide) _ _ _ rfl hE.out ad l.length ca (l.map (Value.int .i64)) rfl (by simp) hsrc.out (by intro v hv; rw [List.mem_map] at hv; obtain ⟨_, _, rfl⟩ := hv; rfl) (by unfold maxLen; simp; omega) (by simp; omega) (by simp) ?_; intro v2 w1 hown hg1 _)
    | (go_at_call 26; first | (with_reducible refine (HIF.out _).mono ?_; rintro e w' ⟨rfl, rfl⟩) | (with_reducible refine (HIT.out _).mono ?_; rintro e w' ⟨rfl, rfl⟩)))
  have hO0 : Own w1 w.heap.size v2 l := by unfold Own; simpa using hown
  have hbw0 : Below w.heap.size w w1 := growE hg1
  have HO0 := Lib.hid hO0
  clear hown hg1 hsrc hE hO0
  go_loopw [7, 8] (fun v i wr => ∃ n : Nat, n ≤ t - f ∧ i = .int .i64 ((f : Int) + n) ∧ Own wr w.heap.size v (upL l f n) ∧ Below w.heap.size w wr) (fun _ i _ => t - (intOf i).toNat)
  case atStart => exact ⟨0, Nat.zero_le _, by simp, HO0.out, hbw0⟩
  case round =>
    obtain ⟨n, hn, rfl, hO, hbw⟩ := hrel
    by_cases hlt : n < t - f
    · obtain ⟨A0, c0, rfl, hR, hA⟩ := hO.form
      have h1 : (f : Int) + n < (t : Int) := by omega
      have hS : Hid (Calls Try.prog 16 #[.slice A0 (upL l f n).length c0, .int .i64 ((f : Int) + n)] wr fun r w' => ∃ v, r = .returned v ∧ Own w' wr.heap.size v (upL l f (n + 1)) ∧ Below wr.heap.size wr w') := by
        have := ref_Swap A0 c0 (upL l f n) ((f + n : Nat) : Int) wr hR hA (by rw [upL_len]; omega)
        rw [swapF_in (by rw [upL_len]; omega)] at this
        rw [show ((f + n : Nat) : Int) = (f : Int) + n by omega] at this
        exact this
      clear hO hR hA
      go_wp2_with (go_at_call 16; refine hS.out.mono ?_; rintro e w2 ⟨v, rfl, hO2, hb2⟩; have HO2 := Lib.hid (hO2.less hbw.size); have HB2 := Lib.hid (hbw.trans (hb2.mono hbw.size)); clear hO2 hb2)
      go_roundw
      case rel => exact ⟨n + 1, by omega, by go_num, HO2.out, HB2.out⟩
      case measure => simp [intOf]; omega
    · obtain rfl : n = t - f := by omega
      have h1 : (t : Int) ≤ (f : Int) + (t - f : Nat) := by omega
      have HO := Lib.hid hO
      have hlu := upL_len l f (t - f)
      obtain ⟨M, hM⟩ : ∃ M, upL l f (t - f) = M := ⟨_, rfl⟩
      rw [hM] at HO hlu
      have HM := Lib.hid hM
      clear hO hM
      go_wp2
      go_loopw [7, 9] (fun v i wx => ∃ n : Nat, n ≤ f - t ∧ i = .int .i64 ((f : Int) - n) ∧ Own wx w.heap.size v (downL M f n) ∧ Below w.heap.size w wx) (fun _ i _ => (intOf i).toNat - t)
      case atStart => exact ⟨0, Nat.zero_le _, by simp, HO.out, hbw⟩
      case round =>
        obtain ⟨n, hn, rfl, hO, hbw2⟩ := hrel
        by_cases hlt2 : n < f - t
        · obtain ⟨A0, c0, rfl, hR, hA⟩ := hO.form
          have h2 : (t : Int) < (f : Int) - n := by omega
          have hS : Hid (Calls Try.prog 16 #[.slice A0 (downL M f n).length c0, .int .i64 ((f : Int) - n - 1)] wr fun r w' => ∃ v, r = .returned v ∧ Own w' wr.heap.size v (downL M f (n + 1)) ∧ Below wr.heap.size wr w') := by
            have := ref_Swap A0 c0 (downL M f n) ((f - n - 1 : Nat) : Int) wr hR hA (by rw [downL_len]; omega)
            rw [swapF_in (by rw [downL_len]; omega), show ((f - n - 1 : Nat) : Int) = (f : Int) - n - 1 by omega] at this
            exact this
          clear hO hR hA
          go_wp2_with (go_at_call 16; refine hS.out.mono ?_; rintro e w2 ⟨v, rfl, hO2, hb2⟩; have HO2 := Lib.hid (hO2.less hbw2.size); have HB2 := Lib.hid (hbw2.trans (hb2.mono hbw2.size)); clear hO2 hb2)
          go_roundw
          case rel => exact ⟨n + 1, by omega, by go_num, HO2.out, HB2.out⟩
          case measure => simp [intOf]; omega
        · obtain rfl : n = f - t := by omega
          have h2 : (f : Int) - (f - t : Nat) ≤ (t : Int) := by omega
          have HOO := Lib.hid hO
          clear hO
          go_wp2
          go_ret
          exact ⟨_, rfl, by rw [HM.out]; exact HOO.out, hbw2⟩
end Go.Proofs.Ythbcjjodinnnfaa
