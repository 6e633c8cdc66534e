/- Contracts of the specification's Of and Next of layer 2 (bits), over the translation. -/
import Derived.Test.YteoijhmaklocpaaFn7
import Derived.Test.YteoijhmaklocpaaBmath
namespace Go.Proofs.Yteoijhmaklocpaa
open Go.RowKit Go.PlainAid

theorem ref_Hold (n : Int) (w : World) :
    Calls Try.prog 24 #[.int .i64 n, .int .i64 0, .int .i64 64] w fun r w' => r = .returned (.int .i64 (clampN n)) ∧ w = w' := by
  have h : (clampN n : Int) = if n < 0 then 0 else if 64 < n then 64 else n := by unfold clampN; split; rfl; split; rfl; omega
  by_cases h0 : n < 0
  · have hF : (clampN n : Int) = 0 := by rw [h, if_pos h0]
    rw [hF]
    clear h hF
    go_enter Try.func24, Try.ntmps24
    go_wp2
    go_ret
    exact ⟨rfl, rfl⟩
  · by_cases h1 : 64 < n
    · have hF : (clampN n : Int) = 64 := by rw [h, if_neg h0, if_pos h1]
      rw [hF]
      clear h hF
      go_enter Try.func24, Try.ntmps24
      go_wp2
      go_ret
      exact ⟨rfl, rfl⟩
    · have hF : (clampN n : Int) = n := by rw [h, if_neg h0, if_neg h1]
      rw [hF]
      clear h hF
      go_enter Try.func24, Try.ntmps24
      go_wp2
      go_ret
      exact ⟨rfl, rfl⟩

set_option maxHeartbeats 1000000 in
theorem ref_Of (n : Nat) (m : Int) (w : World) (hn : n ≤ 18446744073709551615) :
    Calls Try.prog 11 #[.int .u64 (n : Int), .int .i64 m] w fun r w' => ∃ v, r = .returned v ∧ Own w' w.heap.size v (ofL n (clampN m)) ∧ Below w.heap.size w w' := by
  obtain ⟨i0, hi0, hz0, hz1, hz2⟩ := info_parts info4
  have hK := clampN_le m
  obtain ⟨K, hKK⟩ : ∃ K, clampN m = K := ⟨_, rfl⟩
  rw [hKK] at hK ⊢
  have HK := Lib.hid hKK
  clear hKK
  go_enter Try.func11, Try.ntmps11
  go_wp2
  go_loopw [0, 5, 6] (fun a v i wr => ∃ k : Nat, k ≤ K ∧ a = .int .u64 ((n / 2 ^ k : Nat) : Int) ∧ i = .int .i64 k ∧ Own wr w.heap.size v (ofL n k) ∧ Below w.heap.size w wr) (fun _ _ i _ => K - (intOf i).toNat)
  case atStart => exact ⟨0, Nat.zero_le _, by simp, rfl, Own.empty w, (Below.refl _ _).alloc (Nat.le_refl _) _⟩
  case round =>
    obtain ⟨k, hk, rfl, rfl, hO, hbw⟩ := hrel
    have HO := Lib.hid hO
    clear hO
    by_cases hlt : k < K
    · have hlt' : (k : Int) < (K : Int) := by omega
      have hlen := ofL_len n k
      obtain ⟨q, hq⟩ : ∃ q, n / 2 ^ k = q := ⟨_, rfl⟩
      have hq2 : n / 2 ^ (k + 1) = q / 2 := by rw [Nat.pow_succ, ← Nat.div_div_eq_div_mul, hq]
      have hqn : q ≤ 18446744073709551615 := by have := Nat.div_le_self n (2 ^ k); omega
      have hbit : ((q : Int) % 2 == 1) = bitN n k := by unfold bitN; rw [hq]; apply Bool.eq_iff_iff.2; simp; omega
      rw [hq]
      have HQ2 := Lib.hid hq2
      have HOP : ∀ v' w', World.ownsRow w' w.heap.size 4 1 v' ((ofL n k).length + 1) ((ofL n k).map Value.bool ++ [.bool (bitN n k)]) → Hid (Own w' w.heap.size v' (ofL n (k + 1))) := fun v' w' h => by
        show Own _ _ _ _; rw [ofL_succ]; exact Own.push h
      clear hq hq2
      go_wp2_with (first
        | (go_at_call 24; refine (ref_Hold _ _).mono ?_; rintro e w' ⟨rfl, rfl⟩; rw [HK.out])
        | (at_builtin; refine wpList_append_own _ rfl _ _ 23 rfl w.heap.size 4 i0 _ 1 1 Try.underlying23 hi0 hz0 hz1 hz2 rfl (by decide) _ _ _ rfl (World.ownsRow.alloc HO.out _) ⟨wr.heap.size, 0, none⟩ 1 1 [.bool (bitN n k)] rfl rfl (cell_one_new _ _ _) (by simp [Value.oneCell']) (max_ok (by omega)) (by omega) (by have := hbw.size; simp; omega) ?_; intro v2 w1 hown hg1 _))
      go_roundw
      case rel => exact ⟨k + 1, by omega, by rw [HQ2.out]; simp, by go_num, (HOP _ _ hown).out, HO.out.grow hbw hg1⟩
      case measure => simp [intOf]; omega
    · obtain rfl : k = K := by omega
      go_wp2_with (first
        | (go_at_call 24; refine (ref_Hold _ _).mono ?_; rintro e w' ⟨rfl, rfl⟩; rw [HK.out]))
      go_ret
      exact ⟨_, rfl, HO.out, hbw⟩

theorem next_lb : ∀ (l : List Bool) (k : Nat), k < l.length → lb (nextL l) k = (lb l k != allTo l k)
  | [], k, h => absurd h (by simp)
  | true :: l, 0, _ => rfl
  | false :: l, 0, _ => rfl
  | true :: l, k + 1, h => by
    have e1 : lb (nextL (true :: l)) (k + 1) = lb (nextL l) k := rfl
    have e2 : lb (true :: l) (k + 1) = lb l k := rfl
    rw [e1, e2, allTo_cons, next_lb l k (by simpa using h)]; simp
  | false :: l, k + 1, h => by
    have e1 : lb (nextL (false :: l)) (k + 1) = lb l k := rfl
    have e2 : lb (false :: l) (k + 1) = lb l k := rfl
    rw [e1, e2, allTo_cons]; simp
theorem take_next {l : List Bool} {k : Nat} (h : k < l.length) : (nextL l).take (k + 1) = (nextL l).take k ++ [lb l k != allTo l k] := by
  have h2 : k < (nextL l).length := by rw [nextL_len]; exact h
  rw [List.take_succ_eq_append_getElem h2, ← next_lb l k h]
  unfold lb; simp [List.getD, List.getElem?_eq_getElem h2]

set_option maxHeartbeats 1000000 in
theorem ref_Next (A : Option Addr) (ca : Nat) (l : List Bool) (w : World) (h : RB w w.heap.size A l) (hl : l.length ≤ 1000) :
    Calls Try.prog 15 #[.slice A l.length ca] w fun r w' => ∃ v, r = .returned v ∧ Own w' w.heap.size v (nextL l) ∧ Below w.heap.size w w' := by
  obtain ⟨i0, hi0, hz0, hz1, hz2⟩ := info_parts info4
  have H := Lib.hid h
  clear h
  go_enter Try.func15, Try.ntmps15
  go_wp2
  go_loopw [3, 4, 5] (fun v c i wr => ∃ k : Nat, k ≤ l.length ∧ c = .bool (allTo l k) ∧ i = .int .i64 k ∧ Own wr w.heap.size v ((nextL l).take k) ∧ Below w.heap.size w wr) (fun _ _ i _ => l.length - (intOf i).toNat)
  case atStart => exact ⟨0, Nat.zero_le _, rfl, rfl, Own.empty w, (Below.refl _ _).alloc (Nat.le_refl _) _⟩
  case round =>
    obtain ⟨k, hk, rfl, rfl, hO, hbw⟩ := hrel
    have HO := Lib.hid hO
    clear hO
    by_cases hlt : k < l.length
    · have hlt' : (k : Int) < (l.length : Int) := by omega
      obtain ⟨g, o, rfl, hg, hc⟩ := H.out (by omega)
      have hw := hc k hlt
      have e1 := (hbw.cell (p := ⟨g, o + k, none⟩) hg).trans hw
      have hgw : g < wr.heap.size := by have := hbw.size; omega
      have hlen : ((nextL l).take k).length = k := by rw [List.length_take, nextL_len]; omega
      have hs : allTo l (k + 1) = (allTo l k && lb l k) := rfl
      have ht := take_next hlt
      clear hc
      cases hv : lb l k <;> cases ha : allTo l k
      all_goals
        rw [hv] at e1 hw
        have HS := Lib.hid (show allTo l (k + 1) = _ from by rw [hs, ha, hv])
        have HT := Lib.hid (show (nextL l).take (k + 1) = _ from by rw [ht, ha, hv])
        clear hs ht
        go_wp2_with (at_builtin; refine wpList_append_own _ rfl _ _ 23 rfl w.heap.size 4 i0 _ 1 1 Try.underlying23 hi0 hz0 hz1 hz2 rfl (by decide) _ _ _ rfl (World.ownsRow.alloc HO.out _) ⟨wr.heap.size, 0, none⟩ 1 1 [.bool _] rfl rfl (cell_one_new _ _ _) (by simp [Value.oneCell']) (max_ok (by omega)) (by omega) (by have := hbw.size; simp; omega) ?_; intro v2 w1 hown hg1 _; have e2 := ((HO.out.grow hbw hg1).cell (p := ⟨g, o + k, none⟩) hg).trans hw)
        go_roundw
        case rel => exact ⟨k + 1, by omega, by rw [HS.out]; rfl, by go_num, by rw [HT.out]; exact Own.push hown, HO.out.grow hbw hg1⟩
        case measure => simp [intOf]; omega
    · obtain rfl : k = l.length := by omega
      have HT : Hid ((nextL l).take l.length = nextL l) := by show _ = _; rw [← nextL_len l, List.take_length]
      go_wp2
      go_ret
      exact ⟨_, rfl, by rw [← HT.out]; exact HO.out, hbw⟩
end Go.Proofs.Yteoijhmaklocpaa
