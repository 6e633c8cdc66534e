/- Contracts of increase and Add of layer 4 (cnt), over the translation. -/
import Derived.Test.YtjnabmchejdhpaaFn1
import Derived.Deep.Cut
namespace Go.Proofs.Ytjnabmchejdhpaa
open Go.RowKit

theorem Own.at {w : World} {base : Nat} {v : Value} {l : List Int} {i : Nat} (h : Own w base v l) (hi : i < l.length) :
    ∃ g c, v = .slice (some ⟨g, 0, none⟩) l.length c ∧ base ≤ g ∧ g < w.heap.size ∧ w.cell? ⟨g, i, none⟩ = some (.int .u32 (li l i)) ∧ w.frozen? ⟨g, i, none⟩ = false ∧
      ∀ x, Own (w.setCell ⟨g, i, none⟩ (.int .u32 x)) base v (l.set i x) := by
  obtain ⟨g, c, rfl, h1, h2, h3, _⟩ := h.set hi 0
  refine ⟨g, c, rfl, h1, h2, ?_, h3, fun x => ?_⟩
  · obtain ⟨A, c2, e, hR, _⟩ := h.form
    obtain ⟨b, o, e2, _, hc⟩ := hR (by omega)
    injection e with e3 e4 e5
    rw [← e3] at e2
    injection e2 with e2
    injection e2 with e6 e7 e8
    subst e6 e7
    have := hc i hi
    rwa [Nat.zero_add] at this
  · obtain ⟨g2, c2, e, _, _, _, h4⟩ := h.set hi x
    injection e with e3 e4 e5
    injection e3 with e3
    injection e3 with e3
    subst e3
    exact h4
theorem Own.len_cap {w : World} {base : Nat} {v : Value} {l : List Int} (h : Own w base v l) : ∃ A c, v = .slice A l.length c ∧ l.length ≤ c ∧ c ≤ maxLen ∧ RI w w.heap.size A l ∧ (A = none → c = 0) := by
  rcases h.2 with ⟨rfl, h0⟩ | ⟨g, cap, cur, rfl, hg, hh, hn, hc, hsz, htk⟩
  · have : l = [] := List.eq_nil_of_length_eq_zero h0
    subst this
    exact ⟨none, 0, rfl, Nat.le_refl _, Nat.zero_le _, RI.nil, fun _ => rfl⟩
  · obtain ⟨A, c, e, hR, hA⟩ := h.form
    injection e with e1 e2 e3
    subst e1 e3
    exact ⟨_, _, rfl, hn, hc, hR, hA⟩
theorem Own.nil (w : World) (B : Nat) : Own w B (.slice none 0 0) [] := ⟨rfl, .inl ⟨rfl, rfl⟩⟩

theorem inc_a {s a t : List Int} {k : Nat} {C : Int} (hk : k < a.length) (hkt : k < t.length) (h : val t + C * pw k = val s + val (a.take k)) :
    val (t.set k ((C + li a k + li t k) % 4294967296)) + (C + li a k + li t k) / 4294967296 * pw (k + 1) = val s + val (a.take (k + 1)) := by
  have h1 := inc_step hkt C (li a k)
  have h2 := val_take_succ hk
  have e : t.getD k 0 = li t k := rfl
  have e2 : a.getD k 0 = li a k := rfl
  rw [e] at h1
  rw [e2, Int.mul_comm] at h2
  omega
theorem inc_b {s a t : List Int} {k : Nat} {C : Int} (hk : a.length ≤ k) (hkt : k < t.length) (h : val t + C * pw k = val s + val (a.take k)) :
    val (t.set k ((C + li t k) % 4294967296)) + (C + li t k) / 4294967296 * pw (k + 1) = val s + val (a.take (k + 1)) := by
  have h1 := inc_step hkt C 0
  have e : t.getD k 0 = li t k := rfl
  rw [e, Int.add_zero] at h1
  rw [List.take_of_length_le hk] at h
  rw [List.take_of_length_le (by omega)]
  omega
theorem inc_le {s a t : List Int} {k M : Nat} (hs : Dig s) (ha : Dig a) (ht : Dig t) (hsM : s.length ≤ M) (haM : a.length ≤ M) (h : val t + 1 * pw k = val s + val (a.take k)) : k ≤ M := by
  rcases Nat.lt_or_ge M k with c | c
  · have h1 := val_hi hs
    have h2 := val_hi (ha.take k)
    have h3 := val_lo ht
    have h4 := pw_mono hsM
    have h5 := pw_mono (show (a.take k).length ≤ M by rw [List.length_take]; omega)
    have h6 := pw_mono (show M + 1 ≤ k by omega)
    rw [pw_succ] at h6
    have h7 := pw_pos M
    omega
  · exact c
theorem Own.pushAt {w1 : World} {B : Nat} {v2 : Value} {t : List Int} (h : World.ownsRow w1 B 62 1 v2 (t.length + 1) (t.map (Value.int .u32) ++ [.int .u32 0])) :
    ∃ g c, v2 = .slice (some ⟨g, 0, none⟩) (t.length + 1) c ∧ B ≤ g ∧ g < w1.heap.size ∧ w1.cell? ⟨g, t.length, none⟩ = some (.int .u32 0) ∧ w1.frozen? ⟨g, t.length, none⟩ = false ∧
      Hid (∀ x, Own (w1.setCell ⟨g, t.length, none⟩ (.int .u32 x)) B (.slice (some ⟨g, 0, none⟩) (t.length + 1) c) (t ++ [x])) := by
  have h1 : Own w1 B v2 (t ++ [0]) := Own.push h
  obtain ⟨g, c, rfl, h2, h3, h4, h5, h6⟩ := h1.at (i := t.length) (by simp)
  have e : (t ++ [(0 : Int)]).length = t.length + 1 := by simp
  have e2 : li (t ++ [0]) t.length = 0 := by unfold li; simp [List.getD]
  rw [e2] at h4
  refine ⟨g, c, by rw [e], h2, h3, h4, h5, Lib.hid fun x => ?_⟩
  have := h6 x
  rw [e] at this
  simpa using this
theorem inc_a1 {s a t : List Int} {C : Int} (hk : t.length < a.length) (h : val t + C * pw t.length = val s + val (a.take t.length)) :
    val (t ++ [(C + li a t.length) % 4294967296]) + (C + li a t.length) / 4294967296 * pw (t.length + 1) = val s + val (a.take (t.length + 1)) := by
  rw [val_snoc]
  have h1 := carry_step (C + li a t.length) t.length
  have h2 := val_take_succ hk
  have e2 : a.getD t.length 0 = li a t.length := rfl
  rw [e2] at h2
  rw [Int.mul_add, Int.mul_comm (pw t.length) C] at h1
  omega
theorem inc_b1 {s a t : List Int} (hk : a.length ≤ t.length) (h : val t + 1 * pw t.length = val s + val (a.take t.length)) :
    val (t ++ [1]) + 0 * pw (t.length + 1) = val s + val (a.take (t.length + 1)) := by
  rw [val_snoc]
  rw [List.take_of_length_le hk] at h
  rw [List.take_of_length_le (by omega)]
  omega
theorem Dig.snoc {t : List Int} (h : Dig t) {x : Int} (h0 : 0 ≤ x) (h1 : x < 4294967296) : Dig (t ++ [x]) := h.app (Dig.cons h0 h1 Dig.nil)

set_option maxHeartbeats 2000000 in
theorem cnt_increase (B : Nat) (v : Value) (s : List Int) (A : Option Addr) (ca : Nat) (a : List Int) (w : World) (hO : Own w B v s) (hB : B ≤ w.heap.size) (hA : RI w B A a) (hs : Dig s) (ha : Dig a)
    (hsl : s.length ≤ 1000000000) (hal : a.length ≤ 1000000000) :
    Calls Try.prog 37 #[v, .slice A a.length ca] w fun e w' => ∃ v' s', e = .returned v' ∧ Own w' B v' s' ∧ Dig s' ∧ val s' = val s + val a ∧ s'.length ≤ max s.length a.length + 1 ∧ Below B w w' := by
  obtain ⟨i0, hi0, hz0, hz1, hz2⟩ := info_parts info62
  obtain ⟨M, hM, hM1, hM2⟩ : ∃ M, M = max s.length a.length ∧ s.length ≤ M ∧ a.length ≤ M := ⟨_, rfl, by omega, by omega⟩
  rw [← hM]
  have HA := Lib.hid hA
  have HO := Lib.hid hO
  have HS := Lib.hid hs
  have HD := Lib.hid ha
  have hMb : M ≤ 1000000000 := by omega
  clear hA hO hs ha hM
  go_enter Try.func37, Try.ntmps37
  go_wp2
  go_loopw [0, 5, 6] (fun x c i wr => ∃ (k : Nat) (C : Int) (t : List Int), i = .int .i64 k ∧ c = .int .u64 C ∧ 0 ≤ C ∧ C ≤ 1 ∧ k ≤ t.length ∧ t.length ≤ M + 1 ∧ Hid (Own wr B x t ∧ Dig t ∧ val t + C * pw k = val s + val (a.take k)) ∧ Below B w wr) (fun _ _ i _ => M + 2 - (intOf i).toNat)
  case atStart => exact ⟨0, 0, s, rfl, rfl, by omega, by omega, Nat.zero_le _, by omega, Lib.hid ⟨HO.out, HS.out, by simp [val]⟩, Below.refl _ _⟩
  case round =>
    obtain ⟨k, C, t, rfl, rfl, hC0, hC1, hkt, htM, HT, hb⟩ := hrel
    have hBr : B ≤ wr.heap.size := by have := hb.size; omega
    by_cases hk : k < a.length
    · have hk' : (k : Int) < (a.length : Int) := by omega
      obtain ⟨b, o, rfl, hg, hc⟩ := HA.out (by omega)
      have e1 := (hb.cell (p := ⟨b, o + k, none⟩) hg).trans (hc k hk)
      have d1 := HD.out _ (li_mem hk)
      clear hc
      by_cases hkt2 : k < t.length
      · have hkt' : ¬ (k : Int) = (t.length : Int) := by omega
        have hbw := hb
        have HW := HT
        obtain ⟨g, cp, rfl, hg1, hg2, e2, hfz, hset⟩ := HW.out.1.at (i := k) (by omega)
        have d2 := HW.out.2.1 _ (li_mem (l := t) (i := k) (by omega))
        have HSET := Lib.hid hset
        have HW2 := Lib.hid HW.out.2
        clear hset
        go_wp2
        go_roundw
        case rel => exact ⟨k + 1, _, _, by go_num, rfl, by omega, by omega, by rw [List.length_set]; omega, by rw [List.length_set]; omega, Lib.hid ⟨HSET.out _, HW2.out.1.set _ (by omega) (by omega), inc_a (by omega) (by omega) HW2.out.2⟩, hbw.setCell (p := ⟨g, k, none⟩) hg1 _⟩
        case measure => simp [intOf]; omega
      · obtain rfl : k = t.length := by omega
        obtain ⟨Au, cu, rfl, hcu, _⟩ := HT.out.1.len_cap
        go_upto_region 7 with (at_builtin; refine wpList_append_own _ rfl _ _ 24 rfl B 62 i0 _ 1 4 Try.underlying24 hi0 hz0 hz1 hz2 rfl (by decide) _ _ _ rfl (World.ownsRow.alloc HT.out.1 _) ⟨wr.heap.size, 0, none⟩ 1 1 [.int .u32 0] rfl rfl (cell_one_new _ _ _) (by simp [Value.oneCell']) (max_ok (by omega)) (by omega) (by simp; omega) ?_; intro v2 w1 hown hgr _; have hbw : Below B w w1 := HT.out.1.grow2 hb hBr hgr; have e1' := (hbw.cell (p := ⟨b, o + t.length, none⟩) hg).trans ((hb.cell (p := ⟨b, o + t.length, none⟩) hg).symm.trans e1); obtain ⟨g, cp, rfl, hg1, hg2, e2, hfz, HSET⟩ := Own.pushAt hown; clear hown hgr e1)
        go_wp2
        go_roundw
        case rel => exact ⟨t.length + 1, _, _, by go_num, rfl, by omega, by omega, by simp, by simp; omega, Lib.hid ⟨HSET.out _, HT.out.2.1.snoc (by omega) (by omega), inc_a1 (by omega) HT.out.2.2⟩, hbw.setCell (p := ⟨g, t.length, none⟩) hg1 _⟩
        case measure => simp [intOf]; omega
    · have hk' : ¬ (k : Int) < (a.length : Int) := by omega
      by_cases hC : C = 0
      · subst hC
        go_wp2
        go_ret
        refine ⟨_, rfl, t, HT.out.1, HT.out.2.1, ?_, htM, hb⟩
        have := HT.out.2.2
        rw [List.take_of_length_le (by omega)] at this
        omega
      · obtain rfl : C = 1 := by omega
        have hkM : k ≤ M := inc_le HS.out HD.out HT.out.2.1 hM1 hM2 HT.out.2.2
        by_cases hkt2 : k < t.length
        · have hkt' : ¬ (k : Int) = (t.length : Int) := by omega
          have hbw := hb
          have HW := HT
          obtain ⟨g, cp, rfl, hg1, hg2, e2, hfz, hset⟩ := HW.out.1.at (i := k) (by omega)
          have d2 := HW.out.2.1 _ (li_mem (l := t) (i := k) (by omega))
          have HSET := Lib.hid hset
          have HW2 := Lib.hid HW.out.2
          clear hset
          go_wp2
          go_roundw
          case rel => exact ⟨k + 1, _, _, by go_num, rfl, by omega, by omega, by rw [List.length_set]; omega, by rw [List.length_set]; omega, Lib.hid ⟨HSET.out _, HW2.out.1.set _ (by omega) (by omega), inc_b (by omega) (by omega) HW2.out.2⟩, hbw.setCell (p := ⟨g, k, none⟩) hg1 _⟩
          case measure => simp [intOf]; omega
        · obtain rfl : k = t.length := by omega
          obtain ⟨Au, cu, rfl, hcu, _⟩ := HT.out.1.len_cap
          go_upto_region 7 with (at_builtin; refine wpList_append_own _ rfl _ _ 24 rfl B 62 i0 _ 1 4 Try.underlying24 hi0 hz0 hz1 hz2 rfl (by decide) _ _ _ rfl (World.ownsRow.alloc HT.out.1 _) ⟨wr.heap.size, 0, none⟩ 1 1 [.int .u32 0] rfl rfl (cell_one_new _ _ _) (by simp [Value.oneCell']) (max_ok (by omega)) (by omega) (by simp; omega) ?_; intro v2 w1 hown hgr _; have hbw : Below B w w1 := HT.out.1.grow2 hb hBr hgr; obtain ⟨g, cp, rfl, hg1, hg2, e2, hfz, HSET⟩ := Own.pushAt hown; clear hown hgr)
          go_wp2
          go_roundw
          case rel => exact ⟨t.length + 1, 0, _, by go_num, by go_num, by omega, by omega, by simp, by simp; omega, Lib.hid ⟨HSET.out _, HT.out.2.1.snoc (by omega) (by omega), inc_b1 (by omega) HT.out.2.2⟩, hbw.setCell (p := ⟨g, t.length, none⟩) hg1 _⟩
          case measure => simp [intOf]; omega
end Go.Proofs.Ytjnabmchejdhpaa
