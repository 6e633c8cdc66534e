/- Contracts of Same, Has, put, Of of the specification of layer 3 (vset), as prop uses them. -/
import Derived.Test.YtakhdlidikbnjaaInts
import Derived.Test.YtakhdlidikbnjaaSmath
namespace Go.Proofs.Ytakhdlidikbnjaa
open Go.RowKit

set_option maxHeartbeats 1000000 in
theorem ref_Same (A C : Option Addr) (ca cb : Nat) (a b : List Int) (w : World) (ha : RI w w.heap.size A a) (hb : RI w w.heap.size C b) (la : a.length ≤ 1000000000000) (_lb' : b.length ≤ 1000000000000) :
    Calls Try.prog 12 #[.slice A a.length ca, .slice C b.length cb] w fun r w' => r = .returned (.bool (decide (a = b))) ∧ Below w.heap.size w w' := by
  have HA := Lib.hid ha
  have HB := Lib.hid hb
  clear ha hb
  by_cases h : a.length = b.length
  · have hne : ((a.length : Int) != (b.length : Int)) = false := by simp [h]
    have hle : b.length ≤ a.length := by omega
    have hle2 : a.length ≤ b.length := by omega
    clear h
    go_enter Try.func12, Try.ntmps12
    go_wp2
    go_loopw [5] (fun i wr => ∃ k n : Nat, k ≤ a.length ∧ (∀ j, j < k → li a j = li b j) ∧ i = .int .i64 k ∧ wr = w.drewN n) (fun i _ => a.length - (intOf i).toNat)
    case atStart => exact ⟨0, 0, Nat.zero_le _, fun j hj => absurd hj (by omega), rfl, rfl⟩
    case round =>
      obtain ⟨k, n, hka, hv, rfl, rfl⟩ := hrel
      have HV := Lib.hid hv
      clear hv
      by_cases h1 : k < a.length
      · have h2 : k < b.length := by omega
        obtain ⟨g1, o1, rfl, hg1, hc1⟩ := HA.out (by omega)
        obtain ⟨g2, o2, rfl, hg2, hc2⟩ := HB.out (by omega)
        have e1 := hc1 k h1
        have e2 := hc2 k h2
        have h1' : (k : Int) < (a.length : Int) := by omega
        have h2' : (k : Int) < (b.length : Int) := by omega
        have h0' : (0 : Int) ≤ (k : Int) := by omega
        clear hc1 hc2
        by_cases hd : li a k = li b k
        · have HN : Hid (∀ j, j < k + 1 → li a j = li b j) := fun j hj => by
            by_cases e : j = k
            · rw [e]; exact hd
            · exact HV.out j (by omega)
          have hd' : (li a k == li b k) = true := by simp [hd]
          have hd2 : (li a k != li b k) = false := by simp [hd]
          clear hd
          go_wp2
          go_quiet (fail)
          go_wp2
          go_roundw
          case rel => exact ⟨k + 1, _, by omega, HN.out, by go_num, rfl⟩
          case measure => simp [intOf]; omega
        · have HN : Hid (decide (a = b) = false) := by
            show _ = _
            simp; intro e; exact hd (by rw [e])
          have hd' : (li a k == li b k) = false := by simp [hd]
          have hd2 : (li a k != li b k) = true := by simp [hd]
          clear hd
          go_wp2
          go_quiet (fail)
          go_wp2
          go_ret
          exact ⟨by rw [HN.out]; rfl, by simp only [World.drewN_drewN]; exact below_drewN (Below.refl _ _) _⟩
      · have HN : Hid (decide (a = b) = true) := by
          show _ = _
          simp; exact li_ext (by omega) (fun i hi => HV.out i (by omega))
        go_wp2
        go_ret
        exact ⟨by rw [HN.out]; rfl, below_drewN (Below.refl _ _) _⟩
  · have hne : ((a.length : Int) != (b.length : Int)) = true := by simp; omega
    have HN : Hid (decide (a = b) = false) := by
      show _ = _
      simp; intro e; exact h (by rw [e])
    clear h
    go_enter Try.func12, Try.ntmps12
    go_wp2
    go_ret
    exact ⟨by rw [HN.out]; rfl, Below.refl _ _⟩

set_option maxHeartbeats 1000000 in
theorem ref_Has (A : Option Addr) (ca : Nat) (l : List Int) (x : Int) (w : World) (h : RI w w.heap.size A l) (hl : l.length ≤ 1000000000) :
    Calls Try.prog 24 #[.slice A l.length ca, .int .i64 x] w fun r w' => r = .returned (.bool (decide (x ∈ l))) ∧ w = w' := by
  have H := Lib.hid h
  clear h
  go_enter Try.func24, Try.ntmps24
  go_wp2
  go_loop [4, 5] (fun r i => ∃ k : Nat, k ≤ l.length ∧ (∀ j, j < k → li l j ≠ x) ∧ r = .bool false ∧ i = .int .i64 k) (fun _ i => l.length - (intOf i).toNat)
  case atStart => exact ⟨0, Nat.zero_le _, fun j hj => absurd hj (by omega), rfl, rfl⟩
  case round =>
    obtain ⟨k, hk, hv, rfl, rfl⟩ := hrel
    have HV := Lib.hid hv
    clear hv
    by_cases hlt : k < l.length
    · obtain ⟨g, o, rfl, hg, hc⟩ := H.out (by omega)
      have e1 := hc k hlt
      have h1' : (k : Int) < (l.length : Int) := by omega
      clear hc
      by_cases hd : li l k = x
      · have HP : Hid (decide (x ∈ l) = true) := by show _ = _; simp; rw [← hd]; exact li_mem hlt
        have hd' : (li l k == x) = true := by simp [hd]
        clear hd
        go_wp2
        go_ret
        exact ⟨by rw [HP.out]; rfl, rfl⟩
      · have HN : Hid (∀ j, j < k + 1 → li l j ≠ x) := fun j hj => by
          by_cases e : j = k
          · rw [e]; exact hd
          · exact HV.out j (by omega)
        have hd' : (li l k == x) = false := by simp [hd]
        clear hd
        go_wp2
        go_round
        case rel => exact ⟨k + 1, by omega, HN.out, rfl, by go_num⟩
        case measure => simp [intOf]; omega
    · obtain rfl : k = l.length := by omega
      have HP : Hid (decide (x ∈ l) = false) := by
        show _ = _
        simp only [decide_eq_false_iff_not]
        intro hx
        obtain ⟨i, hi, e⟩ := List.getElem_of_mem hx
        exact HV.out i hi (by rw [li_get hi]; exact e)
      go_wp2
      go_ret
      exact ⟨by rw [HP.out]; rfl, rfl⟩


def stepP (v : Int) (s : List Int × Bool) (x : Int) : List Int × Bool := if !s.2 && decide (v < x) then (s.1 ++ [v] ++ [x], true) else (s.1 ++ [x], s.2)
def insL (v : Int) : List Int → List Int
  | [] => [v]
  | x :: t => if v < x then v :: x :: t else x :: insL v t
theorem fold_true (v : Int) : ∀ (l out : List Int), l.foldl (stepP v) (out, true) = (out ++ l, true)
  | [], out => by simp
  | x :: t, out => by
    rw [List.foldl_cons]
    have e : stepP v (out, true) x = (out ++ [x], true) := rfl
    rw [e, fold_true v t]; simp
def fin (v : Int) (s : List Int × Bool) : List Int := if s.2 then s.1 else s.1 ++ [v]
theorem fold_ins (v : Int) : ∀ (l out : List Int), fin v (l.foldl (stepP v) (out, false)) = out ++ insL v l
  | [], out => rfl
  | x :: t, out => by
    rw [List.foldl_cons]
    by_cases h : v < x
    · have e : stepP v (out, false) x = (out ++ [v] ++ [x], true) := by unfold stepP; simp [h]
      have e2 : insL v (x :: t) = v :: x :: t := by unfold insL; rw [if_pos h]
      rw [e, fold_true, e2]
      show out ++ [v] ++ [x] ++ t = _
      simp
    · have e : stepP v (out, false) x = (out ++ [x], false) := by unfold stepP; simp [h]
      have e2 : insL v (x :: t) = x :: insL v t := by rw [insL, if_neg h]
      rw [e, fold_ins v t, e2]; simp
theorem ins_mem (v x : Int) : ∀ l : List Int, x ∈ insL v l ↔ x = v ∨ x ∈ l
  | [] => by simp [insL]
  | y :: t => by
    unfold insL
    split
    · simp
    · rw [List.mem_cons, ins_mem v x t, List.mem_cons]
      constructor
      · rintro (h | h | h)
        · exact .inr (.inl h)
        · exact .inl h
        · exact .inr (.inr h)
      · rintro (h | h | h)
        · exact .inr (.inl h)
        · exact .inl h
        · exact .inr (.inr h)
theorem ins_inc (v : Int) : ∀ l : List Int, Inc l → v ∉ l → Inc (insL v l)
  | [], _, _ => by simp [insL, Inc]
  | y :: t, h, hv => by
    unfold Inc at h
    rw [List.pairwise_cons] at h
    rw [List.mem_cons] at hv
    unfold insL
    split
    · rename_i hvy
      show List.Pairwise _ _
      rw [List.pairwise_cons, List.pairwise_cons]
      exact ⟨fun z hz => by
        rw [List.mem_cons] at hz
        rcases hz with e | hz
        · omega
        · have := h.1 z hz; omega, h⟩
    · rename_i hvy
      show List.Pairwise _ _
      rw [List.pairwise_cons]
      refine ⟨fun z hz => ?_, ins_inc v t h.2 (fun hh => hv (.inr hh))⟩
      rw [ins_mem] at hz
      rcases hz with e | hz
      · have : v ≠ y := fun e => hv (.inl e)
        omega
      · exact h.1 z hz
theorem ins_len (v : Int) : ∀ l : List Int, (insL v l).length = l.length + 1
  | [] => rfl
  | y :: t => by
    unfold insL
    split
    · rfl
    · rw [List.length_cons, ins_len v t]; rfl
theorem step_len (v : Int) (s : List Int × Bool) (x : Int) : (stepP v s x).1.length ≤ s.1.length + 2 := by unfold stepP; split <;> simp
/-- What stands behind the first k elements. -/
def stk (v : Int) (l : List Int) (k : Nat) : List Int × Bool := (l.take k).foldl (stepP v) ([], false)
theorem stk_succ {v : Int} {l : List Int} {k : Nat} (h : k < l.length) : stk v l (k + 1) = stepP v (stk v l k) (li l k) := by
  unfold stk
  rw [List.take_succ_eq_append_getElem h, List.foldl_append, li_get h]; rfl
theorem stk_len (v : Int) (l : List Int) : ∀ k, k ≤ l.length → (stk v l k).1.length ≤ 2 * k
  | 0, _ => by unfold stk; simp
  | k + 1, h => by
    rw [stk_succ (by omega)]
    have := step_len v (stk v l k) (li l k)
    have := stk_len v l k (by omega)
    omega
theorem stk_all (v : Int) (l : List Int) : fin v (stk v l l.length) = insL v l := by
  unfold stk
  rw [List.take_length, fold_ins]; rfl

set_option maxRecDepth 100000 in
set_option maxHeartbeats 2000000 in
theorem ref_put (A : Option Addr) (ca : Nat) (l : List Int) (v : Int) (w : World) (h : RI w w.heap.size A l) (hl : l.length ≤ 1000000) :
    Calls Try.prog 46 #[.slice A l.length ca, .int .i64 v] w fun e w' => Gives w (insL v l) e w' := by
  obtain ⟨i0, hi0, hz0, hz1, hz2⟩ := info_parts info3
  have H := Lib.hid h
  have hE := Lib.hid (Own.empty w)
  have hbw0 : Below w.heap.size w (w.alloc (.cells #[] 3)) := (Below.refl _ _).alloc (Nat.le_refl _) _
  clear h
  go_enter Try.func46, Try.ntmps46
  go_wp2
  go_loopw [5, 6, 7] (fun o d i wr => ∃ k : Nat, k ≤ l.length ∧ i = .int .i64 k ∧ d = .bool (stk v l k).2 ∧ Own wr w.heap.size o (stk v l k).1 ∧ Below w.heap.size w wr) (fun _ _ i _ => l.length - (intOf i).toNat)
  case atStart => exact ⟨0, Nat.zero_le _, rfl, rfl, hE.out, hbw0⟩
  case round =>
    obtain ⟨k, hk, rfl, rfl, hO, hbw⟩ := hrel
    have hsl := stk_len v l k hk
    by_cases hlt : k < l.length
    · obtain ⟨b, off, rfl, hb, hc⟩ := H.out (by omega)
      have e1 := (hbw.cell (p := ⟨b, off + k, none⟩) hb).trans (hc k hlt)
      have h1' : (k : Int) < (l.length : Int) := by omega
      have hss := stk_succ (v := v) hlt
      obtain ⟨O, d, hst⟩ : ∃ O d, stk v l k = (O, d) := ⟨_, _, rfl⟩
      rw [hst] at hss hO hsl ⊢
      replace hO : Own _ _ _ O := hO
      have HO := Lib.hid hO
      have HB := Lib.hid hb
      simp only at hsl
      have HOP : ∀ (O : List Int) (x : Int) v' w', World.ownsRow w' w.heap.size 3 1 v' (O.length + 1) (O.map (Value.int .i64) ++ [.int .i64 x]) → Hid (Own w' w.heap.size v' (O ++ [x])) := fun _ _ _ _ h => Own.push h
      clear hc hst hO hb
      by_cases hgo : d = false ∧ v < li l k
      · obtain ⟨rfl, hd⟩ := hgo
        have e2 : stepP v (O, false) (li l k) = (O ++ [v] ++ [li l k], true) := by unfold stepP; simp [hd]
        rw [e2] at hss
        have HS := Lib.hid hss
        clear hss e2
        go_wp2_with (first | (at_builtin; refine wpList_append_own _ rfl _ _ 33 rfl w.heap.size 3 i0 _ 1 8 Try.underlying33 hi0 hz0 hz1 hz2 rfl (by decide) _ _ _ rfl (World.ownsRow.alloc HO.out _) ⟨wr.heap.size, 0, none⟩ 1 1 [.int .i64 v] rfl rfl (cell_one_new _ _ _) (by simp [Value.oneCell']) (max_ok (by omega)) (by omega) (by have := hbw.size; simp; omega) ?_; intro v2 w1 hown hg1 _; have HO1 := HOP _ _ _ _ hown; have hbw1 := HO.out.grow hbw hg1; have e3 := (hbw1.cell (p := ⟨b, off + k, none⟩) HB.out).trans (((hbw.cell (p := ⟨b, off + k, none⟩) HB.out).symm).trans e1); clear hown hg1 HO e1) | (at_builtin; refine wpList_append_own _ rfl _ _ 33 rfl w.heap.size 3 i0 _ 1 8 Try.underlying33 hi0 hz0 hz1 hz2 rfl (by decide) _ _ _ rfl (World.ownsRow.alloc HO1.out _) ⟨w1.heap.size, 0, none⟩ 1 1 [.int .i64 (li l k)] rfl rfl (cell_one_new _ _ _) (by simp [Value.oneCell']) (max_ok (by simp; omega)) (by simp; omega) (by have := hbw1.size; simp; omega) ?_; intro v3 w2 hown2 hg2 _; have HO2 := HOP _ _ _ _ hown2; have hbw2 := HO1.out.grow hbw1 hg2; clear hown2 hg2 HO1))
        go_roundw
        case rel => exact ⟨k + 1, by omega, by go_num, by rw [HS.out], by rw [HS.out]; exact HO2.out, hbw2⟩
        case measure => simp [intOf]; omega
      · have e2 : stepP v (O, d) (li l k) = (O ++ [li l k], d) := by
          unfold stepP
          rw [if_neg]
          intro hh
          apply hgo
          simpa using hh
        rw [e2] at hss
        have HS := Lib.hid hss
        clear hss e2
        have hgo2 : d = true ∨ (d = false ∧ li l k ≤ v) := by
          cases d
          · refine .inr ⟨rfl, ?_⟩
            rcases Int.lt_or_le v (li l k) with h | h
            · exact absurd ⟨rfl, h⟩ hgo
            · exact h
          · exact .inl rfl
        clear hgo
        rcases hgo2 with rfl | ⟨rfl, hd⟩
        all_goals
          go_wp2_with (at_builtin; refine wpList_append_own _ rfl _ _ 33 rfl w.heap.size 3 i0 _ 1 8 Try.underlying33 hi0 hz0 hz1 hz2 rfl (by decide) _ _ _ rfl (World.ownsRow.alloc HO.out _) ⟨wr.heap.size, 0, none⟩ 1 1 [.int .i64 (li l k)] rfl rfl (cell_one_new _ _ _) (by simp [Value.oneCell']) (max_ok (by omega)) (by omega) (by have := hbw.size; simp; omega) ?_; intro v2 w1 hown hg1 _; have HO1 := HOP _ _ _ _ hown; have hbw1 := HO.out.grow hbw hg1; clear hown hg1 HO e1)
          go_wp2
          go_roundw
          case rel => exact ⟨k + 1, by omega, by go_num, by rw [HS.out], by rw [HS.out]; exact HO1.out, hbw1⟩
          case measure => simp [intOf]; omega
    · obtain rfl : k = l.length := by omega
      have hall := stk_all v l
      obtain ⟨O, d, hst⟩ : ∃ O d, stk v l l.length = (O, d) := ⟨_, _, rfl⟩
      rw [hst] at hall hO hsl ⊢
      replace hO : Own _ _ _ O := hO
      have HO := Lib.hid hO
      simp only at hsl
      clear hst hO
      cases d
      · have HA : Hid (O ++ [v] = insL v l) := hall
        clear hall
        go_wp2_with (at_builtin; refine wpList_append_own _ rfl _ _ 33 rfl w.heap.size 3 i0 _ 1 8 Try.underlying33 hi0 hz0 hz1 hz2 rfl (by decide) _ _ _ rfl (World.ownsRow.alloc HO.out _) ⟨wr.heap.size, 0, none⟩ 1 1 [.int .i64 v] rfl rfl (cell_one_new _ _ _) (by simp [Value.oneCell']) (max_ok (by omega)) (by omega) (by have := hbw.size; simp; omega) ?_; intro v2 w1 hown hg1 _; have HO1 : Hid (Own w1 w.heap.size v2 (O ++ [v])) := Own.push hown; have hbw1 := HO.out.grow hbw hg1; clear hown hg1 HO)
        rw [HA.out] at HO1
        go_wp2
        go_ret
        exact gives_own rfl HO1.out hbw1
      · have HA : Hid (O = insL v l) := hall
        clear hall
        rw [HA.out] at HO
        go_wp2
        go_ret
        exact gives_own rfl HO.out hbw

set_option maxRecDepth 100000 in
set_option maxHeartbeats 2000000 in
theorem ref_Of (A : Option Addr) (ca : Nat) (l : List Int) (w : World) (h : RI w w.heap.size A l) (hl : l.length ≤ 1000000) :
    Calls Try.prog 34 #[.slice A l.length ca] w fun e w' => Gives w (setL l) e w' := by
  have H := Lib.hid h
  have hE := Lib.hid (Own.empty w)
  have hbw0 : Below w.heap.size w (w.alloc (.cells #[] 3)) := (Below.refl _ _).alloc (Nat.le_refl _) _
  clear h
  go_enter Try.func34, Try.ntmps34
  go_wp2
  go_loopw [3, 4] (fun o i wr => ∃ (k : Nat) (B : Option Addr) (c : Nat), k ≤ l.length ∧ i = .int .i64 k ∧ o = .slice B (setL (l.take k)).length c ∧ RI wr wr.heap.size B (setL (l.take k)) ∧ (B = none → c = 0) ∧ Below w.heap.size w wr) (fun _ i _ => l.length - (intOf i).toNat)
  case atStart =>
    refine ⟨0, some ⟨w.heap.size, 0, none⟩, 0, Nat.zero_le _, rfl, ?_, ?_, (fun e => by cases e), hbw0⟩
    · rw [List.take_zero, set_nil]; rfl
    · rw [List.take_zero, set_nil]; exact RI.nil
  case round =>
    obtain ⟨k, B, c, hk, rfl, rfl, hR, hB, hbw⟩ := hrel
    have HR := Lib.hid hR
    have HB := Lib.hid hB
    clear hR hB
    by_cases hlt : k < l.length
    · obtain ⟨b, off, rfl, hb, hc⟩ := H.out (by omega)
      have e1 := (hbw.cell (p := ⟨b, off + k, none⟩) hb).trans (hc k hlt)
      have h1' : (k : Int) < (l.length : Int) := by omega
      have htk : l.take (k + 1) = l.take k ++ [li l k] := by rw [List.take_succ_eq_append_getElem hlt, li_get hlt]
      have hsl : (setL (l.take k)).length ≤ 1000000 := by have := set_le (l.take k); rw [List.length_take] at this; omega
      have HC := Lib.hid (ref_Has B c (setL (l.take k)) (li l k) wr HR.out (by omega))
      by_cases hm : li l k ∈ setL (l.take k)
      · have hN : Hid (setL (l.take (k + 1)) = setL (l.take k)) := by
          show _ = _
          rw [htk]
          refine set_ext fun x => ?_
          rw [List.mem_append, List.mem_singleton]
          constructor
          · rintro (h | h)
            · exact h
            · rw [h]; exact (set_mem _ _).1 hm
          · exact .inl
        have HC2 := HC.out
        rw [show decide (li l k ∈ setL (l.take k)) = true by simpa using hm] at HC2
        have HC3 := Lib.hid HC2
        clear HC HC2 hm htk hc
        obtain ⟨X, hX⟩ : ∃ X, setL (l.take k) = X := ⟨_, rfl⟩
        rw [hX] at HC3 HR hsl hN ⊢
        clear hX
        go_wp2_with fail
        refine HC3.out.mono ?_; rintro e w2 ⟨rfl, rfl⟩
        go_wp2
        go_roundw
        case rel => exact ⟨k + 1, B, c, by omega, by go_num, by rw [hN.out], by rw [hN.out]; exact HR.out, HB.out, hbw⟩
        case measure => simp [intOf]; omega
      · have hN : Hid (insL (li l k) (setL (l.take k)) = setL (l.take (k + 1))) := by
          show _ = _
          rw [htk]
          refine set_eq (ins_inc _ _ (set_inc _) hm) fun x => ?_
          rw [ins_mem, set_mem, List.mem_append, List.mem_singleton]
          exact Or.comm
        have HC2 := HC.out
        rw [show decide (li l k ∈ setL (l.take k)) = false by simpa using hm] at HC2
        have HC3 := Lib.hid HC2
        have HP := Lib.hid (ref_put B c (setL (l.take k)) (li l k) wr HR.out hsl)
        rw [hN.out] at HP
        clear HC HC2 hm htk hc
        obtain ⟨X, hX⟩ : ∃ X, setL (l.take k) = X := ⟨_, rfl⟩
        rw [hX] at HC3 HR hsl HP ⊢
        clear hX hN
        go_wp2_with fail
        refine HC3.out.mono ?_; rintro e w2 ⟨rfl, rfl⟩
        go_wp2_with fail
        refine HP.out.mono ?_; rintro e w3 ⟨A3, c3, rfl, R3, hA3, hb3⟩
        have HR3 := Lib.hid R3
        have HA3 := Lib.hid hA3
        have hbw3 := hbw.trans (hb3.mono hbw.size)
        clear R3 hA3 hb3 HP HC3
        go_wp2
        go_roundw
        case rel => exact ⟨k + 1, A3, c3, by omega, by go_num, rfl, HR3.out, HA3.out, hbw3⟩
        case measure => simp [intOf]; omega
    · obtain rfl : k = l.length := by omega
      rw [List.take_length] at HR ⊢
      go_wp2
      go_ret
      exact ⟨B, c, rfl, HR.out, HB.out, hbw⟩
end Go.Proofs.Ytakhdlidikbnjaa
