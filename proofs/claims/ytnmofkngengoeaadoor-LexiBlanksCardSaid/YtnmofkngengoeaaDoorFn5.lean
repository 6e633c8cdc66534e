/- Contracts of name, number and sign of layer 29 (lexi), over the translation. -/
import Derived.Test.YtnmofkngengoeaaDoorFn4
namespace Go.Proofs.YtnmofkngengoeaaDoor
open Go.RowKit Go.PlainAid

def tokV (k n : Int) (x : ByteArray) (a : Int) : Value := .agg #[.int .i64 k, .int .i64 n, .string x, .int .i64 a]
def emp : ByteArray := ⟨#[]⟩
theorem cut_to (s : ByteArray) (m e : Nat) (hm : m ≤ e) (he : e ≤ s.size) (w : World) :
    (Instr.slice 9 (.string (s.extract m s.size)) none (some (.int .i64 ((e : Int) - (m : Int)))) none).run Tryd.prog w = .ok (.string (s.extract m e)) w := by
  have h := run_slice_string_to_if (P := Tryd.prog) (w := w) 9 (s.extract m s.size) .i64 ((e : Int) - (m : Int)) Tryd.underlying9
  rw [h, if_pos (by rw [cut_size]; omega)]
  have e1 : ((e : Int) - (m : Int)).toNat = e - m := by omega
  rw [e1, ByteArray.extract_extract]
  have e2 : min (m + (e - m)) s.size = e := by omega
  simp [e2]
theorem part_size {s : ByteArray} {m e : Nat} (he : e ≤ s.size) : (s.extract m e).size = e - m := by rw [ByteArray.size_extract]; omega
set_option maxHeartbeats 2000000 in
theorem lx_name (s : ByteArray) (m e : Nat) (w : World) (hG : Glob w) (hs : s.size ≤ 4000000000000000000) (hm : m ≤ s.size) (he : span namQ s m = e) :
    Calls Tryd.prog 27 #[.string (s.extract m s.size)] w fun en w' => en = .returned (if 24 < e - m then .tuple #[tokV 0 0 emp 0, .int .i64 4] else if wordQ (s.extract m e) then .tuple #[tokV 3 0 (s.extract m e) 0, .int .i64 0] else .tuple #[tokV 2 0 (s.extract m e) 0, .int .i64 0]) ∧ Below w.heap.size w w' := by
  have h1 : m ≤ e := by rw [← he]; exact span_ge _ _ _
  have h2 : e ≤ s.size := by rw [← he]; exact span_le hm
  have hsl := cut_to s m e h1 h2
  have HC := Lib.hid (fun w => lx_span_at namQ 37 s m e w (by omega) hm he (.inr (.inr (.inr rfl))) lx_isInName)
  have hps := part_size (m := m) h2
  have HW : Hid (∀ w', Glob w' → Calls Tryd.prog 38 #[.string (s.extract m e)] w' fun en w2 => en = .returned (.bool (wordQ (s.extract m e))) ∧ w' = w2) := Lib.hid (fun w' h => lx_isWord _ w' h)
  have HG := Lib.hid hG
  generalize s.extract m e = x at *
  clear he hG
  have hlen : (x.size : Int) = (e : Int) - (m : Int) := by omega
  by_cases c1 : 24 < e - m
  · have c1' : (24 : Int) < (x.size : Int) := by omega
    rw [if_pos c1]
    go_enter Tryd.func27, Tryd.ntmps27
    go_wp2_with (go_at_call 36; refine (HC.out _).mono ?_; rintro e w1 ⟨rfl, rfl⟩)
    go_returns
    exact ⟨rfl, by first | exact (Below.refl _ _).alloc (Nat.le_refl _) _ | go_grown⟩
  · have c1' : ¬ (24 : Int) < (x.size : Int) := by omega
    rw [if_neg c1]
    have HW2 : Hid (∀ o, Calls Tryd.prog 38 #[.string x] (w.alloc o) fun en w2 => en = .returned (.bool (wordQ x)) ∧ w.alloc o = w2) := Lib.hid (fun o => HW.out _ (HG.out.step ((Below.refl _ _).alloc (Nat.le_refl _) _)))
    clear HW
    obtain ⟨q, hq⟩ : ∃ q, wordQ x = q := ⟨_, rfl⟩
    rw [hq] at HW2 ⊢
    clear hq
    cases q
    all_goals
      go_enter Tryd.func27, Tryd.ntmps27
      go_wp2_with (first | (go_at_call 36; refine (HC.out _).mono ?_; rintro e w1 ⟨rfl, rfl⟩) | (go_at_call 38; refine (HW2.out _).mono ?_; rintro e w1 ⟨rfl, rfl⟩))
      go_returns
      exact ⟨rfl, by first | exact (Below.refl _ _).alloc (Nat.le_refl _) _ | go_grown⟩
theorem dig_part {s : ByteArray} {m e : Nat} (hm : m ≤ s.size) (he : span digQ s m = e) : ∀ i, i < (s.extract m e).size → 48 ≤ bt (s.extract m e) i ∧ bt (s.extract m e) i ≤ 57 := fun i hi => by
  have h2 : e ≤ s.size := by rw [← he]; exact span_le hm
  rw [part_size h2] at hi
  rw [bt_part (by omega) h2]
  have h := span_in (p := digQ) (s := s) (s.size - m) m (m + i) (by omega) (by omega) (by rw [he]; omega)
  unfold digQ at h
  simpa using h
set_option maxHeartbeats 4000000 in
theorem lx_number (s : ByteArray) (m e : Nat) (w : World) (hs : s.size ≤ 4000000000000000000) (hm : m ≤ s.size) (he : span digQ s m = e) (hme : m < e) :
    Calls Tryd.prog 25 #[.string (s.extract m s.size)] w fun en w' => en = .returned (if 1 < e - m ∧ bt s m = 48 then .tuple #[tokV 0 0 emp 0, .int .i64 15] else if 255 < valS (s.extract m e) then .tuple #[tokV 0 0 emp 0, .int .i64 2] else .tuple #[tokV 1 (valS (s.extract m e)) (s.extract m e) 0, .int .i64 0]) ∧ Below w.heap.size w w' := by
  have h2 : e ≤ s.size := by rw [← he]; exact span_le hm
  have hsl := cut_to s m e (by omega) h2
  have HC := Lib.hid (fun w => lx_span_at digQ 24 s m e w (by omega) hm he (.inr (.inr (.inl rfl))) lx_isDigit)
  have hps := part_size (m := m) h2
  have HD := Lib.hid (dig_part hm he)
  have hb0 : bt (s.extract m e) 0 = bt s m := by rw [bt_part (by omega) h2, Nat.add_zero]
  generalize s.extract m e = x at *
  have hb := get_bt x
  have hx0 : 0 < x.size := by omega
  have hlen : (x.size : Int) = (e : Int) - (m : Int) := by omega
  rw [← hb0]
  clear he hb0
  by_cases c1 : 1 < e - m ∧ bt x 0 = 48
  · have c1' : (1 : Int) < (x.size : Int) := by omega
    have c2 : (bt x 0 == 48) = true := by simp [c1.2]
    rw [if_pos c1]
    go_enter Tryd.func25, Tryd.ntmps25
    go_wp2_with (go_at_call 36; refine (HC.out _).mono ?_; rintro e w1 ⟨rfl, rfl⟩)
    go_returns
    exact ⟨rfl, by first | exact (Below.refl _ _).alloc (Nat.le_refl _) _ | go_grown⟩
  · rw [if_neg c1]
    obtain ⟨v, hv⟩ : ∃ v, valS x = v := ⟨_, rfl⟩
    rw [hv]
    have HV := Lib.hid hv
    clear hv
    obtain ⟨ans, hans⟩ : ∃ a, (if 255 < v then Value.tuple #[tokV 0 0 emp 0, .int .i64 2] else .tuple #[tokV 1 v x 0, .int .i64 0]) = a := ⟨_, rfl⟩
    rw [hans]
    have HANS := Lib.hid hans
    clear hans
    obtain ⟨q, hq⟩ : ∃ q, (bt x 0 == 48) = q := ⟨_, rfl⟩
    obtain ⟨r, hr, hqr⟩ : ∃ r, decide ((1 : Int) < (x.size : Int)) = r ∧ (q = false ∨ r = false) := by
      refine ⟨_, rfl, ?_⟩
      by_cases h : 1 < e - m
      · left; rw [← hq]; simp; exact fun h0 => c1 ⟨h, h0⟩
      · right; simp; omega
    clear c1
    cases q <;> cases r
    all_goals
      first
      | (simp at hqr; done)
      | (clear hqr
         first | (have hr2 := of_decide_eq_false hr) | (have hr2 := of_decide_eq_true hr)
         go_enter Tryd.func25, Tryd.ntmps25
         go_wp2_with (go_at_call 36; refine (HC.out _).mono ?_; rintro e w1 ⟨rfl, rfl⟩)
         go_loopw [5, 22] (fun n i wr => ∃ (k : Nat) (N : Int), n = .int .i64 N ∧ i = .int .i64 (k : Int) ∧ k ≤ x.size ∧ 0 ≤ N ∧ N ≤ 255 ∧ Hid (valL x (x.size - k) k N = v) ∧ w.alloc (.cells #[.int .i64 0, .int .i64 0, .string { data := #[] }, .int .i64 0] 24) = wr) (fun _ i _ => x.size - (intOf i).toNat)
         case atStart => exact ⟨0, 0, rfl, rfl, Nat.zero_le _, by omega, by omega, HV, rfl⟩
         case round =>
           obtain ⟨k, N, rfl, rfl, hk, hN0, hN1, HK, rfl⟩ := hrel
           by_cases hlt : k < x.size
           · have h1 : (k : Int) < (x.size : Int) := by omega
             have hdk := HD.out k hlt
             have HN : Hid (valL x (x.size - (k + 1)) (k + 1) (10 * N + (bt x k - 48)) = v) := Lib.hid (by
               have h := HK.out
               rw [show x.size - k = (x.size - (k + 1)) + 1 by omega, valL, if_pos hN1] at h
               exact h)
             have ecm : N * 10 + (bt x k - 48) = 10 * N + (bt x k - 48) := by omega
             have HE := Lib.hid ecm
             clear ecm
             by_cases hbig : N * 10 + (bt x k - 48) > 255
             · have HX : Hid (255 < v) := Lib.hid (by rw [← HN.out, valL_big (by omega)]; omega)
               have hbig' : (255 : Int) < N * 10 + (bt x k - 48) := hbig
               go_wp2
               go_returns
               exact ⟨by rw [← HANS.out, if_pos HX.out]; rfl, by first | exact (Below.refl _ _).alloc (Nat.le_refl _) _ | go_grown⟩
             · have hbig' : ¬ (255 : Int) < N * 10 + (bt x k - 48) := hbig
               have HN2 : Hid (valL x (x.size - (k + 1)) (k + 1) (N * 10 + (bt x k - 48)) = v) := Lib.hid (by rw [HE.out]; exact HN.out)
               go_wp2
               go_roundw
               case rel => exact ⟨k + 1, _, rfl, by go_num, by omega, by omega, by omega, HN2, by first | rfl | trivial⟩
               case measure => simp [intOf]; try omega
           · have h1 : ¬ (k : Int) < (x.size : Int) := by omega
             have HX : Hid (v = N) := Lib.hid (by rw [← HK.out, show x.size - k = 0 by omega]; rfl)
             have hN255 : Hid (¬ 255 < v) := Lib.hid (by rw [HX.out]; omega)
             go_wp2
             go_returns
             exact ⟨by rw [← HANS.out, if_neg (show ¬ 255 < v by have := hN255.out; omega), HX.out]; rfl, by first | exact (Below.refl _ _).alloc (Nat.le_refl _) _ | go_grown⟩)
/-- The first operator with which s begins at m. -/
def sgnS (s : ByteArray) (m : Nat) : Option Nat := (List.range 21).find? fun j => startsAt s m (signs.getD j ByteArray.empty)
theorem sgn_some {s : ByteArray} {m k : Nat} (hk : k < 21) (h : startsAt s m (signs.getD k ByteArray.empty) = true) (hn : ∀ j, j < k → startsAt s m (signs.getD j ByteArray.empty) = false) : sgnS s m = some k := by
  unfold sgnS
  rw [List.find?_eq_some_iff_getElem]
  refine ⟨h, k, by simpa using hk, by simp, fun j hj => ?_⟩
  simp only [List.getElem_range]
  simpa using hn j hj
theorem sgn_none {s : ByteArray} {m : Nat} (hn : ∀ j, j < 21 → startsAt s m (signs.getD j ByteArray.empty) = false) : sgnS s m = none := by
  unfold sgnS
  rw [List.find?_eq_none]
  intro j hj
  rw [List.mem_range] at hj
  simpa using hn j hj
def signA (s : ByteArray) (m : Nat) : Value := match sgnS s m with
  | some k => .tuple #[tokV 4 0 (signs.getD k ByteArray.empty) 0, .int .i64 0]
  | none => .tuple #[tokV 0 0 emp 0, .int .i64 15]
set_option maxHeartbeats 2000000 in
theorem lx_sign (s : ByteArray) (m : Nat) (w : World) (hG : Glob w) (hm : m ≤ s.size) :
    Calls Tryd.prog 28 #[.string (s.extract m s.size)] w fun en w' => en = .returned (signA s m) ∧ Below w.heap.size w w' := by
  obtain ⟨Z, hZ⟩ : ∃ Z, signs.map Value.string = Z := ⟨_, rfl⟩
  have hix := fun k hk w => index_signs k hk w
  have hG2 := hG.step ((Below.refl _ w).alloc (Nat.le_refl _) (.cells #[.int .i64 0, .int .i64 0, .string { data := #[] }, .int .i64 0] 24))
  have hws := hG2.ss
  have hsz : (Tryd.prog.info? 58).map (·.size) = some (signs.map Value.string).length := by kernel_rfl
  rw [hZ] at hix hws hsz
  have HIX := Lib.hid hix
  have HWS := Lib.hid hws
  have HSZ := Lib.hid hsz
  have HP : Hid (∀ k w, Calls Tryd.prog 40 #[.string (s.extract m s.size), .string (signs.getD k ByteArray.empty)] w fun e w' => e = .returned (.bool (startsAt s m (signs.getD k ByteArray.empty))) ∧ w = w') := Lib.hid (fun k w => by
    have h := lx_Prefix (s.extract m s.size) (signs.getD k ByteArray.empty) w
    rwa [starts_cut hm] at h)
  clear hix hws hsz hZ hG2
  obtain ⟨ans, hans⟩ : ∃ a, signA s m = a := ⟨_, rfl⟩
  rw [hans]
  have HANS := Lib.hid hans
  clear hans
  go_enter Tryd.func28, Tryd.ntmps28
  go_wp2_with (refine wpList_load_mid rfl 58 (.global 1) rfl 1 0 rfl Z _ HWS.out Tryd.underlying58 rfl HSZ.out ?_)
  go_loopw [3, 7] (fun r i wr => ∃ k : Nat, r = .int .i64 0 ∧ k ≤ 21 ∧ i = .int .i64 (k : Int) ∧ Hid (∀ j, j < k → startsAt s m (signs.getD j ByteArray.empty) = false) ∧ w.alloc (.cells #[.int .i64 0, .int .i64 0, .string { data := #[] }, .int .i64 0] 24) = wr) (fun _ i _ => 21 - (intOf i).toNat)
  case atStart => exact ⟨0, rfl, Nat.zero_le _, rfl, Lib.hid (fun j hj => by omega), rfl⟩
  case round =>
    obtain ⟨k, rfl, hk, rfl, HK, rfl⟩ := hrel
    by_cases hlt : k < 21
    · have h1 : (k : Int) < 21 := by omega
      have hi := fun w => HIX.out k hlt w
      have HPk := Lib.hid (HP.out k)
      obtain ⟨b, hb⟩ : ∃ b, startsAt s m (signs.getD k ByteArray.empty) = b := ⟨_, rfl⟩
      rw [hb] at HPk
      generalize hy : signs.getD k ByteArray.empty = y at *
      cases b
      · have HN : Hid (∀ j, j < k + 1 → startsAt s m (signs.getD j ByteArray.empty) = false) := Lib.hid (fun j hj => by
          rcases Nat.lt_or_ge j k with c | c
          · exact HK.out j c
          · have e : j = k := by omega
            rw [e, hy]; exact hb)
        clear hy hb
        go_wp2_with (go_at_call 40; refine (HPk.out _).mono ?_; rintro e w1 ⟨rfl, rfl⟩)
        go_roundw
        case rel => exact ⟨k + 1, rfl, by omega, by go_num, HN, by first | rfl | trivial⟩
        case measure => simp [intOf]; try omega
      · have HX : Hid (ans = .tuple #[tokV 4 0 y 0, .int .i64 0]) := Lib.hid (by
          rw [← HANS.out]; unfold signA; rw [sgn_some hlt (by rw [hy]; exact hb) HK.out]
          show Value.tuple #[tokV 4 0 (signs.getD k ByteArray.empty) 0, .int .i64 0] = _
          rw [hy])
        clear hy hb
        go_wp2_with (go_at_call 40; refine (HPk.out _).mono ?_; rintro e w1 ⟨rfl, rfl⟩)
        go_returns
        exact ⟨by rw [HX.out]; rfl, by first | exact (Below.refl _ _).alloc (Nat.le_refl _) _ | go_grown⟩
    · have h1 : ¬ (k : Int) < 21 := by omega
      have HX : Hid (ans = .tuple #[tokV 0 0 emp 0, .int .i64 15]) := Lib.hid (by
        rw [← HANS.out]; unfold signA; rw [sgn_none (fun j hj => HK.out j (by omega))])
      go_wp2
      go_returns
      exact ⟨by rw [HX.out]; rfl, by first | exact (Below.refl _ _).alloc (Nat.le_refl _) _ | go_grown⟩
end Go.Proofs.YtnmofkngengoeaaDoor
