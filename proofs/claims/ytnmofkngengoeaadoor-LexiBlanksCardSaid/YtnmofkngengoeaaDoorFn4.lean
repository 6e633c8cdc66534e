/- The specification's starts, Blank, row, among, value, Words, Signs of layer 29 (lexi), over the translation. -/
import Derived.Test.YtnmofkngengoeaaDoorFn3
namespace Go.Proofs.YtnmofkngengoeaaDoor
open Go.RowKit Go.PlainAid

def startsAt (s : ByteArray) (i : Nat) (t : ByteArray) : Bool := decide (i + t.size ≤ s.size) && eqB (s.extract i (i + t.size)) t
theorem starts_cut {s : ByteArray} {i : Nat} (h : i ≤ s.size) (t : ByteArray) : startsB (s.extract i s.size) t = startsAt s i t := by
  unfold startsB startsAt
  rw [cut_size]
  by_cases h2 : i + t.size ≤ s.size
  · rw [ByteArray.extract_extract]
    have e : decide (t.size ≤ s.size - i) = true := by simp; omega
    have e2 : min (i + t.size) s.size = i + t.size := by omega
    rw [e, decide_eq_true h2]
    first | rw [e2]; rfl | simp [e2]
  · have e : decide (t.size ≤ s.size - i) = false := by simp; omega
    rw [e, decide_eq_false h2]
    rfl
set_option maxHeartbeats 1000000 in
theorem rf_starts (s t : ByteArray) (i : Nat) (w : World) (hs : s.size ≤ 4000000000000000000) (ht : t.size ≤ 100) (hi : i ≤ s.size) :
    Calls Tryd.prog 35 #[.string s, .int .i64 (i : Int), .string t] w fun e w' => e = .returned (.bool (startsAt s i t)) ∧ w = w' := by
  unfold startsAt eqB
  obtain ⟨b, hb⟩ : ∃ b, ((s.extract i (i + t.size)).toList == t.toList) = b := ⟨_, rfl⟩
  rw [hb]
  by_cases h : i + t.size ≤ s.size
  · have h1 : (i : Int) + (t.size : Int) ≤ (s.size : Int) := by omega
    have hsl : ∀ w, (Instr.slice 9 (.string s) (some (.int .i64 (i : Int))) (some (.int .i64 ((i : Int) + (t.size : Int)))) none).run Tryd.prog w = .ok (.string (s.extract i (i + t.size))) w := fun w => by
      have h := run_slice_string (P := Tryd.prog) (w := w) 9 s .i64 .i64 (i : Int) ((i : Int) + (t.size : Int)) Tryd.underlying9 (by omega) (by omega) h1
      rw [h, show ((i : Int) + (t.size : Int)).toNat = i + t.size by omega]; rfl
    go_enter Tryd.func35, Tryd.ntmps35
    go_wp2
    go_ret
    exact ⟨by simp [h], rfl⟩
  · have h1 : ¬ (i : Int) + (t.size : Int) ≤ (s.size : Int) := by omega
    go_enter Tryd.func35, Tryd.ntmps35
    go_wp2
    go_ret
    exact ⟨by simp [h], rfl⟩
theorem startsAt_dd {s : ByteArray} {i : Nat} (h : i ≤ s.size) : startsAt s i ⟨#[45, 45]⟩ = ddQ s i := by
  rw [← starts_cut h]; exact starts_dd h
theorem span_in {p : Int → Bool} {s : ByteArray} : ∀ n i j, i + n = s.size → i ≤ j → j < span p s i → p (bt s j) = true := by
  intro n
  induction n with
  | zero => intro i j h h1 h2; rw [span_end (by omega)] at h2; omega
  | succ n ih =>
    intro i j h h1 h2
    cases hp : p (bt s i) with
    | true =>
      rw [span_step (by omega) hp] at h2
      rcases Nat.eq_or_lt_of_le h1 with rfl | c
      · exact hp
      · exact ih (i + 1) j (by omega) c h2
    | false => rw [span_stop hp] at h2; omega
set_option maxHeartbeats 2000000 in
theorem rf_row (s : ByteArray) (i : Nat) (d : Bool) (w : World) (hs : s.size ≤ 4000000000000000000) (hi : i ≤ s.size) :
    Calls Tryd.prog 30 #[.string s, .int .i64 (i : Int), .bool d] w fun e w' => e = .returned (.int .i64 (span (if d then digQ else namQ) s i : Nat)) ∧ w = w' := by
  have hb := get_bt s
  obtain ⟨m, hm⟩ : ∃ m, span (if d then digQ else namQ) s i = m := ⟨_, rfl⟩
  rw [hm]
  have HM := Lib.hid hm
  clear hm
  go_enter Tryd.func30, Tryd.ntmps30
  go_wp2
  go_loopw [1] (fun v wr => ∃ k : Nat, v = .int .i64 (k : Int) ∧ k ≤ s.size ∧ Hid (span (if d then digQ else namQ) s k = m) ∧ w = wr) (fun v _ => s.size - (intOf v).toNat)
  case atStart => exact ⟨i, rfl, hi, HM, rfl⟩
  case round =>
    obtain ⟨k, rfl, hk, HK, rfl⟩ := hrel
    by_cases hlt : k < s.size
    · have h1 : (k : Int) < (s.size : Int) := by omega
      have HD := Lib.hid (rf_digit (bt s k) w)
      have HL := Lib.hid (rf_letter (bt s k) w)
      obtain ⟨a1, ha1⟩ : ∃ a, digQ (bt s k) = a := ⟨_, rfl⟩
      obtain ⟨a2, ha2⟩ : ∃ a, letQ (bt s k) = a := ⟨_, rfl⟩
      obtain ⟨a3, ha3⟩ : ∃ a, (bt s k == 95) = a := ⟨_, rfl⟩
      obtain ⟨q, hq⟩ : ∃ q, (if d then digQ else namQ) (bt s k) = q := ⟨_, rfl⟩
      have hqq : q = (a1 || (!d && (a2 || a3))) := by
        rw [← hq]
        cases d
        · show namQ (bt s k) = _
          unfold namQ; rw [ha1, ha2, ha3]
          cases a1 <;> cases a2 <;> cases a3 <;> rfl
        · show digQ (bt s k) = _
          rw [ha1]; cases a1 <;> rfl
      rw [ha1] at HD
      rw [ha2] at HL
      have HST : Hid (q = true → span (if d then digQ else namQ) s (k + 1) = m) := Lib.hid (fun e => by rw [← HK.out, span_step hlt (by rw [hq]; exact e)])
      have HSP : Hid (q = false → k = m) := Lib.hid (fun e => by rw [← HK.out, span_stop (by rw [hq]; exact e)])
      clear ha1 ha2 hq HK
      cases a1 <;> cases d <;> cases a2 <;> cases a3
      all_goals
        first
        | (obtain rfl : q = true := hqq
           have HX := Lib.hid (HST.out rfl)
           clear HST HSP
           go_wp2_with (first | (go_at_call 32; with_reducible refine HD.out.mono ?_; rintro e w1 ⟨rfl, rfl⟩) | (go_at_call 29; with_reducible refine HL.out.mono ?_; rintro e w1 ⟨rfl, rfl⟩))
           go_roundw
           case rel => exact ⟨k + 1, by go_num, by omega, HX, by first | rfl | trivial⟩
           case measure => simp [intOf]; try omega)
        | (obtain rfl : q = false := hqq
           have HX := Lib.hid (HSP.out rfl)
           clear HST HSP
           go_wp2_with (first | (go_at_call 32; with_reducible refine HD.out.mono ?_; rintro e w1 ⟨rfl, rfl⟩) | (go_at_call 29; with_reducible refine HL.out.mono ?_; rintro e w1 ⟨rfl, rfl⟩))
           go_ret
           exact ⟨by rw [← HX.out]; rfl, rfl⟩)
    · obtain rfl : k = s.size := by omega
      have HX : Hid (m = s.size) := Lib.hid (by rw [← HK.out, span_end (Nat.le_refl _)])
      go_wp2
      go_ret
      exact ⟨by rw [HX.out]; rfl, rfl⟩
set_option maxHeartbeats 2000000 in
theorem rf_Blank (s : ByteArray) (i : Nat) (w : World) (hs : s.size ≤ 4000000000000000000) (hi : i ≤ s.size) :
    Calls Tryd.prog 21 #[.string s, .int .i64 (i : Int)] w fun e w' => e = .returned (.int .i64 (blankS s i : Nat)) ∧ w = w' := by
  have hb := get_bt s
  obtain ⟨m, hm⟩ : ∃ m, blankS s i = m := ⟨_, rfl⟩
  rw [hm]
  have HM := Lib.hid hm
  clear hm
  go_enter Tryd.func21, Tryd.ntmps21
  go_wp2
  go_loopw [1] (fun v wr => ∃ k : Nat, v = .int .i64 (k : Int) ∧ k ≤ s.size ∧ Hid (blankS s k = m) ∧ w = wr) (fun v _ => s.size - (intOf v).toNat)
  case atStart => exact ⟨i, rfl, hi, HM, rfl⟩
  case round =>
    obtain ⟨k, rfl, hk, HK, rfl⟩ := hrel
    by_cases hlt : k < s.size
    · have h1 : (k : Int) < (s.size : Int) := by omega
      have HS := rf_starts s ⟨#[45, 45]⟩ k w hs (by decide) hk
      rw [startsAt_dd hk] at HS
      cases hd : ddQ s k with
      | true =>
        rw [hd] at HS
        have HS := Lib.hid HS
        have HX : Hid (blankS s (span rmkQ s k) = m) := Lib.hid (by rw [← blank_rem hd]; exact HK.out)
        have hgt := (rmk_gt hd).1
        obtain ⟨j2, hj2⟩ : ∃ j, span rmkQ s k = j := ⟨_, rfl⟩
        rw [hj2] at HX hgt
        have H2 := Lib.hid hj2
        have hle : j2 ≤ s.size := by rw [← hj2]; exact span_le hk
        clear hj2 hd
        go_wp2_with (go_at_call 35; with_reducible refine HS.out.mono ?_; rintro e w1 ⟨rfl, rfl⟩)
        go_loopw [1] (fun v wr => ∃ j : Nat, v = .int .i64 (j : Int) ∧ j ≤ s.size ∧ k ≤ j ∧ Hid (span rmkQ s j = j2) ∧ w = wr) (fun v _ => s.size - (intOf v).toNat)
        case atStart => exact ⟨k, rfl, hk, Nat.le_refl _, H2, rfl⟩
        case round =>
          obtain ⟨j, rfl, hj, hkj, HJ, rfl⟩ := hrel
          by_cases hjl : j < s.size
          · have h1' : (j : Int) < (s.size : Int) := by omega
            cases hr : rmkQ (bt s j) with
            | true =>
              have hne : (bt s j != 10) = true := hr
              have HX2 : Hid (span rmkQ s (j + 1) = j2) := Lib.hid (by rw [← span_step hjl hr]; exact HJ.out)
              clear hr
              go_wp2
              go_roundw
              case rel => exact ⟨j + 1, by go_num, by omega, by omega, HX2, by first | rfl | trivial⟩
              case measure => simp [intOf]; try omega
            | false =>
              have hne : (bt s j != 10) = false := hr
              have e : j = j2 := by have h := HJ.out; rwa [span_stop hr] at h
              subst e
              clear hr
              go_wp2
              go_roundw
              case rel => exact ⟨j, rfl, by omega, HX, by first | rfl | trivial⟩
              case measure => simp [intOf]; try omega
          · have h1' : ¬ (j : Int) < (s.size : Int) := by omega
            have e : j = j2 := by have h := HJ.out; rwa [span_end (by omega)] at h
            subst e
            go_wp2
            go_roundw
            case rel => exact ⟨j, rfl, by omega, HX, by first | rfl | trivial⟩
            case measure => simp [intOf]; try omega
      | false =>
        rw [hd] at HS
        have HS := Lib.hid HS
        obtain ⟨a1, ha1⟩ : ∃ a, (bt s k != 32) = a := ⟨_, rfl⟩
        obtain ⟨a2, ha2⟩ : ∃ a, (bt s k != 9) = a := ⟨_, rfl⟩
        obtain ⟨a3, ha3⟩ : ∃ a, (bt s k != 10) = a := ⟨_, rfl⟩
        obtain ⟨a4, ha4⟩ : ∃ a, (bt s k != 13) = a := ⟨_, rfl⟩
        have hq : blkQ (bt s k) = !(a1 && a2 && a3 && a4) := by
          unfold blkQ
          rw [← ha1, ← ha2, ← ha3, ← ha4]
          simp only [bne]
          cases (bt s k == 32) <;> cases (bt s k == 9) <;> cases (bt s k == 10) <;> cases (bt s k == 13) <;> rfl
        obtain ⟨q, hqq⟩ : ∃ q, blkQ (bt s k) = q := ⟨_, rfl⟩
        rw [hqq] at hq
        have HST : Hid (q = true → blankS s (k + 1) = m) := Lib.hid (fun e => by rw [← blank_one hlt hd (by rw [hqq]; exact e)]; exact HK.out)
        have HSP : Hid (q = false → k = m) := Lib.hid (fun e => by rw [← HK.out, blank_stop hd (by rw [hqq]; exact e)])
        clear hqq hd HK
        cases a1 <;> cases a2 <;> cases a3 <;> cases a4
        all_goals
          first
          | (obtain rfl : q = true := hq
             have HX := Lib.hid (HST.out rfl)
             clear HST HSP
             go_wp2_with (go_at_call 35; with_reducible refine HS.out.mono ?_; rintro e w1 ⟨rfl, rfl⟩)
             go_roundw
             case rel => exact ⟨k + 1, by go_num, by omega, HX, by first | rfl | trivial⟩
             case measure => simp [intOf]; try omega)
          | (obtain rfl : q = false := hq
             have HX := Lib.hid (HSP.out rfl)
             clear HST HSP
             go_wp2_with (go_at_call 35; with_reducible refine HS.out.mono ?_; rintro e w1 ⟨rfl, rfl⟩)
             go_ret
             exact ⟨by rw [← HX.out]; rfl, rfl⟩)
    · obtain rfl : k = s.size := by omega
      have HX : Hid (m = s.size) := Lib.hid (by rw [← HK.out, blank_end (Nat.le_refl _)])
      go_wp2
      go_ret
      exact ⟨by rw [HX.out]; rfl, rfl⟩

/-- The list at A reads as the strings l. -/
def RS (w : World) (A : Option Addr) (l : List ByteArray) : Prop := ∃ b, A = some ⟨b, 0, none⟩ ∧ b < w.heap.size ∧ w.rangeAt b 0 (l.map Value.string)
theorem RS.at {w : World} {A : Option Addr} {l : List ByteArray} (h : RS w A l) : ∃ b, A = some ⟨b, 0, none⟩ ∧ ∀ k, k < l.length → w.cell? ⟨b, k, none⟩ = some (.string (l.getD k ByteArray.empty)) := by
  obtain ⟨b, rfl, _, hc⟩ := h
  refine ⟨b, rfl, fun k hk => ?_⟩
  have := hc k (.string (l.getD k ByteArray.empty)) (by simp [List.getElem?_map, List.getD, List.getElem?_eq_getElem hk])
  rwa [Nat.zero_add] at this
theorem RS.step {w w' : World} {A : Option Addr} {l : List ByteArray} (h : RS w A l) (hb : Below w.heap.size w w') : RS w' A l := by
  obtain ⟨b, rfl, h1, hc⟩ := h
  exact ⟨b, rfl, Nat.lt_of_lt_of_le h1 hb.size, fun j v hv => (hb.cell (p := ⟨b, 0 + j, none⟩) h1).trans (hc j v hv)⟩
theorem range_of_blk {w : World} {g : Nat} {t : TypeId} {cs : Array Value} (h : w.heap[g]? = some (.cells cs t (0, 0))) : w.rangeAt g 0 cs.toList := fun j v hv => by
  rw [cell_of_row w g (0 + j) cs t (0, 0) h, Nat.zero_add]
  simpa using hv
set_option maxRecDepth 100000 in
set_option maxHeartbeats 2000000 in
theorem rf_Words (w : World) : Calls Tryd.prog 20 #[] w fun e w' => ∃ A, e = .returned (.slice A 24 24) ∧ RS w' A words ∧ Below w.heap.size w w' := by
  go_enter Tryd.func20, Tryd.ntmps20
  go_wp2
  go_ret
  exact ⟨_, rfl, ⟨_, rfl, by simp, range_of_blk (heap_alloc_new w _)⟩, (Below.refl _ _).alloc (Nat.le_refl _) _⟩
set_option maxRecDepth 100000 in
set_option maxHeartbeats 2000000 in
theorem rf_Signs (w : World) : Calls Tryd.prog 34 #[] w fun e w' => ∃ A, e = .returned (.slice A 21 21) ∧ RS w' A signs ∧ Below w.heap.size w w' := by
  go_enter Tryd.func34, Tryd.ntmps34
  go_wp2
  go_ret
  exact ⟨_, rfl, ⟨_, rfl, by simp, range_of_blk (heap_alloc_new w _)⟩, (Below.refl _ _).alloc (Nat.le_refl _) _⟩
set_option maxHeartbeats 1000000 in
theorem rf_among (A : Option Addr) (x : ByteArray) (w : World) (h : RS w A words) : Calls Tryd.prog 31 #[.slice A 24 24, .string x] w fun e w' => e = .returned (.bool (wordQ x)) ∧ w = w' := by
  obtain ⟨b, rfl, hc⟩ := h.at
  have HC := Lib.hid hc
  clear hc h
  obtain ⟨q, hq⟩ : ∃ q, wordQ x = q := ⟨_, rfl⟩
  rw [hq]
  have HQ := Lib.hid hq
  clear hq
  go_enter Tryd.func31, Tryd.ntmps31
  go_wp2
  go_loopw [4, 5] (fun r i wr => ∃ k : Nat, r = .bool false ∧ k ≤ 24 ∧ i = .int .i64 (k : Int) ∧ Hid (∀ j, j < k → eqB x (words.getD j ByteArray.empty) = false) ∧ w = wr) (fun _ i _ => 24 - (intOf i).toNat)
  case atStart => exact ⟨0, rfl, Nat.zero_le _, rfl, Lib.hid (fun j hj => by omega), rfl⟩
  case round =>
    obtain ⟨k, rfl, hk, rfl, HK, rfl⟩ := hrel
    by_cases hlt : k < 24
    · have h1 : (k : Int) < 24 := by omega
      have hi := HC.out k (by rw [words_len]; exact hlt)
      obtain ⟨c, hb⟩ : ∃ c, ((words.getD k ByteArray.empty).toList == x.toList) = c := ⟨_, rfl⟩
      generalize hy : words.getD k ByteArray.empty = y at *
      have hb2 : eqB x y = c := by
        rw [← hb]; unfold eqB
        rw [Bool.eq_iff_iff]; simp only [beq_iff_eq]; exact eq_comm
      have HB2 := Lib.hid hb2
      clear hb2
      cases c
      · have HN : Hid (∀ j, j < k + 1 → eqB x (words.getD j ByteArray.empty) = false) := Lib.hid (fun j hj => by
          rcases Nat.lt_or_ge j k with c | c
          · exact HK.out j c
          · have e : j = k := by omega
            rw [e, hy]; exact HB2.out)
        clear hy
        go_wp2
        go_roundw
        case rel => exact ⟨k + 1, rfl, by omega, by go_num, HN, by first | rfl | trivial⟩
        case measure => simp [intOf]; try omega
      · have HX : Hid (q = true) := Lib.hid (by rw [← HQ.out]; exact any_yes (k := k) (by rw [words_len]; exact hlt) (by rw [hy]; exact HB2.out))
        clear hy
        go_wp2
        go_ret
        exact ⟨by rw [HX.out]; rfl, rfl⟩
    · have h1 : ¬ (k : Int) < 24 := by omega
      have HX : Hid (q = false) := Lib.hid (by rw [← HQ.out]; exact any_at (fun j hj => HK.out j (by rw [words_len] at hj; omega)))
      go_wp2
      go_ret
      exact ⟨by rw [HX.out]; rfl, rfl⟩
/-- The value of the digits of x, up to the first that makes it greater than 255. -/
def valL (x : ByteArray) : Nat → Nat → Int → Int
  | 0, _, n => n
  | k + 1, i, n => if n ≤ 255 then valL x k (i + 1) (10 * n + (bt x i - 48)) else n
def valS (x : ByteArray) : Int := valL x x.size 0 0
theorem valL_big {x : ByteArray} {n : Int} (h : 255 < n) (k i : Nat) : valL x k i n = n := by
  cases k with
  | zero => rfl
  | succ k => rw [valL, if_neg (by omega)]
set_option maxHeartbeats 1000000 in
theorem rf_value (x : ByteArray) (w : World) (hx : x.size ≤ 4000000000000000000) (hd : ∀ i, i < x.size → 48 ≤ bt x i ∧ bt x i ≤ 57) :
    Calls Tryd.prog 33 #[.string x] w fun e w' => e = .returned (.int .i64 (valS x)) ∧ w = w' := by
  have hb := get_bt x
  have HD := Lib.hid hd
  obtain ⟨v, hv⟩ : ∃ v, valS x = v := ⟨_, rfl⟩
  rw [hv]
  have HV := Lib.hid hv
  clear hv hd
  go_enter Tryd.func33, Tryd.ntmps33
  go_wp2
  go_loopw [3, 4] (fun n i wr => ∃ (k : Nat) (N : Int), n = .int .i64 N ∧ i = .int .i64 (k : Int) ∧ k ≤ x.size ∧ 0 ≤ N ∧ N ≤ 3000 ∧ Hid (valL x (x.size - k) k N = v) ∧ w = wr) (fun _ i _ => x.size - (intOf i).toNat)
  case atStart => exact ⟨0, 0, rfl, rfl, Nat.zero_le _, by omega, by omega, HV, rfl⟩
  case round =>
    obtain ⟨k, N, rfl, rfl, hk, hN0, hN1, HK, rfl⟩ := hrel
    by_cases hlt : k < x.size
    · have h1 : (k : Int) < (x.size : Int) := by omega
      by_cases hs : N ≤ 255
      · have hdk := HD.out k hlt
        have HN : Hid (valL x (x.size - (k + 1)) (k + 1) (10 * N + (bt x k - 48)) = v) := Lib.hid (by
          have h := HK.out
          rw [show x.size - k = (x.size - (k + 1)) + 1 by omega, valL, if_pos hs] at h
          exact h)
        go_wp2
        go_roundw
        case rel => exact ⟨k + 1, _, rfl, by go_num, by omega, by omega, by omega, HN, by first | rfl | trivial⟩
        case measure => simp [intOf]; try omega
      · have HX : Hid (v = N) := Lib.hid (by rw [← HK.out]; exact valL_big (by omega) _ _)
        go_wp2
        go_ret
        exact ⟨by rw [HX.out]; rfl, rfl⟩
    · have h1 : ¬ (k : Int) < (x.size : Int) := by omega
      have HX : Hid (v = N) := Lib.hid (by rw [← HK.out, show x.size - k = 0 by omega]; rfl)
      go_wp2
      go_ret
      exact ⟨by rw [HX.out]; rfl, rfl⟩
end Go.Proofs.YtnmofkngengoeaaDoor
