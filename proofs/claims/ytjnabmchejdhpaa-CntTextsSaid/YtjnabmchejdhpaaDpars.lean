/- Contract of the specification's Parse of layer 4 (cnt), over the translation. -/
import Derived.Test.YtjnabmchejdhpaaDcmp
namespace Go.Proofs.Ytjnabmchejdhpaa
open Go.RowKit Go.PlainAid

def digR (s : ByteArray) (k : Nat) : List Int := (List.range (s.size - k)).map fun i => bt s (s.size - 1 - i) - 48
theorem digR_end (s : ByteArray) : digR s s.size = [] := by unfold digR; rw [Nat.sub_self]; rfl
theorem digR_len (s : ByteArray) (k : Nat) : (digR s k).length = s.size - k := by unfold digR; simp
theorem digR_step {s : ByteArray} {k : Nat} (h : k < s.size) : digR s k = digR s (k + 1) ++ [bt s k - 48] := by
  unfold digR
  have e : s.size - k = (s.size - (k + 1)) + 1 := by omega
  rw [e, List.range_succ, List.map_append]
  have e2 : s.size - 1 - (s.size - (k + 1)) = k := by omega
  simp [e2]
theorem digR_val {s : ByteArray} : ∀ n k, k + n = s.size → valT (digR s k) + pwT n * valB s k = valB s s.size := by
  intro n
  induction n with
  | zero =>
    intro k h
    have : k = s.size := by omega
    subst this
    rw [digR_end]
    show 0 + 1 * _ = _
    omega
  | succ n ih =>
    intro k h
    rw [digR_step (by omega), val_snocT, digR_len, ← ih (k + 1) (by omega)]
    have e : s.size - (k + 1) = n := by omega
    rw [e, pwT_succ]
    show _ = valT (digR s (k + 1)) + pwT n * (valB s k * 10 + (bt s k - 48))
    rw [Int.mul_add, Int.mul_comm 10 (pwT n), Int.mul_assoc, Int.mul_comm (valB s k) 10]
    omega
theorem digR_dig {s : ByteArray} (h : DigTo s s.size) (k : Nat) : DigT (digR s k) := fun d hd => by
  unfold digR at hd
  rw [List.mem_map] at hd
  obtain ⟨i, hi, rfl⟩ := hd
  rw [List.mem_range] at hi
  have := h (s.size - 1 - i) (by omega)
  omega
theorem digR_all (s : ByteArray) : valT (digR s 0) = valB s s.size := by
  have := digR_val (s := s) s.size 0 (by omega)
  rw [← this]
  show _ = _ + pwT s.size * 0
  omega
set_option maxHeartbeats 4000000 in
theorem ref_Parse_long (s : ByteArray) (w : World) (hs : 2000 < s.size) :
    Calls Try.prog 26 #[.string s] w fun e w' => e = .returned (.tuple #[.slice none 0 0, .int .i64 4]) ∧ Below w.heap.size w w' := by
  have hs' : (2000 : Int) < (s.size : Int) := by omega
  go_enter Try.func26, Try.ntmps26
  go_wp2
  go_ret2
  exact ⟨rfl, Below.refl _ _⟩
set_option maxHeartbeats 4000000 in
theorem ref_Parse_zero (s : ByteArray) (w : World) (hs : s.size ≤ 2000) (hz : s.size = 0 ∨ (bt s 0 = 48 ∧ s.size ≠ 1)) :
    Calls Try.prog 26 #[.string s] w fun e w' => e = .returned (.tuple #[.slice none 0 0, .int .i64 3]) ∧ Below w.heap.size w w' := by
  have hs' : ¬ (2000 : Int) < (s.size : Int) := by omega
  rcases Nat.eq_zero_or_pos s.size with h0 | h0
  · have hl : s.toList = [] := List.eq_nil_of_length_eq_zero (by rw [size_len]; exact h0)
    have hl2 : s.toList.isEmpty = true := by rw [hl]; rfl
    go_enter Try.func26, Try.ntmps26
    go_wp2
    go_ret2
    exact ⟨rfl, Below.refl _ _⟩
  · have hz2 : bt s 0 = 48 ∧ s.size ≠ 1 := by
      rcases hz with h | h
      · omega
      · exact h
    have hb := get_bt s
    have hne1 : ¬ s.toList = [] := fun e => by have := size_len s; rw [e] at this; simp at this; omega
    have hne2 : s.toList.isEmpty = false := by
      cases h : s.toList with
      | nil => exact absurd h hne1
      | cons _ _ => rfl
    have hzb : (bt s 0 == 48) = true := by simp [hz2.1]
    have hzt : (s.toList == [48]) = false := by
      apply Bool.eq_false_iff.2; intro h2; exact hz2.2 ((is_zero s).1 (by simpa using h2)).1
    clear hz hz2
    go_enter Try.func26, Try.ntmps26
    go_wp2
    go_ret2
    exact ⟨rfl, Below.refl _ _⟩
/-- What Parse gives for a string whose first byte is in order. -/
def ParT (s : ByteArray) (w : World) (e : Ending) (w' : World) : Prop :=
  (DigTo s s.size ∧ ∃ v, e = .returned (.tuple #[v, .int .i64 0]) ∧ ResT w w' (valB s s.size) s.size (.returned v)) ∨
  (¬ DigTo s s.size ∧ e = .returned (.tuple #[.slice none 0 0, .int .i64 3]) ∧ Below w.heap.size w w')
set_option maxHeartbeats 8000000 in
theorem ref_Parse_some (s : ByteArray) (w : World) (hs : s.size ≤ 2000) (h0 : 0 < s.size) (hz0 : bt s 0 = 48 → s.size = 1) :
    Calls Try.prog 26 #[.string s] w fun e w' => ParT s w e w' := by
  obtain ⟨i0, hi0, hy0, hy1, hy2⟩ := info_parts info3
  have hb := get_bt s
  have hs' : ¬ (2000 : Int) < (s.size : Int) := by omega
  have hne1 : ¬ s.toList = [] := fun e => by have := size_len s; rw [e] at this; simp at this; omega
  have hne2 : s.toList.isEmpty = false := by
    cases h : s.toList with
    | nil => exact absurd h hne1
    | cons _ _ => rfl
  obtain ⟨z, hz, ht⟩ : ∃ z : Bool, (bt s 0 == 48) = z ∧ (s.toList == [48]) = z := by
    by_cases h : bt s 0 = 48
    · exact ⟨true, by simp [h], by rw [(is_zero s).2 ⟨hz0 h, h⟩]; rfl⟩
    · refine ⟨false, by simp [h], ?_⟩
      apply Bool.eq_false_iff.2; intro h2; exact h ((is_zero s).1 (by simpa using h2)).2
  clear hz0
  rcases z with _ | _
  all_goals
    go_enter Try.func26, Try.ntmps26
    go_wp2
    go_loopw [2, 3, 4, 5] (fun r2 r3 v i wr => ∃ (k : Nat) (o : List Int), r2 = .slice none 0 0 ∧ r3 = .int .i64 0 ∧ k ≤ s.size ∧ i = .int .i64 ((k : Int) - 1) ∧ o.length + k = s.size ∧ Hid (OwnT wr w.heap.size v o ∧ DigT o ∧ o = digR s k ∧ ∀ j, k ≤ j → j < s.size → 48 ≤ bt s j ∧ bt s j ≤ 57) ∧ Below w.heap.size w wr) (fun _ _ _ i _ => (intOf i + 1).toNat)
    case atStart => exact ⟨s.size, [], rfl, rfl, Nat.le_refl _, rfl, by simp, Lib.hid ⟨OwnT.nil _ _, DigT.nil, (digR_end s).symm, fun j h1 h2 => by omega⟩, Below.refl _ _⟩
    case round =>
      obtain ⟨k, o, rfl, rfl, hk, rfl, hol, HT, hbw⟩ := hrel
      have hsz := hbw.size
      obtain ⟨Ao, co, rfl, _, _, _, _⟩ := HT.out.1.len_cap
      rcases k with _ | k
      · have h00 : ¬ (0 : Int) ≤ ((0 : Nat) : Int) - 1 := by omega
        have HD : Hid (DigTo s s.size) := Lib.hid (fun i hi => HT.out.2.2.2 i (by omega) hi)
        have HX : Hid (valT o = valB s s.size) := Lib.hid (by rw [HT.out.2.2.1]; exact digR_all s)
        obtain ⟨A2, c3, e2, hN⟩ := HT.out.1.dn HT.out.2.1
        injection e2 with e3 e4 e5
        subst e3 e5
        have HC := Lib.hid (ref_cut Ao co o wr hN (by omega))
        clear e4 hN
        go_wp2_with (go_at_call 34; refine HC.out.mono ?_; rintro e w2 ⟨A4, c4, l4, rfl, hR⟩; have HR := Lib.hid hR; clear hR)
        go_ret2
        refine .inl ⟨HD.out, _, rfl, ?_⟩
        have hr : ResT wr w2 (valT o) o.length (.returned (.slice A4 l4.length c4)) := ⟨A4, c4, l4, rfl, HR.out⟩
        rw [HX.out] at hr
        exact hr.from hbw (by omega)
      · have ek : ((k + 1 : Nat) : Int) - 1 = (k : Int) := by omega
        rw [ek]
        have h1' : (k : Int) < (s.size : Int) := by omega
        have h0' : (0 : Int) ≤ (k : Int) := by omega
        by_cases hd : 48 ≤ bt s k ∧ bt s k ≤ 57
        · obtain ⟨hd1, hd2⟩ := hd
          have h48 : ¬ bt s k < 48 := by omega
          have h57 : ¬ 57 < bt s k := by omega
          have HST : Hid (DigT (o ++ [bt s k - 48]) ∧ o ++ [bt s k - 48] = digR s k ∧ ∀ j, k ≤ j → j < s.size → 48 ≤ bt s j ∧ bt s j ≤ 57) := Lib.hid ⟨HT.out.2.1.snoc (by omega) (by omega), by rw [digR_step (by omega), HT.out.2.2.1], fun j h1 h2 => by
            rcases Nat.eq_or_lt_of_le h1 with rfl | h
            · omega
            · exact HT.out.2.2.2 j h h2⟩
          have HPU : Hid (∀ v' w', World.ownsRow w' w.heap.size 3 1 v' (o.length + 1) (o.map (Value.int .i64) ++ [.int .i64 (bt s k - 48)]) → Hid (OwnT w' w.heap.size v' (o ++ [bt s k - 48]))) := Lib.hid (fun v' w' h => OwnT.push h)
          go_wp2_with (at_builtin; refine wpList_append_own _ rfl _ _ 27 rfl w.heap.size 3 i0 _ 1 8 Try.underlying27 hi0 hy0 hy1 hy2 rfl (by decide) _ _ _ rfl (World.ownsRow.alloc HT.out.1 _) ⟨wr.heap.size, 0, none⟩ 1 1 [.int .i64 (bt s k - 48)] rfl rfl (cell_one_new _ _ _) (by simp [Value.oneCell']) (max_ok (by omega)) (by omega) (by simp; omega) ?_; intro v2 w5 hown hgr _; have HP := HPU.out _ _ hown; have hbw5 : Below w.heap.size w w5 := HT.out.1.grow2 hbw hsz hgr; clear hown hgr)
          go_roundw
          case rel => exact ⟨k, _, rfl, rfl, by omega, rfl, by simp; omega, Lib.hid ⟨HP.out, HST.out⟩, hbw5⟩
          case measure => simp [intOf]
        · have HD : Hid (¬ DigTo s s.size) := Lib.hid (fun h => hd (h k (by omega)))
          by_cases h48 : bt s k < 48
          · clear hd
            go_wp2
            go_ret2
            exact .inr ⟨HD.out, rfl, hbw⟩
          · have h57 : 57 < bt s k := by omega
            clear hd
            go_wp2
            go_ret2
            exact .inr ⟨HD.out, rfl, hbw⟩
end Go.Proofs.Ytjnabmchejdhpaa
