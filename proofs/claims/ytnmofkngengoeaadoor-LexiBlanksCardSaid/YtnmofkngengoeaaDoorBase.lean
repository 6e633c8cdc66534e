/- Kinds of bytes; blocks; the lexer's small functions; layer 29 (lexi). -/
import Derived.Test.YtnmofkngengoeaaDoorRows
import Derived.WalkKit
import Derived.ProofKit
import Derived.OpenShut
import Derived.Handy
import Derived.Lib.Hide
import Derived.WalkLawsBesides
import Derived.PlainAid
import Derived.Laws.OwnMore
import Derived.Deep.Draws
import Derived.Laws.Rows
import Derived.Laws.BytesArg
import Derived.Laws.CopyOwn
import Derived.Maps.AppendAt
import Derived.OwnWalk
import Derived.Laws.AppendOwnNone
import Derived.Deep.LoopGhost
import Derived.Deep.MidRow
import Derived.IntWalk
import Derived.Shelf.Abstract
namespace Go.Proofs.YtnmofkngengoeaaDoor
open Go.RowKit Go.PlainAid

def blkQ (c : Int) : Bool := c == 32 || c == 9 || c == 10 || c == 13
def rmkQ (c : Int) : Bool := c != 10
def digQ (c : Int) : Bool := decide (48 ≤ c) && decide (c ≤ 57)
def letQ (c : Int) : Bool := (decide (97 ≤ c) && decide (c ≤ 122)) || (decide (65 ≤ c) && decide (c ≤ 90))
def namQ (c : Int) : Bool := letQ c || digQ c || c == 95

theorem lx_isBlank (c : Int) (w : World) : Calls Tryd.prog 39 #[.int .u8 c] w fun e w' => e = .returned (.bool (blkQ c)) ∧ w = w' := by
  unfold blkQ
  obtain ⟨a, ha⟩ : ∃ a, (c == 32) = a := ⟨_, rfl⟩
  obtain ⟨b, hb⟩ : ∃ a, (c == 9) = a := ⟨_, rfl⟩
  obtain ⟨d, hd⟩ : ∃ a, (c == 10) = a := ⟨_, rfl⟩
  rw [ha, hb, hd]
  cases a <;> cases b <;> cases d
  all_goals
    go_enter Tryd.func39, Tryd.ntmps39
    go_wp2
    go_ret
    exact ⟨rfl, rfl⟩
theorem lx_isRemark (c : Int) (w : World) : Calls Tryd.prog 41 #[.int .u8 c] w fun e w' => e = .returned (.bool (rmkQ c)) ∧ w = w' := by
  unfold rmkQ
  go_enter Tryd.func41, Tryd.ntmps41
  go_wp2
  go_ret
  exact ⟨rfl, rfl⟩
theorem lx_isDigit (c : Int) (w : World) : Calls Tryd.prog 24 #[.int .u8 c] w fun e w' => e = .returned (.bool (digQ c)) ∧ w = w' := by
  unfold digQ
  by_cases h1 : 48 ≤ c <;> by_cases h2 : c ≤ 57
  all_goals
    go_enter Tryd.func24, Tryd.ntmps24
    go_wp2
    go_ret
    exact ⟨by simp [h1, h2], rfl⟩
theorem lx_isLetter (c : Int) (w : World) : Calls Tryd.prog 26 #[.int .u8 c] w fun e w' => e = .returned (.bool (letQ c)) ∧ w = w' := by
  unfold letQ
  by_cases h1 : 97 ≤ c <;> by_cases h2 : c ≤ 122 <;> by_cases h3 : 65 ≤ c <;> by_cases h4 : c ≤ 90
  all_goals
    go_enter Tryd.func26, Tryd.ntmps26
    go_wp2
    go_ret
    exact ⟨by simp [h1, h2, h3, h4], rfl⟩
theorem rf_letter (c : Int) (w : World) : Calls Tryd.prog 29 #[.int .u8 c] w fun e w' => e = .returned (.bool (letQ c)) ∧ w = w' := by
  unfold letQ
  by_cases h1 : 97 ≤ c <;> by_cases h2 : c ≤ 122 <;> by_cases h3 : 65 ≤ c <;> by_cases h4 : c ≤ 90
  all_goals
    go_enter Tryd.func29, Tryd.ntmps29
    go_wp2
    go_ret
    exact ⟨by simp [h1, h2, h3, h4], rfl⟩
theorem rf_digit (c : Int) (w : World) : Calls Tryd.prog 32 #[.int .u8 c] w fun e w' => e = .returned (.bool (digQ c)) ∧ w = w' := by
  unfold digQ
  by_cases h1 : 48 ≤ c <;> by_cases h2 : c ≤ 57
  all_goals
    go_enter Tryd.func32, Tryd.ntmps32
    go_wp2
    go_ret
    exact ⟨by simp [h1, h2], rfl⟩
theorem lx_isInName (c : Int) (w : World) : Calls Tryd.prog 37 #[.int .u8 c] w fun e w' => e = .returned (.bool (namQ c)) ∧ w = w' := by
  unfold namQ
  have H1 := Lib.hid (lx_isLetter c w)
  have H2 := Lib.hid (lx_isDigit c w)
  generalize letQ c = a at *
  generalize digQ c = b at *
  cases a <;> cases b
  all_goals
    go_enter Tryd.func37, Tryd.ntmps37
    go_wp2_with (first | (go_at_call 26; with_reducible refine H1.out.mono ?_; rintro e w1 ⟨rfl, rfl⟩) | (go_at_call 24; with_reducible refine H2.out.mono ?_; rintro e w1 ⟨rfl, rfl⟩))
    go_ret
    exact ⟨rfl, rfl⟩

/-- The first place from i on whose byte is not of the kind p. -/
def spanL (p : Int → Bool) (s : ByteArray) : Nat → Nat → Nat
  | 0, i => i
  | n + 1, i => if p (bt s i) then spanL p s n (i + 1) else i
def span (p : Int → Bool) (s : ByteArray) (i : Nat) : Nat := spanL p s (s.size - i) i
theorem span_step {p : Int → Bool} {s : ByteArray} {i : Nat} (h : i < s.size) (hp : p (bt s i) = true) : span p s i = span p s (i + 1) := by
  unfold span
  have e : s.size - i = (s.size - (i + 1)) + 1 := by omega
  rw [e, spanL, if_pos hp]
theorem span_stop {p : Int → Bool} {s : ByteArray} {i : Nat} (hp : p (bt s i) = false) : span p s i = i := by
  unfold span
  cases h : s.size - i with
  | zero => rfl
  | succ n => rw [spanL, if_neg (by simp [hp])]
theorem span_end {p : Int → Bool} {s : ByteArray} {i : Nat} (h : s.size ≤ i) : span p s i = i := by
  unfold span
  rw [show s.size - i = 0 by omega]; rfl
theorem span_ge (p : Int → Bool) (s : ByteArray) (i : Nat) : i ≤ span p s i := by
  unfold span
  generalize s.size - i = n
  induction n generalizing i with
  | zero => exact Nat.le_refl _
  | succ n ih =>
    rw [spanL]; split
    · have := ih (i + 1); omega
    · exact Nat.le_refl _
theorem span_le {p : Int → Bool} {s : ByteArray} {i : Nat} (h : i ≤ s.size) : span p s i ≤ s.size := by
  unfold span
  obtain ⟨n, hn⟩ : ∃ n, s.size - i = n := ⟨_, rfl⟩
  rw [hn]
  have h2 : i + n = s.size := by omega
  clear hn h
  induction n generalizing i with
  | zero => rw [spanL]; omega
  | succ n ih =>
    rw [spanL]; split
    · exact ih (by omega)
    · omega

theorem bt_cut {s : ByteArray} {a i : Nat} (h : a + i < s.size) : bt (s.extract a s.size) i = bt s (a + i) := by
  unfold bt
  rw [dif_pos (by rw [ByteArray.size_extract]; omega), dif_pos h]
  simp [ByteArray.getElem_extract]
theorem span_cut {p : Int → Bool} {s : ByteArray} {a : Nat} (ha : a ≤ s.size) : ∀ i, a + i ≤ s.size → a + span p (s.extract a s.size) i = span p s (a + i) := by
  intro i hi
  obtain ⟨n, hn⟩ : ∃ n, s.size - (a + i) = n := ⟨_, rfl⟩
  induction n generalizing i with
  | zero =>
    rw [span_end (by rw [ByteArray.size_extract]; omega), span_end (by omega)]
  | succ n ih =>
    have hl : a + i < s.size := by omega
    cases hp : p (bt s (a + i)) with
    | true =>
      rw [span_step (i := i) (by rw [ByteArray.size_extract]; omega) (by rw [bt_cut hl]; exact hp), span_step hl hp]
      exact ih (i + 1) (by omega) (by omega)
    | false => rw [span_stop (i := i) (by rw [bt_cut hl]; exact hp), span_stop hp]

set_option maxHeartbeats 1000000 in
theorem lx_span (p : Int → Bool) (f : Nat) (s : ByteArray) (w : World) (hs : s.size ≤ 9223372036854775806) (hf4 : f = 39 ∨ f = 41 ∨ f = 24 ∨ f = 37) (hf : ∀ c w, Calls Tryd.prog f #[.int .u8 c] w fun e w' => e = .returned (.bool (p c)) ∧ w = w') :
    Calls Tryd.prog 36 #[.string s, .func (.func f) #[] #[]] w fun e w' => e = .returned (.int .i64 (span p s 0 : Nat)) ∧ w = w' := by
  have hb := get_bt s
  have HF := Lib.hid hf
  clear hf
  obtain ⟨m, hm⟩ : ∃ m, span p s 0 = m := ⟨_, rfl⟩
  rw [hm]
  have HM := Lib.hid hm
  clear hm
  rcases hf4 with rfl | rfl | rfl | rfl
  all_goals
    go_enter Tryd.func36, Tryd.ntmps36
    go_wp2
    go_loopw [4, 8] (fun r i wr => ∃ k : Nat, r = .int .i64 0 ∧ k ≤ s.size ∧ i = .int .i64 (k : Int) ∧ Hid (span p s k = m) ∧ w = wr) (fun _ i _ => s.size - (intOf i).toNat)
    case atStart => exact ⟨0, rfl, Nat.zero_le _, rfl, HM, rfl⟩
    case round =>
      obtain ⟨k, rfl, hk, rfl, HK, rfl⟩ := hrel
      by_cases hlt : k < s.size
      · have h1 : (k : Int) < (s.size : Int) := by omega
        have HC := Lib.hid (HF.out (bt s k) w)
        obtain ⟨q, hq⟩ : ∃ q, p (bt s k) = q := ⟨_, rfl⟩
        rw [hq] at HC
        cases q
        · have HX : Hid (m = k) := Lib.hid (by rw [← HK.out, span_stop hq])
          clear hq
          go_wp2_with ((first | go_at_call 39 | go_at_call 41 | go_at_call 24 | go_at_call 37); with_reducible refine HC.out.mono ?_; rintro e w1 ⟨rfl, rfl⟩)
          go_ret
          exact ⟨by rw [HX.out]; rfl, rfl⟩
        · have HX : Hid (span p s (k + 1) = m) := Lib.hid (by rw [← HK.out, span_step hlt hq])
          clear hq
          go_wp2_with ((first | go_at_call 39 | go_at_call 41 | go_at_call 24 | go_at_call 37); with_reducible refine HC.out.mono ?_; rintro e w1 ⟨rfl, rfl⟩)
          go_roundw
          case rel => exact ⟨k + 1, rfl, by omega, by go_num, HX, by first | rfl | trivial⟩
          case measure => simp [intOf]; try omega
      · obtain rfl : k = s.size := by omega
        have HX : Hid (m = s.size) := Lib.hid (by rw [← HK.out, span_end (Nat.le_refl _)])
        go_wp2
        go_ret
        exact ⟨by rw [HX.out]; rfl, rfl⟩
end Go.Proofs.YtnmofkngengoeaaDoor
