/- Contracts of the functions of layer 8 (edge) and of its specification, over the translation: what each returns, for edges from 0 on. -/
import Derived.Test.YtkbjmbgjechonaaRows
import Derived.WalkKit
import Derived.ProofKit
import Derived.OpenShut
import Derived.Handy
import Derived.Lib.Hide
namespace Go.Proofs.Ytkbjmbgjechonaa
open Go.RowKit

def notF (e : Int) : Int := if e % 2 = 0 then e + 1 else e - 1
def negF (e : Int) : Bool := decide (0 < e) && decide (e % 2 = 1)
def nodeF (e : Int) : Int := if e < 0 then 0 else e / 2
def flipF (e : Int) (y : Bool) : Int := if y = true then notF e else e
def ofF (n : Int) (y : Bool) : Int := if y = true then 2 * max n 0 + 1 else 2 * max n 0
def constF (e : Int) : Bool := decide (e = 0) || decide (e = 1)
def normF (lo hi : Int) : Int × Int × Bool := if negF hi = true then (notF lo, notF hi, true) else (lo, hi, false)
def meetF (f g : Int) : Int × Bool :=
  if f = 1 ∨ g = 1 ∨ f = notF g then (1, true) else if f = 0 then (g, true) else if g = 0 ∨ f = g then (f, true) else (0, false)

theorem xor_one_nat (n : Nat) : n ^^^ 1 = if n % 2 = 0 then n + 1 else n - 1 := by
  have h1 : (n ^^^ 1) / 2 = n / 2 := by rw [Nat.xor_div_two]; simp
  have h2 : (n ^^^ 1) % 2 = (n + 1) % 2 := by
    have := Nat.testBit_xor n 1 0
    rw [Nat.testBit_zero, Nat.testBit_zero, Nat.testBit_zero] at this
    have h3 := Nat.mod_two_eq_zero_or_one n
    have h4 := Nat.mod_two_eq_zero_or_one (n ^^^ 1)
    rcases h3 with h3 | h3 <;> rcases h4 with h4 | h4 <;> simp [h3, h4] at this <;> omega
  split <;> omega

theorem xor_one (e : Int) (h0 : 0 ≤ e) (h1 : e < 4611686018427387904) : bits .xor .i64 e 1 = notF e := by
  obtain ⟨n, rfl⟩ := Int.eq_ofNat_of_zero_le h0
  have a1 : (BitVec.ofInt 64 (n : Int)).toNat = n := by
    rw [BitVec.ofInt_natCast, BitVec.toNat_ofNat]; exact Nat.mod_eq_of_lt (by omega)
  have a2 : (BitVec.ofInt 64 (1 : Int)).toNat = 1 := by decide
  show IntKind.i64.wrap ((BitVec.ofInt 64 (n : Int) ^^^ BitVec.ofInt 64 1).toNat : Int) = _
  rw [BitVec.toNat_xor, a1, a2, xor_one_nat, IntKind.wrap_i64]
  unfold notF
  split <;> split <;> omega

theorem ret_i {k : IntKind} {a b : Int} (h : a = b) : Ending.returned (.int k a) = .returned (.int k b) := by rw [h]
theorem ret_b {a b : Bool} (h : a = b) : Ending.returned (.bool a) = .returned (.bool b) := by rw [h]

theorem edge_Node (e : Int) (w : World) (h1 : -9223372036854775808 ≤ e) (h2 : e ≤ 9223372036854775807) :
    Calls Try.prog 11 #[.int .i64 e] w fun r w' => r = .returned (.int .i64 (nodeF e)) ∧ w = w' := by
  go_enter Try.func11, Try.ntmps11
  go_wp2
  all_goals
    go_ret
    exact ⟨ret_i (by unfold nodeF; split <;> omega), rfl⟩
theorem ref_Node (e : Int) (w : World) (h1 : -9223372036854775808 ≤ e) (h2 : e ≤ 9223372036854775807) :
    Calls Try.prog 12 #[.int .i64 e] w fun r w' => r = .returned (.int .i64 (nodeF e)) ∧ w = w' := by
  go_enter Try.func12, Try.ntmps12
  go_wp2
  all_goals
    go_ret
    exact ⟨ret_i (by unfold nodeF; split <;> omega), rfl⟩

theorem edge_Neg (e : Int) (w : World) (h1 : -9223372036854775808 ≤ e) (h2 : e ≤ 9223372036854775807) :
    Calls Try.prog 13 #[.int .i64 e] w fun r w' => r = .returned (.bool (negF e)) ∧ w = w' := by
  go_enter Try.func13, Try.ntmps13
  go_wp2
  all_goals
    go_ret
    exact ⟨ret_b (by unfold negF; apply Bool.eq_iff_iff.2; simp; omega), rfl⟩
theorem ref_Neg (e : Int) (w : World) (h1 : -9223372036854775808 ≤ e) (h2 : e ≤ 9223372036854775807) :
    Calls Try.prog 14 #[.int .i64 e] w fun r w' => r = .returned (.bool (negF e)) ∧ w = w' := by
  go_enter Try.func14, Try.ntmps14
  go_wp2
  all_goals
    go_ret
    exact ⟨ret_b (by unfold negF; apply Bool.eq_iff_iff.2; simp; omega), rfl⟩

theorem edge_Not (e : Int) (w : World) (h1 : 0 ≤ e) (h2 : e ≤ 1152921504606846976) :
    Calls Try.prog 15 #[.int .i64 e] w fun r w' => r = .returned (.int .i64 (notF e)) ∧ w = w' := by
  have hx := xor_one e h1 (by omega)
  go_enter Try.func15, Try.ntmps15
  go_wp2
  go_ret
  exact ⟨rfl, rfl⟩

theorem ref_Of (n : Int) (y : Bool) (w : World) (h1 : -9223372036854775808 ≤ n) (h2 : n ≤ 1152921504606846976) :
    Calls Try.prog 10 #[.int .i64 n, .bool y] w fun r w' => r = .returned (.int .i64 (ofF n y)) ∧ w = w' := by
  cases y
  all_goals
    by_cases h : n < 0
    all_goals
      go_enter Try.func10, Try.ntmps10
      go_wp2
      go_ret
      exact ⟨ret_i (by unfold ofF; simp; omega), rfl⟩

theorem ref_Not (e : Int) (w : World) (h1 : 0 ≤ e) (h2 : e ≤ 1152921504606846976) :
    Calls Try.prog 16 #[.int .i64 e] w fun r w' => r = .returned (.int .i64 (notF e)) ∧ w = w' := by
  have hn : nodeF e = e / 2 := by unfold nodeF; rw [if_neg (by omega)]
  have hf : ofF (nodeF e) (!negF e) = notF e := by
    rw [hn]; unfold ofF negF notF
    have : max (e / 2) 0 = e / 2 := by omega
    rw [this]
    by_cases h : e % 2 = 0
    · simp [h]; omega
    · have : e % 2 = 1 := by omega
      simp [this]; omega
  have hf := Lib.hid hf
  have hb : 0 ≤ nodeF e ∧ nodeF e ≤ 1152921504606846976 := by rw [hn]; omega
  obtain ⟨hb1, hb2⟩ := hb
  clear hn
  go_enter Try.func16, Try.ntmps16
  go_wp2_with (first
    | (go_at_call 12; refine (ref_Node _ _ (by omega) (by omega)).mono ?_; rintro e w' ⟨rfl, rfl⟩)
    | (go_at_call 14; refine (ref_Neg _ _ (by omega) (by omega)).mono ?_; rintro e w' ⟨rfl, rfl⟩)
    | (go_at_call 10; refine (ref_Of _ _ _ (by omega) (by omega)).mono ?_; rintro e w' ⟨rfl, rfl⟩))
  go_ret
  exact ⟨rfl, rfl⟩

theorem edge_Flip (e : Int) (y : Bool) (w : World) (h1 : 0 ≤ e) (h2 : e ≤ 1152921504606846976) :
    Calls Try.prog 17 #[.int .i64 e, .bool y] w fun r w' => r = .returned (.int .i64 (flipF e y)) ∧ w = w' := by
  cases y
  all_goals
    go_enter Try.func17, Try.ntmps17
    go_wp2_with (first
      | (go_at_call 15; refine (edge_Not _ _ (by omega) (by omega)).mono ?_; rintro e w' ⟨rfl, rfl⟩))
    go_ret
    exact ⟨ret_i (by unfold flipF; simp), rfl⟩
theorem ref_Flip (e : Int) (y : Bool) (w : World) (h1 : 0 ≤ e) (h2 : e ≤ 1152921504606846976) :
    Calls Try.prog 18 #[.int .i64 e, .bool y] w fun r w' => r = .returned (.int .i64 (flipF e y)) ∧ w = w' := by
  cases y
  all_goals
    go_enter Try.func18, Try.ntmps18
    go_wp2_with (first
      | (go_at_call 16; refine (ref_Not _ _ (by omega) (by omega)).mono ?_; rintro e w' ⟨rfl, rfl⟩))
    go_ret
    exact ⟨ret_i (by unfold flipF; simp), rfl⟩

theorem edge_Of (n : Int) (y : Bool) (w : World) (h1 : -9223372036854775808 ≤ n) (h2 : n ≤ 576460752303423488) :
    Calls Try.prog 9 #[.int .i64 n, .bool y] w fun r w' => r = .returned (.int .i64 (ofF n y)) ∧ w = w' := by
  go_enter Try.func9, Try.ntmps9
  go_wp2_with (first
    | (go_at_call 17; refine (edge_Flip _ _ _ (by omega) (by omega)).mono ?_; rintro e w' ⟨rfl, rfl⟩))
  all_goals
    go_ret
    exact ⟨ret_i (by unfold flipF ofF notF; cases y <;> simp <;> omega), rfl⟩

theorem edge_Const (e : Int) (w : World) :
    Calls Try.prog 19 #[.int .i64 e] w fun r w' => r = .returned (.bool (constF e)) ∧ w = w' := by
  by_cases h : e = 0
  · subst h
    go_enter Try.func19, Try.ntmps19
    go_wp2
    go_ret
    exact ⟨rfl, rfl⟩
  · have hb : (e == 0) = false := by simp [h]
    go_enter Try.func19, Try.ntmps19
    go_wp2
    go_ret
    exact ⟨ret_b (by unfold constF; apply Bool.eq_iff_iff.2; simp [h]), rfl⟩

theorem edge_Norm (lo hi : Int) (w : World) (h1 : 0 ≤ lo) (h2 : lo ≤ 1152921504606846976) (h3 : 0 ≤ hi) (h4 : hi ≤ 1152921504606846976) :
    Calls Try.prog 20 #[.int .i64 lo, .int .i64 hi] w fun r w' => r = .returned (.tuple #[.int .i64 (normF lo hi).1, .int .i64 (normF lo hi).2.1, .bool (normF lo hi).2.2]) ∧ w = w' := by
  by_cases h : negF hi = true
  · have e1 : normF lo hi = (notF lo, notF hi, true) := by unfold normF; rw [if_pos h]
    rw [e1]
    clear e1
    go_enter Try.func20, Try.ntmps20
    go_wp2_with (first
      | (go_at_call 13; refine (edge_Neg _ _ (by omega) (by omega)).mono ?_; rintro e w' ⟨rfl, rfl⟩)
      | (go_at_call 15; refine (edge_Not _ _ (by omega) (by omega)).mono ?_; rintro e w' ⟨rfl, rfl⟩))
    go_ret3
    exact ⟨rfl, rfl⟩
  · have hn : negF hi = false := by simpa using h
    have e1 : normF lo hi = (lo, hi, false) := by unfold normF; rw [if_neg h]
    rw [e1]
    clear e1 h
    go_enter Try.func20, Try.ntmps20
    go_wp2_with (first
      | (go_at_call 13; refine (edge_Neg _ _ (by omega) (by omega)).mono ?_; rintro e w' ⟨rfl, rfl⟩)
      | (go_at_call 15; refine (edge_Not _ _ (by omega) (by omega)).mono ?_; rintro e w' ⟨rfl, rfl⟩))
    go_ret3
    exact ⟨rfl, rfl⟩
theorem ref_Norm (lo hi : Int) (w : World) (h1 : 0 ≤ lo) (h2 : lo ≤ 1152921504606846976) (h3 : 0 ≤ hi) (h4 : hi ≤ 1152921504606846976) :
    Calls Try.prog 21 #[.int .i64 lo, .int .i64 hi] w fun r w' => r = .returned (.tuple #[.int .i64 (normF lo hi).1, .int .i64 (normF lo hi).2.1, .bool (normF lo hi).2.2]) ∧ w = w' := by
  by_cases h : negF hi = true
  · have e1 : normF lo hi = (notF lo, notF hi, true) := by unfold normF; rw [if_pos h]
    rw [e1]
    clear e1
    go_enter Try.func21, Try.ntmps21
    go_wp2_with (first
      | (go_at_call 14; refine (ref_Neg _ _ (by omega) (by omega)).mono ?_; rintro e w' ⟨rfl, rfl⟩)
      | (go_at_call 16; refine (ref_Not _ _ (by omega) (by omega)).mono ?_; rintro e w' ⟨rfl, rfl⟩))
    go_ret3
    exact ⟨rfl, rfl⟩
  · have hn : negF hi = false := by simpa using h
    have e1 : normF lo hi = (lo, hi, false) := by unfold normF; rw [if_neg h]
    rw [e1]
    clear e1 h
    go_enter Try.func21, Try.ntmps21
    go_wp2_with (first
      | (go_at_call 14; refine (ref_Neg _ _ (by omega) (by omega)).mono ?_; rintro e w' ⟨rfl, rfl⟩)
      | (go_at_call 16; refine (ref_Not _ _ (by omega) (by omega)).mono ?_; rintro e w' ⟨rfl, rfl⟩))
    go_ret3
    exact ⟨rfl, rfl⟩

theorem meet_1 {f g : Int} (h : f = 1 ∨ g = 1 ∨ f = notF g) : meetF f g = (1, true) := by unfold meetF; rw [if_pos h]
theorem meet_2 {f g : Int} (h : ¬ (f = 1 ∨ g = 1 ∨ f = notF g)) (h0 : f = 0) : meetF f g = (g, true) := by unfold meetF; rw [if_neg h, if_pos h0]
theorem meet_3 {f g : Int} (h : ¬ (f = 1 ∨ g = 1 ∨ f = notF g)) (h0 : ¬ f = 0) (h2 : g = 0 ∨ f = g) : meetF f g = (f, true) := by unfold meetF; rw [if_neg h, if_neg h0, if_pos h2]
theorem meet_4 {f g : Int} (h : ¬ (f = 1 ∨ g = 1 ∨ f = notF g)) (h0 : ¬ f = 0) (h2 : ¬ (g = 0 ∨ f = g)) : meetF f g = (0, false) := by unfold meetF; rw [if_neg h, if_neg h0, if_neg h2]

theorem ret_m {f g a : Int} {b : Bool} (h : meetF f g = (a, b)) : Ending.returned (.tuple #[.int .i64 a, .bool b]) = .returned (.tuple #[.int .i64 (meetF f g).1, .bool (meetF f g).2]) := by rw [h]

theorem meet_5 {f g : Int} (h : ¬ (f = 1 ∨ g = 1 ∨ f = notF g)) (h0 : f = 0 ∨ f = g) : meetF f g = (g, true) := by
  unfold meetF; rw [if_neg h]
  by_cases h1 : f = 0
  · rw [if_pos h1]
  · rw [if_neg h1, if_pos (by omega)]; have : f = g := by omega
    rw [this]

theorem edge_Meet (f g : Int) (w : World) (h1 : 0 ≤ f) (h2 : f ≤ 1152921504606846976) (h3 : 0 ≤ g) (h4 : g ≤ 1152921504606846976) :
    Calls Try.prog 22 #[.int .i64 f, .int .i64 g] w fun r w' => r = .returned (.tuple #[.int .i64 (meetF f g).1, .bool (meetF f g).2]) ∧ w = w' := by
  go_enter Try.func22, Try.ntmps22
  go_wp2_with (first
      | (go_at_call 15; refine (edge_Not _ _ (by omega) (by omega)).mono ?_; rintro e w' ⟨rfl, rfl⟩))
  all_goals
    go_ret2
    refine ⟨ret_m ?_, rfl⟩
    try simp only [beq_iff_eq, beq_eq_false_iff_ne, ne_eq] at *
    first
      | (apply meet_1; omega)
      | (apply meet_2 <;> omega)
      | (apply meet_3 <;> omega)
      | (apply meet_4 <;> omega)
theorem ref_Meet (f g : Int) (w : World) (h1 : 0 ≤ f) (h2 : f ≤ 1152921504606846976) (h3 : 0 ≤ g) (h4 : g ≤ 1152921504606846976) :
    Calls Try.prog 23 #[.int .i64 f, .int .i64 g] w fun r w' => r = .returned (.tuple #[.int .i64 (meetF f g).1, .bool (meetF f g).2]) ∧ w = w' := by
  go_enter Try.func23, Try.ntmps23
  go_wp2_with (first
      | (go_at_call 16; refine (ref_Not _ _ (by omega) (by omega)).mono ?_; rintro e w' ⟨rfl, rfl⟩))
  all_goals
    go_ret2
    refine ⟨ret_m ?_, rfl⟩
    try simp only [beq_iff_eq, beq_eq_false_iff_ne, ne_eq] at *
    first
      | (apply meet_1; omega)
      | (apply meet_5 <;> omega)
      | (apply meet_3 <;> omega)
      | (apply meet_4 <;> omega)

def knownF (f o here : Int) : Int := if o = f then here else if o = notF f then notF here else o
def settledF (f g h : Int) : Int × Bool :=
  if f = 0 ∨ g = h then (g, true) else if f = 1 then (h, true) else if g = 0 ∧ h = 1 then (f, true) else if g = 1 ∧ h = 0 then (notF f, true) else (0, false)
def turnedF (f g h : Int) : Int × Int × Int × Bool × Int × Bool :=
  if negF g = true then (f, notF g, notF h, true, 0, false) else (f, g, h, false, 0, false)
def iteF (f g h : Int) : Int × Int × Int × Bool × Int × Bool :=
  if (settledF f (knownF f g 0) (knownF f h 1)).2 = true then (0, 0, 0, false, (settledF f (knownF f g 0) (knownF f h 1)).1, true)
  else if negF f = true then turnedF (notF f) (knownF f h 1) (knownF f g 0) else turnedF f (knownF f g 0) (knownF f h 1)

theorem edge_known (f o here : Int) (w : World) (h1 : 0 ≤ f) (h2 : f ≤ 1152921504606846976) (h3 : 0 ≤ here) (h4 : here ≤ 1152921504606846976) :
    Calls Try.prog 29 #[.int .i64 f, .int .i64 o, .int .i64 here] w fun r w' => r = .returned (.int .i64 (knownF f o here)) ∧ w = w' := by
  go_enter Try.func29, Try.ntmps29
  go_wp2_with (first
      | (go_at_call 15; refine (edge_Not _ _ (by omega) (by omega)).mono ?_; rintro e w' ⟨rfl, rfl⟩))
  all_goals
    go_ret
    refine ⟨ret_i ?_, rfl⟩
    unfold knownF
    simp_all

end Go.Proofs.Ytkbjmbgjechonaa
