/- The contract of the specification's Is, and what it says of the results of the other functions. -/
import Derived.Test.YtkbjmbgjechonaaWk1
import Derived.Test.YtkbjmbgjechonaaFn4
import Derived.OpenShut
import Derived.LoopTactic
namespace Go.Proofs.Ytkbjmbgjechonaa
open Go.RowKit

def halfN (n : Int) (j : Nat) : Int := n / 2 ^ j
theorem halfN_zero (n : Int) : halfN n 0 = n := by unfold halfN; simp
theorem halfN_succ (n : Int) (j : Nat) : halfN n (j + 1) = halfN n j / 2 := by
  unfold halfN
  rw [Int.pow_succ, Int.ediv_ediv_of_nonneg (Int.pow_nonneg (by omega))]
theorem halfN_range {n : Int} (h : 0 ≤ n) (j : Nat) : 0 ≤ halfN n j ∧ halfN n j ≤ n := by
  induction j with
  | zero => rw [halfN_zero]; omega
  | succ j ih => rw [halfN_succ]; omega
def bitF (n : Int) (k : Int) : Bool := k == 0 || halfN n k.toNat % 2 == 1
def isF (e n : Int) : Bool := bitF n (nodeF e) != negF e

theorem ref_Is (e n : Int) (w : World) (h1 : 0 ≤ e) (h2 : e ≤ 4294967296) (n1 : 0 ≤ n) (n2 : n ≤ 18446744073709551615) :
    Calls Try.prog 26 #[.int .i64 e, .int .u64 n] w fun r w' => r = .returned (.bool (isF e n)) ∧ w = w' := by
  have hk : 0 ≤ nodeF e ∧ nodeF e ≤ 4294967296 := by unfold nodeF; split <;> omega
  have hfin : (bitF n (nodeF e) != negF e) = isF e n := rfl
  have hfin := Lib.hid hfin
  obtain ⟨k, hkk⟩ : ∃ k : Nat, nodeF e = (k : Int) := ⟨(nodeF e).toNat, by omega⟩
  rw [hkk] at hk hfin
  have hkk := Lib.hid hkk
  obtain ⟨hk1, hk2⟩ := hk
  go_enter Try.func26, Try.ntmps26
  go_wp2_with (first
    | (go_at_call 12; refine (ref_Node _ _ (by omega) (by omega)).mono ?_; rintro e w' ⟨rfl, rfl⟩; rw [hkk.out]))
  go_loop [1, 6] (fun a i => ∃ j : Nat, j ≤ k ∧ i = .int .i64 j ∧ a = .int .u64 (halfN n j)) (fun _ i => k - (intOf i).toNat)
  case atStart => exact ⟨0, Nat.zero_le _, rfl, by rw [halfN_zero]⟩
  case round =>
    obtain ⟨j, hj, rfl, rfl⟩ := hrel
    obtain ⟨p1, p2⟩ := halfN_range n1 j
    have hs := Lib.hid (halfN_succ n j)
    by_cases hlt : j < k
    · go_wp2
      go_round
      case rel => exact ⟨j + 1, by omega, by go_num, by rw [hs.out]⟩
      case measure => simp [intOf]; omega
    · obtain rfl : j = k := by omega
      have hb : bitF n (j : Int) = ((j : Int) == 0 || halfN n j % 2 == 1) := rfl
      have hb := Lib.hid hb
      clear hs
      go_wp2_with (first
        | (go_at_call 14; refine (ref_Neg _ _ (by omega) (by omega)).mono ?_; rintro e w' ⟨rfl, rfl⟩))
      all_goals
        go_ret
        refine ⟨ret_b ?_, rfl⟩
        rw [← hfin.out, hb.out]
        first | rfl | (simp [*]; done)

theorem node_notF {e : Int} (h : 0 ≤ e) : nodeF (notF e) = nodeF e := by
  unfold nodeF notF; split <;> split <;> split <;> omega
theorem neg_notF {e : Int} (h : 0 ≤ e) : negF (notF e) = !negF e := by
  unfold negF notF; apply Bool.eq_iff_iff.2; split <;> simp <;> omega
theorem is_notF {e : Int} (n : Int) (h : 0 ≤ e) : isF (notF e) n = !isF e n := by
  unfold isF; rw [node_notF h, neg_notF h]; cases bitF n (nodeF e) <;> cases negF e <;> rfl
theorem is_0 (n : Int) : isF 0 n = true := by unfold isF nodeF negF bitF; simp
theorem is_1 (n : Int) : isF 1 n = false := by unfold isF nodeF negF bitF; simp
theorem norm_is {f g : Int} (n : Int) (f0 : 0 ≤ f) (g0 : 0 ≤ g) : isF (normF f g).1 n = (isF f n != (normF f g).2.2) ∧ isF (normF f g).2.1 n = (isF g n != (normF f g).2.2) ∧ negF (normF f g).2.1 = false := by
  unfold normF
  cases h : negF g
  · simp [h]
  · simp [h, is_notF n f0, is_notF n g0, neg_notF g0]
theorem meet_is {f g : Int} (n : Int) (f0 : 0 ≤ f) (g0 : 0 ≤ g) (h : (meetF f g).2 = true) : isF (meetF f g).1 n = (isF f n && isF g n) := by
  revert h
  unfold meetF
  split
  · rename_i c
    intro _
    rcases c with rfl | rfl | rfl
    · simp [is_1]
    · simp [is_1]
    · simp [is_1, is_notF n g0]
  · split
    · rename_i c; subst c; simp [is_0]
    · split
      · rename_i c
        rcases c with rfl | rfl
        · simp [is_0]
        · simp
      · simp
theorem known_is0 {f g : Int} (n : Int) (f0 : 0 ≤ f) (g0 : 0 ≤ g) (h : isF f n = true) : isF (knownF f g 0) n = isF g n := by
  rcases known_0 f g with ⟨rfl, e⟩ | ⟨_, rfl, e⟩ | ⟨_, _, e⟩ <;> rw [e]
  · rw [is_0, h]
  · rw [is_1, is_notF n f0, h]; rfl
theorem known_is1 {f g : Int} (n : Int) (f0 : 0 ≤ f) (g0 : 0 ≤ g) (h : isF f n = false) : isF (knownF f g 1) n = isF g n := by
  rcases known_1 f g with ⟨rfl, e⟩ | ⟨_, rfl, e⟩ | ⟨_, _, e⟩ <;> rw [e]
  · rw [is_1, h]
  · rw [is_0, is_notF n f0, h]; rfl
def wantF (a b c : Bool) : Bool := bif a then b else c
theorem settled_is {f g h : Int} (n : Int) (f0 : 0 ≤ f) (e : (settledF f g h).2 = true) : isF (settledF f g h).1 n = wantF (isF f n) (isF g n) (isF h n) := by
  revert e
  unfold settledF wantF
  split
  · rename_i c
    rcases c with rfl | rfl
    · simp [is_0]
    · simp
  · split
    · rename_i c; subst c; simp [is_1]
    · split
      · rename_i c; obtain ⟨rfl, rfl⟩ := c; simp [is_0, is_1]
      · split
        · rename_i c; obtain ⟨rfl, rfl⟩ := c; simp [is_0, is_1, is_notF n f0]
        · simp
theorem turned_is {f g h : Int} (n : Int) (g0 : 0 ≤ g) (h0 : 0 ≤ h) : (wantF (isF (turnedF f g h).1 n) (isF (turnedF f g h).2.1 n) (isF (turnedF f g h).2.2.1 n) != (turnedF f g h).2.2.2.1) = wantF (isF f n) (isF g n) (isF h n) ∧ negF (turnedF f g h).2.1 = false ∧ (turnedF f g h).2.2.2.2.2 = false ∧ (turnedF f g h).1 = f := by
  unfold turnedF
  cases hg : negF g
  · simp [hg]
  · simp [is_notF n g0, is_notF n h0, neg_notF g0, hg]
    unfold wantF
    cases isF f n <;> cases isF g n <;> cases isF h n <;> rfl
theorem want_known {f g h : Int} (n : Int) (f0 : 0 ≤ f) (g0 : 0 ≤ g) (h0 : 0 ≤ h) : wantF (isF f n) (isF (knownF f g 0) n) (isF (knownF f h 1) n) = wantF (isF f n) (isF g n) (isF h n) := by
  cases hf : isF f n
  · simp [wantF, known_is1 n f0 h0 hf]
  · simp [wantF, known_is0 n f0 g0 hf]
theorem ite_done {f g h : Int} (n : Int) (f0 : 0 ≤ f) (g0 : 0 ≤ g) (h0 : 0 ≤ h) (e : (iteF f g h).2.2.2.2.2 = true) : isF (iteF f g h).2.2.2.2.1 n = wantF (isF f n) (isF g n) (isF h n) := by
  have k0 := (knownF_range (f := f) (o := g) (here := 0) g0)
  rw [← want_known n f0 g0 h0]
  revert e
  have hk : 0 ≤ knownF f g 0 := by have := notF_range (e := 0) (by omega); unfold knownF; split <;> (try split) <;> omega
  have hk1 : 0 ≤ knownF f h 1 := by have := notF_range (e := 1) (by omega); unfold knownF; split <;> (try split) <;> omega
  unfold iteF
  split
  · intro _; exact settled_is n f0 ‹_›
  · split
    · rw [(turned_is (f := notF f) n hk1 hk).2.2.1]; simp
    · rw [(turned_is (f := f) n hk hk1).2.2.1]; simp
theorem ite_open {f g h : Int} (n : Int) (f0 : 0 ≤ f) (g0 : 0 ≤ g) (h0 : 0 ≤ h) (e : (iteF f g h).2.2.2.2.2 = false) :
    (wantF (isF (iteF f g h).1 n) (isF (iteF f g h).2.1 n) (isF (iteF f g h).2.2.1 n) != (iteF f g h).2.2.2.1) = wantF (isF f n) (isF g n) (isF h n) ∧ negF (iteF f g h).1 = false ∧ negF (iteF f g h).2.1 = false := by
  rw [← want_known n f0 g0 h0]
  revert e
  have hk : 0 ≤ knownF f g 0 := by have := notF_range (e := 0) (by omega); unfold knownF; split <;> (try split) <;> omega
  have hk1 : 0 ≤ knownF f h 1 := by have := notF_range (e := 1) (by omega); unfold knownF; split <;> (try split) <;> omega
  unfold iteF
  split
  · simp
  · split
    · rename_i c
      obtain ⟨t1, t2, _, t4⟩ := turned_is (f := notF f) n hk1 hk
      intro _
      refine ⟨?_, by rw [t4, neg_notF f0, c]; rfl, t2⟩
      rw [t1, is_notF n f0]
      unfold wantF
      cases isF f n <;> rfl
    · rename_i c
      obtain ⟨t1, t2, _, t4⟩ := turned_is (f := f) n hk hk1
      intro _
      exact ⟨t1, by rw [t4]; simpa using c, t2⟩
end Go.Proofs.Ytkbjmbgjechonaa
