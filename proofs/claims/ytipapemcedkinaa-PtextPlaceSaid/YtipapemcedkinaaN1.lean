/- Decimal digits; the size of a number; layer 7 (ptext). -/
import Derived.Test.YtipapemcedkinaaFn1
import Derived.Below
import Derived.Laws.OwnMore
import Derived.Deep.Draws
import Derived.Laws.Rows
import Derived.WalkKit
namespace Go.Proofs.Ytipapemcedkinaa
open Go.RowKit
def absF (a : Int) : Int := if a < 0 then -a else a
theorem ret_i2 {k : IntKind} {a b : Int} (h : a = b) : Ending.returned (.int k a) = .returned (.int k b) := by rw [h]
theorem ret_b {a b : Bool} (h : a = b) : Ending.returned (.bool a) = .returned (.bool b) := by rw [h]
theorem ret_ib {k : IntKind} {p : Int × Bool} {a : Int} {b : Bool} (h : p = (a, b)) : Ending.returned (.tuple #[.int k a, .bool b]) = .returned (.tuple #[.int k p.1, .bool p.2]) := by rw [h]

theorem num_size (a : Int) (w : World) (a1 : -9223372036854775808 ≤ a) (a2 : a ≤ 9223372036854775807) :
    Calls Try.prog 45 #[.int .i64 a] w fun r w' => r = .returned (.int .u64 (absF a)) ∧ w = w' := by
  by_cases c1 : a < 0
  · go_enter Try.func45, Try.ntmps45
    go_wp2
    go_ret
    exact ⟨ret_i2 (by unfold absF; rw [if_pos c1]; simp only [IntKind.wrap_u64]; omega), rfl⟩
  · go_enter Try.func45, Try.ntmps45
    go_wp2
    go_ret
    exact ⟨ret_i2 (by unfold absF; rw [if_neg (by omega)]; (try simp only [IntKind.wrap_u64]); try omega), rfl⟩
theorem ref_size (a : Int) (w : World) (a1 : -9223372036854775808 ≤ a) (a2 : a ≤ 9223372036854775807) :
    Calls Try.prog 47 #[.int .i64 a] w fun r w' => r = .returned (.int .u64 (absF a)) ∧ w = w' := by
  by_cases c1 : a < 0
  · go_enter Try.func47, Try.ntmps47
    go_wp2
    go_ret
    exact ⟨ret_i2 (by unfold absF; rw [if_pos (by omega)]; (try simp only [IntKind.wrap_u64]); omega), rfl⟩
  · go_enter Try.func47, Try.ntmps47
    go_wp2
    go_ret
    exact ⟨ret_i2 (by unfold absF; rw [if_neg (by omega)]; (try simp only [IntKind.wrap_u64]); try omega), rfl⟩
theorem abs_range {a : Int} (a1 : -9223372036854775808 ≤ a) (a2 : a ≤ 9223372036854775807) : 0 ≤ absF a ∧ absF a ≤ 9223372036854775808 := by
  unfold absF; split <;> omega


/-- The decimal digits of n as bytes, the most significant first. -/
def digs (n : Nat) : List Int := if h : n < 10 then [48 + (n : Int)] else digs (n / 10) ++ [48 + ((n % 10 : Nat) : Int)]
termination_by n
decreasing_by omega
def pre (r : Nat) : List Int := if r = 0 then [] else digs r
theorem digs_pre (n : Nat) : digs n = pre (n / 10) ++ [48 + ((n % 10 : Nat) : Int)] := by
  rw [digs]
  unfold pre
  by_cases h : n < 10
  · rw [dif_pos h, if_pos (by omega)]
    simp; omega
  · rw [dif_neg h, if_neg (by omega)]
theorem pre_pos {r : Nat} (h : 0 < r) : pre r = pre (r / 10) ++ [48 + ((r % 10 : Nat) : Int)] := by
  rw [← digs_pre]; unfold pre; rw [if_neg (by omega)]
theorem pre_zero : pre 0 = [] := rfl
/-- What the loop over the digits keeps: r is n without its last digits, which are ds. -/
def DInv (n r : Nat) (ds : List Int) : Prop := (ds = [] ∧ r = n) ∨ (ds ≠ [] ∧ pre r ++ ds = digs n)
theorem DInv.start (n : Nat) : DInv n n [] := .inl ⟨rfl, rfl⟩
theorem DInv.step {n r : Nat} {ds : List Int} (h : DInv n r ds) (hr : 0 < r ∨ ds = []) : DInv n (r / 10) ((48 + ((r % 10 : Nat) : Int)) :: ds) := by
  refine .inr ⟨by simp, ?_⟩
  rcases h with ⟨rfl, rfl⟩ | ⟨h1, h2⟩
  · rw [digs_pre]
  · rcases hr with hr | hr
    · rw [← h2, pre_pos hr]; simp
    · exact absurd hr h1
theorem DInv.done {n : Nat} {ds : List Int} (h : DInv n 0 ds) (hd : ds ≠ []) : ds = digs n := by
  rcases h with ⟨h1, _⟩ | ⟨_, h2⟩
  · exact absurd h1 hd
  · simpa [pre_zero] using h2
theorem digs_range (n : Nat) : ∀ d ∈ digs n, 48 ≤ d ∧ d ≤ 57 := by
  induction n using Nat.strongRecOn with
  | ind n ih =>
    rw [digs]
    split
    · simp; omega
    · intro d hd
      rw [List.mem_append] at hd
      rcases hd with hd | hd
      · exact ih (n / 10) (by omega) d hd
      · simp at hd; omega
theorem digs_len (n : Nat) (k : Nat) (hk : 1 ≤ k) (h : n < 10 ^ k) : (digs n).length ≤ k := by
  induction k generalizing n with
  | zero => omega
  | succ k ih =>
    rw [digs]
    split
    · simp
    · have h2 : n / 10 < 10 ^ k := by rw [Nat.pow_succ] at h; omega
      have h3 : 1 ≤ k := by
        rcases k with _ | k
        · omega
        · omega
      have := ih (n / 10) h3 h2
      simp; omega
theorem pre_len (n : Nat) (k : Nat) (h : n < 10 ^ k) : (pre n).length ≤ k := by
  unfold pre
  split
  · simp
  · rcases k with _ | k
    · simp at h; omega
    · exact digs_len n _ (by omega) h
theorem DInv.len {n r : Nat} {ds : List Int} (h : DInv n r ds) (hn : n < 10 ^ 19) (hr : 0 < r) : ds.length ≤ 18 := by
  rcases h with ⟨rfl, _⟩ | ⟨_, h2⟩
  · simp
  · have h3 := digs_len n 19 (by omega) hn
    rw [← h2, pre_pos hr] at h3
    simp at h3; omega

/-- The cells of a row of 20 bytes whose last ones are ds. -/
def cells20 (f : Nat) (ds : List Int) : Array Value := (List.replicate f (Value.int .u8 0) ++ ds.map (Value.int .u8)).toArray
theorem cells20_at (f : Nat) (ds : List Int) : (cells20 (f + 1) ds)[f]? = some (.int .u8 0) := by
  unfold cells20; simp [List.getElem?_append]
theorem cells20_set (f : Nat) (ds : List Int) (d : Int) : (cells20 (f + 1) ds).setIfInBounds f (.int .u8 d) = cells20 f (d :: ds) := by
  unfold cells20
  rw [List.replicate_succ', List.append_assoc]
  simp
theorem cells20_get (f : Nat) (ds : List Int) (i : Nat) (h : i < ds.length) : (cells20 f ds)[f + i]? = some (.int .u8 (ds.getD i 0)) := by
  unfold cells20
  simp [h]
theorem cells20_size (f : Nat) (ds : List Int) : (cells20 f ds).size = f + ds.length := by unfold cells20; simp

end Go.Proofs.Ytipapemcedkinaa
