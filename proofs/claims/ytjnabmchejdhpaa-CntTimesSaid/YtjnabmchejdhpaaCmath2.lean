/- One step of each of the loops over digits: plain mathematics for layer 4 (cnt). -/
import Derived.Test.YtjnabmchejdhpaaCmath
import Derived.Laws.BitsAllLaws
namespace Go.Proofs.Ytjnabmchejdhpaa

theorem take_set (s : List Int) {i : Nat} (h : i < s.length) (y : Int) : (s.set i y).take (i + 1) = s.take i ++ [y] := by
  rw [take_snoc (by rw [List.length_set]; exact h), List.take_set_of_le (Nat.le_refl _)]
  simp [List.getD, h]
theorem drop_set (s : List Int) (i : Nat) (y : Int) : (s.set i y).drop (i + 1) = s.drop (i + 1) := by
  rw [List.drop_set_of_lt (by omega)]
theorem drop_set0 (s : List Int) {i : Nat} (h : i < s.length) (y : Int) : (s.set i y).drop i = y :: s.drop (i + 1) := by
  rw [drop_cons' (by rw [List.length_set]; exact h), drop_set]
  simp [List.getD, h]
theorem take_len {l : List Int} {i : Nat} (h : i ≤ l.length) : (l.take i).length = i := by rw [List.length_take]; omega
theorem pw_succ (k : Nat) : pw (k + 1) = 4294967296 * pw k := rfl
theorem val_set {s : List Int} {i : Nat} (h : i < s.length) (y : Int) : val (s.set i y) = val s + pw i * (y - s.getD i 0) := by
  have h1 := val_split (l := s.set i y) (k := i) (by rw [List.length_set]; omega)
  have h2 := val_split (l := s) (k := i) (by omega)
  rw [drop_set0 _ h, List.take_set_of_le (Nat.le_refl _)] at h1
  rw [drop_cons' h] at h2
  have e1 : val (y :: s.drop (i + 1)) = y + 4294967296 * val (s.drop (i + 1)) := rfl
  have e2 : val (s.getD i 0 :: s.drop (i + 1)) = s.getD i 0 + 4294967296 * val (s.drop (i + 1)) := rfl
  rw [e1, Int.mul_add] at h1
  rw [e2, Int.mul_add] at h2
  rw [Int.mul_sub]
  omega
/-- carry + t at place i, the digit stored and the carry moved on: the value is kept. -/
theorem carry_step (t : Int) (i : Nat) : pw i * (t % 4294967296) + t / 4294967296 * pw (i + 1) = pw i * t := by
  have h : t = 4294967296 * (t / 4294967296) + t % 4294967296 := by omega
  have h2 : pw i * t = pw i * (4294967296 * (t / 4294967296)) + pw i * (t % 4294967296) := by
    conv => lhs; rw [h]
    rw [Int.mul_add]
  have h3 : t / 4294967296 * pw (i + 1) = pw i * (4294967296 * (t / 4294967296)) := by
    rw [pw_succ, Int.mul_comm (t / 4294967296), Int.mul_comm 4294967296 (pw i), Int.mul_assoc]
  rw [h2, h3]
  omega
/-- increase: one round. -/
theorem inc_step {s : List Int} {i : Nat} (hi : i < s.length) (c x : Int) :
    val (s.set i ((c + x + s.getD i 0) % 4294967296)) + (c + x + s.getD i 0) / 4294967296 * pw (i + 1) = val s + c * pw i + x * pw i := by
  rw [val_set hi, Int.mul_sub]
  have h := carry_step (c + x + s.getD i 0) i
  rw [Int.mul_add, Int.mul_add] at h
  rw [Int.mul_comm c, Int.mul_comm x]
  omega
theorem val_take_succ {l : List Int} {i : Nat} (h : i < l.length) : val (l.take (i + 1)) = val (l.take i) + pw i * l.getD i 0 := by
  rw [take_snoc h, val_snoc, take_len (by omega)]
theorem val_drop {l : List Int} {i : Nat} (h : i < l.length) : val (l.drop i) = l.getD i 0 + 4294967296 * val (l.drop (i + 1)) := by
  rw [drop_cons' h]; rfl
theorem getD_dig {l : List Int} (h : Dig l) {i : Nat} (hi : i < l.length) : 0 ≤ l.getD i 0 ∧ l.getD i 0 < 4294967296 := h _ (getD_mem hi)
/-- a digit below 2^32 shifted left by 32 and another joined to it. -/
theorem join_u64 {r d : Int} (hr : 0 ≤ r) (hr2 : r < 4294967296) (hd : 0 ≤ d) (hd2 : d < 4294967296) : bits .or .u64 (r * 4294967296) d = r * 4294967296 + d := by
  rw [u64_or _ _ (by omega) (by omega) hd (by omega), nat_join 32 _ _ (by
    have e : (r * 4294967296).toNat = r.toNat * 4294967296 := by omega
    rw [e]; omega) (by omega)]
  omega
theorem half_join {x c : Int} (hx : 0 ≤ x) (hx2 : x < 2147483648) (hc : c = 0 ∨ c = 1) : bits .or .u32 x (c * 2147483648) = x + c * 2147483648 := by
  rw [u32_or _ _ hx (by omega) (by omega) (by omega), Nat.or_comm, nat_join 31 _ _ (by
    rcases hc with rfl | rfl <;> simp) (by omega)]
  omega
theorem dbl_join {x c : Int} (hx : 0 ≤ x) (hx2 : x < 2147483648) (hc : c = 0 ∨ c = 1) : bits .or .u32 (x * 2) c = x * 2 + c := by
  rw [u32_or _ _ (by omega) (by omega) (by omega) (by omega), nat_join 1 _ _ (by
    have e : (x * 2).toNat = x.toNat * 2 := by omega
    rw [e]; omega) (by omega)]
  omega
end Go.Proofs.Ytjnabmchejdhpaa
