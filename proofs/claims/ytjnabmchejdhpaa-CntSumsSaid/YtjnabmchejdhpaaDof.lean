/- Contract of the specification's Of of layer 4 (cnt), over the translation. -/
import Derived.Test.YtjnabmchejdhpaaDadd
namespace Go.Proofs.Ytjnabmchejdhpaa
open Go.RowKit

theorem of_stepT {o : List Int} {k : Nat} {N x : Int} (ho : o.length = k) (h : valT o + pwT k * N = x) : valT (o ++ [N % 10]) + pwT (k + 1) * (N / 10) = x := by
  rw [val_snocT, ho]
  have h1 := carry_stepT N k
  rw [Int.mul_comm (N / 10)] at h1
  omega
theorem of_leT {o : List Int} {k : Nat} {N x : Int} (hD : DigT o) (h : valT o + pwT k * N = x) (hN : 0 < N) (hx : x ≤ 18446744073709551615) : k < 20 := by
  rcases Nat.lt_or_ge k 20 with c | c
  · exact c
  · have h1 := val_loT hD
    have h2 := pw_monoT c
    have h3 : pwT 20 = 100000000000000000000 := by decide +kernel
    have h4 : pwT k * 1 ≤ pwT k * N := Int.mul_le_mul_of_nonneg_left (by omega) (by omega)
    omega
set_option maxHeartbeats 4000000 in
theorem ref_Of (x : Int) (w : World) (hx0 : 0 ≤ x) (hx1 : x ≤ 18446744073709551615) :
    Calls Try.prog 30 #[.int .u64 x] w fun e w' => ResT w w' x 20 e := by
  obtain ⟨i0, hi0, hz0, hz1, hz2⟩ := info_parts info3
  go_enter Try.func30, Try.ntmps30
  go_wp2
  go_loopw [0, 3] (fun n v wr => ∃ (N : Int) (o : List Int), n = .int .u64 N ∧ 0 ≤ N ∧ N ≤ 18446744073709551615 ∧ o.length ≤ 20 ∧ Hid (OwnT wr w.heap.size v o ∧ DigT o ∧ valT o + pwT o.length * N = x ∧ (N = 0 → nrmT o = true)) ∧ Below w.heap.size w wr) (fun n _ _ => (intOf n).toNat)
  case atStart => exact ⟨x, [], rfl, hx0, hx1, by simp, Lib.hid ⟨OwnT.nil _ _, DigT.nil, by show (0 : Int) + 1 * x = x; omega, fun _ => rfl⟩, Below.refl _ _⟩
  case round =>
    obtain ⟨N, o, rfl, hN0, hN1, hkM, HT, hb⟩ := hrel
    have hsz := hb.size
    obtain ⟨Ao, co, rfl, _, _, _, _⟩ := HT.out.1.len_cap
    have HPU : Hid (∀ v' w', World.ownsRow w' w.heap.size 3 1 v' (o.length + 1) (o.map (Value.int .i64) ++ [.int .i64 (N % 10)]) → Hid (OwnT w' w.heap.size v' (o ++ [N % 10]))) := Lib.hid (fun v' w' h => OwnT.push h)
    by_cases hend : 0 < N
    · have HST := Lib.hid (of_stepT rfl HT.out.2.2.1)
      have hk := of_leT HT.out.2.1 HT.out.2.2.1 hend hx1
      have HNR : Hid (N / 10 = 0 → nrmT (o ++ [N % 10]) = true) := Lib.hid (fun e => by rw [nrm_snocT]; simp; omega)
      go_wp2_with (at_builtin; refine wpList_append_own _ rfl _ _ 28 rfl w.heap.size 3 i0 _ 1 8 Try.underlying28 hi0 hz0 hz1 hz2 rfl (by decide) _ _ _ rfl (World.ownsRow.alloc HT.out.1 _) ⟨wr.heap.size, 0, none⟩ 1 1 [.int .i64 (N % 10)] rfl rfl (cell_one_new _ _ _) (by simp [Value.oneCell']) (max_ok (by omega)) (by omega) (by simp; omega) ?_; intro v2 w5 hown hgr _; have HP := HPU.out _ _ hown; have hbw5 : Below w.heap.size w w5 := HT.out.1.grow2 hb hsz hgr; clear hown hgr)
      go_roundw
      case rel => exact ⟨_, _, rfl, by omega, by omega, by simp; omega, Lib.hid ⟨HP.out, HT.out.2.1.snoc (by omega) (by omega), by simpa using HST.out, HNR.out⟩, hbw5⟩
      case measure => simp [intOf]; omega
    · obtain rfl : N = 0 := by omega
      obtain ⟨A2, c3, e2, hN⟩ := HT.out.1.dn HT.out.2.1
      injection e2 with e3 e4 e5
      subst e3 e5
      have HD := Lib.hid hN
      clear e4 hN hend
      go_wp2
      go_ret
      exact ⟨Ao, co, o, rfl, HD.out, by simpa using HT.out.2.2.2, by have := HT.out.2.2.1; omega, hkM, hb⟩
end Go.Proofs.Ytjnabmchejdhpaa
