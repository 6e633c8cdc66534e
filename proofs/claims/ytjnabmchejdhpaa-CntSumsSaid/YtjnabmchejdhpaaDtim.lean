/- Contracts of the specification's Times and Of of layer 4 (cnt), over the translation. -/
import Derived.Test.YtjnabmchejdhpaaDadd
namespace Go.Proofs.Ytjnabmchejdhpaa
open Go.RowKit

theorem times_leT {a o : List Int} {k d : Nat} {C n : Int} (ha : DigT a) (ho : DigT o) (_hn : 0 ≤ n) (hd : n ≤ pwT d) (hC : 1 ≤ C) (h : valT o + C * pwT k = n * valT (a.take k)) : k < a.length + d := by
  rcases Nat.lt_or_ge k (a.length + d) with c | c
  · exact c
  · have h1 := val_hiT (ha.take k)
    have h1' := val_loT (ha.take k)
    have h3 := val_loT ho
    have h4 := pw_monoT (show (a.take k).length ≤ a.length by rw [List.length_take]; omega)
    have h6 := pw_monoT c
    rw [pw_addT] at h6
    have p1 := pw_posT k
    have p2 := pw_posT a.length
    have p3 := pw_posT d
    have h7 : n * valT (a.take k) ≤ pwT d * valT (a.take k) := Int.mul_le_mul_of_nonneg_right hd h1'
    have h8 : pwT d * (valT (a.take k) + 1) ≤ pwT d * pwT a.length := Int.mul_le_mul_of_nonneg_left (by omega) (by omega)
    have h9 : 1 * pwT k ≤ C * pwT k := Int.mul_le_mul_of_nonneg_right hC (by omega)
    rw [Int.mul_add, Int.mul_comm (pwT d) (pwT a.length)] at h8
    omega
set_option maxHeartbeats 4000000 in
theorem ref_Times (A : Option Addr) (ca : Nat) (a : List Int) (n : Int) (d : Nat) (w : World) (hA : Dn w A ca a) (hal : a.length ≤ 100000000) (hn : 0 ≤ n) (hn2 : n ≤ 100000) (hd : Hid (n ≤ pwT d)) (hd2 : d ≤ 10) :
    Calls Try.prog 35 #[.slice A a.length ca, .int .i64 n] w fun e w' => ResT w w' (n * valT a) (a.length + d) e := by
  obtain ⟨i0, hi0, hz0, hz1, hz2⟩ := info_parts info3
  have HA := Lib.hid hA
  clear hA
  go_enter Try.func35, Try.ntmps35
  go_wp2
  go_loopw [5, 6, 7] (fun v c i wr => ∃ (k : Nat) (C : Int) (o : List Int), i = .int .i64 (k : Int) ∧ c = .int .i64 C ∧ 0 ≤ C ∧ C ≤ n ∧ k ≤ a.length + d ∧ o.length = k ∧ Hid (OwnT wr w.heap.size v o ∧ DigT o ∧ valT o + C * pwT k = n * valT (a.take k)) ∧ Below w.heap.size w wr) (fun _ _ i _ => a.length + d + 1 - (intOf i).toNat)
  case atStart => exact ⟨0, 0, [], rfl, rfl, by omega, by omega, by omega, rfl, Lib.hid ⟨OwnT.nil _ _, DigT.nil, by show (0 : Int) + 0 * pwT 0 = n * 0; omega⟩, Below.refl _ _⟩
  case round =>
    obtain ⟨k, C, o, rfl, rfl, hC0, hC1, hkM, hol, HT, hb⟩ := hrel
    subst hol
    have hsz := hb.size
    obtain ⟨Ao, co, rfl, _, _, _, _⟩ := HT.out.1.len_cap
    have d1 := li_digT HA.out.dig o.length
    have d2 : 0 ≤ n * li a o.length := Int.mul_nonneg hn d1.1
    have d3 : n * li a o.length ≤ n * 9 := Int.mul_le_mul_of_nonneg_left (by omega) hn
    have HAT1 := Lib.hid (ref_at A ca a o.length wr (HA.out.row.step hb) (by omega) (by omega))
    have HPU : Hid (∀ v' w', World.ownsRow w' w.heap.size 3 1 v' (o.length + 1) (o.map (Value.int .i64) ++ [.int .i64 ((C + n * li a o.length) % 10)]) → Hid (OwnT w' w.heap.size v' (o ++ [(C + n * li a o.length) % 10]))) := Lib.hid (fun v' w' h => OwnT.push h)
    by_cases hend : a.length ≤ o.length ∧ C = 0
    · obtain ⟨h1, rfl⟩ := hend
      have c1 : ¬ (o.length : Int) < (a.length : Int) := by omega
      have HX : Hid (valT o = n * valT a) := Lib.hid (by
        have h := HT.out.2.2
        rw [List.take_of_length_le h1] at h
        omega)
      obtain ⟨A2, c3, e2, hN⟩ := HT.out.1.dn HT.out.2.1
      injection e2 with e3 e4 e5
      subst e3 e5
      have HC := Lib.hid (ref_cut Ao co o wr hN (by omega))
      clear e4 hN
      go_wp2_with (go_at_call 34; refine HC.out.mono ?_; rintro e w2 ⟨A4, c4, l4, rfl, hR⟩; have HR := Lib.hid hR; clear hR)
      go_ret
      have hr : ResT wr w2 (valT o) o.length (.returned (.slice A4 l4.length c4)) := ⟨A4, c4, l4, rfl, HR.out⟩
      rw [HX.out] at hr
      exact hr.from hb (by omega)
    · have HST := Lib.hid (times_stepT rfl HT.out.2.2)
      by_cases c1 : o.length < a.length
      · have c1' : (o.length : Int) < (a.length : Int) := by omega
        clear hend
        go_wp2_with (first | (go_at_call 33; with_reducible refine HAT1.out.mono ?_; rintro e w1 ⟨rfl, rfl⟩) | (at_builtin; refine wpList_append_own _ rfl _ _ 27 rfl w.heap.size 3 i0 _ 1 8 Try.underlying27 hi0 hz0 hz1 hz2 rfl (by decide) _ _ _ rfl (World.ownsRow.alloc HT.out.1 _) ⟨wr.heap.size, 0, none⟩ 1 1 [.int .i64 ((C + n * li a o.length) % 10)] rfl rfl (cell_one_new _ _ _) (by simp [Value.oneCell']) (max_ok (by omega)) (by omega) (by simp; omega) ?_; intro v2 w5 hown hgr _; have HP := HPU.out _ _ hown; have hbw5 : Below w.heap.size w w5 := HT.out.1.grow2 hb hsz hgr; clear hown hgr))
        go_roundw
        case rel => exact ⟨o.length + 1, _, _, by go_num, rfl, by omega, by omega, by omega, by simp, Lib.hid ⟨HP.out, HT.out.2.1.snoc (by omega) (by omega), HST.out⟩, hbw5⟩
        case measure => simp [intOf]; omega
      · have c1' : ¬ (o.length : Int) < (a.length : Int) := by omega
        have hCp : 0 < C := by omega
        have hkM2 : o.length < a.length + d := times_leT HA.out.dig HT.out.2.1 hn hd.out (by omega) HT.out.2.2
        clear hend
        go_wp2_with (first | (go_at_call 33; with_reducible refine HAT1.out.mono ?_; rintro e w1 ⟨rfl, rfl⟩) | (at_builtin; refine wpList_append_own _ rfl _ _ 27 rfl w.heap.size 3 i0 _ 1 8 Try.underlying27 hi0 hz0 hz1 hz2 rfl (by decide) _ _ _ rfl (World.ownsRow.alloc HT.out.1 _) ⟨wr.heap.size, 0, none⟩ 1 1 [.int .i64 ((C + n * li a o.length) % 10)] rfl rfl (cell_one_new _ _ _) (by simp [Value.oneCell']) (max_ok (by omega)) (by omega) (by simp; omega) ?_; intro v2 w5 hown hgr _; have HP := HPU.out _ _ hown; have hbw5 : Below w.heap.size w w5 := HT.out.1.grow2 hb hsz hgr; clear hown hgr))
        go_roundw
        case rel => exact ⟨o.length + 1, _, _, by go_num, rfl, by omega, by omega, by omega, by simp, Lib.hid ⟨HP.out, HT.out.2.1.snoc (by omega) (by omega), HST.out⟩, hbw5⟩
        case measure => simp [intOf]; omega
end Go.Proofs.Ytjnabmchejdhpaa
