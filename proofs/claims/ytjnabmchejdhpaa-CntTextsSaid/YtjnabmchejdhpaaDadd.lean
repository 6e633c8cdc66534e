/- Contracts of the specification's Add and Times of layer 4 (cnt), over the translation. -/
import Derived.Test.YtjnabmchejdhpaaDcut
namespace Go.Proofs.Ytjnabmchejdhpaa
open Go.RowKit

theorem pwT_succ (k : Nat) : pwT (k + 1) = 10 * pwT k := rfl
theorem valT_take_succ {l : List Int} {i : Nat} (h : i < l.length) : valT (l.take (i + 1)) = valT (l.take i) + pwT i * li l i := by
  rw [take_snoc h, val_snocT, take_len (by omega)]
  rfl
theorem valT_take (l : List Int) (i : Nat) : valT (l.take (i + 1)) = valT (l.take i) + pwT i * li l i := by
  rcases Nat.lt_or_ge i l.length with c | c
  · exact valT_take_succ c
  · have e : li l i = 0 := by unfold li; simp [List.getD, List.getElem?_eq_none c]
    rw [List.take_of_length_le (by omega), List.take_of_length_le c, e]; omega
theorem carry_stepT (t : Int) (i : Nat) : pwT i * (t % 10) + t / 10 * pwT (i + 1) = pwT i * t := by
  have h : t = 10 * (t / 10) + t % 10 := by omega
  have h2 : pwT i * t = pwT i * (10 * (t / 10)) + pwT i * (t % 10) := by
    conv => lhs; rw [h]
    rw [Int.mul_add]
  have h3 : t / 10 * pwT (i + 1) = pwT i * (10 * (t / 10)) := by
    rw [pwT_succ, Int.mul_comm (t / 10), Int.mul_comm 10 (pwT i), Int.mul_assoc]
  rw [h2, h3]
  omega
theorem li_digT {l : List Int} (h : DigT l) (i : Nat) : 0 ≤ li l i ∧ li l i < 10 := by
  rcases Nat.lt_or_ge i l.length with c | c
  · exact h _ (li_mem c)
  · have e : li l i = 0 := by unfold li; simp [List.getD, List.getElem?_eq_none c]
    omega
theorem add_stepT {a b o : List Int} {k : Nat} {C : Int} (ho : o.length = k) (h : valT o + C * pwT k = valT (a.take k) + valT (b.take k)) :
    valT (o ++ [(C + li a k + li b k) % 10]) + (C + li a k + li b k) / 10 * pwT (k + 1) = valT (a.take (k + 1)) + valT (b.take (k + 1)) := by
  rw [val_snocT, ho, valT_take, valT_take]
  have h1 := carry_stepT (C + li a k + li b k) k
  rw [Int.mul_add, Int.mul_add, Int.mul_comm (pwT k) C] at h1
  omega
theorem times_stepT {a o : List Int} {k : Nat} {C n : Int} (ho : o.length = k) (h : valT o + C * pwT k = n * valT (a.take k)) :
    valT (o ++ [(C + n * li a k) % 10]) + (C + n * li a k) / 10 * pwT (k + 1) = n * valT (a.take (k + 1)) := by
  rw [val_snocT, ho, valT_take, Int.mul_add]
  have h1 := carry_stepT (C + n * li a k) k
  rw [Int.mul_add, Int.mul_comm (pwT k) C, Int.mul_left_comm] at h1
  omega

theorem add_leT {a b o : List Int} {k M : Nat} (ha : DigT a) (hb : DigT b) (ho : DigT o) (haM : a.length ≤ M) (hbM : b.length ≤ M) (h : valT o + 1 * pwT k = valT (a.take k) + valT (b.take k)) : k ≤ M := by
  rcases Nat.lt_or_ge M k with c | c
  · have h1 := val_hiT (ha.take k)
    have h2 := val_hiT (hb.take k)
    have h3 := val_loT ho
    have h4 := pw_monoT (show (a.take k).length ≤ M by rw [List.length_take]; omega)
    have h5 := pw_monoT (show (b.take k).length ≤ M by rw [List.length_take]; omega)
    have h6 := pw_monoT (show M + 1 ≤ k by omega)
    rw [pwT_succ] at h6
    have h7 := pw_posT M
    omega
  · exact c
theorem DigT.snoc {t : List Int} (h : DigT t) {x : Int} (h0 : 0 ≤ x) (h1 : x < 10) : DigT (t ++ [x]) := h.app (DigT.cons h0 h1 DigT.nil)
theorem ResT.from {w wr w' : World} {x : Int} {M M2 : Nat} {e : Ending} (h : ResT wr w' x M e) (hb : Below w.heap.size w wr) (hM : M ≤ M2) : ResT w w' x M2 e := by
  obtain ⟨A, c, l, rfl, h1, h2, h3, h4, h5⟩ := h
  exact ⟨A, c, l, rfl, h1, h2, h3, by omega, step2 hb h5⟩
set_option maxHeartbeats 4000000 in
theorem ref_Add (A B : Option Addr) (ca cb : Nat) (a b : List Int) (M : Nat) (w : World) (hA : Dn w A ca a) (hB : Dn w B cb b) (hal : a.length ≤ M) (hbl : b.length ≤ M) (hM : M ≤ 100000000) :
    Calls Try.prog 9 #[.slice A a.length ca, .slice B b.length cb] w fun e w' => ResT w w' (valT a + valT b) (M + 1) e := by
  obtain ⟨i0, hi0, hz0, hz1, hz2⟩ := info_parts info3
  have HA := Lib.hid hA
  have HB := Lib.hid hB
  clear hA hB
  go_enter Try.func9, Try.ntmps9
  go_wp2
  go_loopw [5, 6, 7] (fun v c i wr => ∃ (k : Nat) (C : Int) (o : List Int), i = .int .i64 (k : Int) ∧ c = .int .i64 C ∧ 0 ≤ C ∧ C ≤ 1 ∧ k ≤ M + 1 ∧ o.length = k ∧ Hid (OwnT wr w.heap.size v o ∧ DigT o ∧ valT o + C * pwT k = valT (a.take k) + valT (b.take k)) ∧ Below w.heap.size w wr) (fun _ _ i _ => M + 2 - (intOf i).toNat)
  case atStart => exact ⟨0, 0, [], rfl, rfl, by omega, by omega, by omega, rfl, Lib.hid ⟨OwnT.nil _ _, DigT.nil, rfl⟩, Below.refl _ _⟩
  case round =>
    obtain ⟨k, C, o, rfl, rfl, hC0, hC1, hkM, hol, HT, hb⟩ := hrel
    subst hol
    have hsz := hb.size
    obtain ⟨Ao, co, rfl, _, _, _, _⟩ := HT.out.1.len_cap
    have d1 := li_digT HA.out.dig o.length
    have d2 := li_digT HB.out.dig o.length
    have HAT1 := Lib.hid (ref_at A ca a o.length wr (HA.out.row.step hb) (by omega) (by omega))
    have HAT2 := Lib.hid (ref_at B cb b o.length wr (HB.out.row.step hb) (by omega) (by omega))
    have HPU : Hid (∀ v' w', World.ownsRow w' w.heap.size 3 1 v' (o.length + 1) (o.map (Value.int .i64) ++ [.int .i64 ((C + li a o.length + li b o.length) % 10)]) → Hid (OwnT w' w.heap.size v' (o ++ [(C + li a o.length + li b o.length) % 10]))) := Lib.hid (fun v' w' h => OwnT.push h)
    by_cases hend : a.length ≤ o.length ∧ b.length ≤ o.length ∧ C = 0
    · obtain ⟨h1, h2, rfl⟩ := hend
      have c1 : ¬ (o.length : Int) < (a.length : Int) := by omega
      have c2 : ¬ (o.length : Int) < (b.length : Int) := by omega
      have HX : Hid (valT o = valT a + valT b) := Lib.hid (by
        have h := HT.out.2.2
        rw [List.take_of_length_le h1, List.take_of_length_le h2] at h
        omega)
      obtain ⟨A2, c3, e2, hN⟩ := HT.out.1.dn HT.out.2.1
      injection e2 with e3 e4 e5
      subst e3 e5
      have HC := Lib.hid (ref_cut Ao co o wr hN (by omega))
      clear e4 hN
      go_wp2_with (go_at_call 34; refine HC.out.mono ?_; rintro e w2 ⟨A4, c4, l4, rfl, hR⟩; have HR := Lib.hid hR; clear hR)
      go_ret
      have hr : ResT wr w2 (valT o) o.length (.returned (.slice A4 l4.length c4)) := ⟨A4, c4, l4, rfl, HR.out⟩
      rw [HX.out] at hr
      exact hr.from hb (by omega)
    · have HST := Lib.hid (add_stepT rfl HT.out.2.2)
      by_cases c1 : o.length < a.length
      · have c1' : (o.length : Int) < (a.length : Int) := by omega
        clear hend
        go_wp2_with (first | (go_at_call 33; first | (with_reducible refine HAT1.out.mono ?_; rintro e w1 ⟨rfl, rfl⟩) | (with_reducible refine HAT2.out.mono ?_; rintro e w1 ⟨rfl, rfl⟩)) | (at_builtin; refine wpList_append_own _ rfl _ _ 27 rfl w.heap.size 3 i0 _ 1 8 Try.underlying27 hi0 hz0 hz1 hz2 rfl (by decide) _ _ _ rfl (World.ownsRow.alloc HT.out.1 _) ⟨wr.heap.size, 0, none⟩ 1 1 [.int .i64 ((C + li a o.length + li b o.length) % 10)] rfl rfl (cell_one_new _ _ _) (by simp [Value.oneCell']) (max_ok (by omega)) (by omega) (by simp; omega) ?_; intro v2 w5 hown hgr _; have HP := HPU.out _ _ hown; have hbw5 : Below w.heap.size w w5 := HT.out.1.grow2 hb hsz hgr; clear hown hgr))
        go_roundw
        case rel => exact ⟨o.length + 1, _, _, by go_num, rfl, by omega, by omega, by omega, by simp, Lib.hid ⟨HP.out, HT.out.2.1.snoc (by omega) (by omega), HST.out⟩, hbw5⟩
        case measure => simp [intOf]; omega
      · have c1' : ¬ (o.length : Int) < (a.length : Int) := by omega
        by_cases c2 : o.length < b.length
        · have c2' : (o.length : Int) < (b.length : Int) := by omega
          clear hend
          go_wp2_with (first | (go_at_call 33; first | (with_reducible refine HAT1.out.mono ?_; rintro e w1 ⟨rfl, rfl⟩) | (with_reducible refine HAT2.out.mono ?_; rintro e w1 ⟨rfl, rfl⟩)) | (at_builtin; refine wpList_append_own _ rfl _ _ 27 rfl w.heap.size 3 i0 _ 1 8 Try.underlying27 hi0 hz0 hz1 hz2 rfl (by decide) _ _ _ rfl (World.ownsRow.alloc HT.out.1 _) ⟨wr.heap.size, 0, none⟩ 1 1 [.int .i64 ((C + li a o.length + li b o.length) % 10)] rfl rfl (cell_one_new _ _ _) (by simp [Value.oneCell']) (max_ok (by omega)) (by omega) (by simp; omega) ?_; intro v2 w5 hown hgr _; have HP := HPU.out _ _ hown; have hbw5 : Below w.heap.size w w5 := HT.out.1.grow2 hb hsz hgr; clear hown hgr))
          go_roundw
          case rel => exact ⟨o.length + 1, _, _, by go_num, rfl, by omega, by omega, by omega, by simp, Lib.hid ⟨HP.out, HT.out.2.1.snoc (by omega) (by omega), HST.out⟩, hbw5⟩
          case measure => simp [intOf]; omega
        · have c2' : ¬ (o.length : Int) < (b.length : Int) := by omega
          have hC : C = 1 := by omega
          have hkM2 : o.length ≤ M := add_leT HA.out.dig HB.out.dig HT.out.2.1 hal hbl (by have h := HT.out.2.2; rw [hC] at h; exact h)
          have hCp : 0 < C := by omega
          clear hend hC
          go_wp2_with (first | (go_at_call 33; first | (with_reducible refine HAT1.out.mono ?_; rintro e w1 ⟨rfl, rfl⟩) | (with_reducible refine HAT2.out.mono ?_; rintro e w1 ⟨rfl, rfl⟩)) | (at_builtin; refine wpList_append_own _ rfl _ _ 27 rfl w.heap.size 3 i0 _ 1 8 Try.underlying27 hi0 hz0 hz1 hz2 rfl (by decide) _ _ _ rfl (World.ownsRow.alloc HT.out.1 _) ⟨wr.heap.size, 0, none⟩ 1 1 [.int .i64 ((C + li a o.length + li b o.length) % 10)] rfl rfl (cell_one_new _ _ _) (by simp [Value.oneCell']) (max_ok (by omega)) (by omega) (by simp; omega) ?_; intro v2 w5 hown hgr _; have HP := HPU.out _ _ hown; have hbw5 : Below w.heap.size w w5 := HT.out.1.grow2 hb hsz hgr; clear hown hgr))
          go_roundw
          case rel => exact ⟨o.length + 1, _, _, by go_num, rfl, by omega, by omega, by omega, by simp, Lib.hid ⟨HP.out, HT.out.2.1.snoc (by omega) (by omega), HST.out⟩, hbw5⟩
          case measure => simp [intOf]; omega
end Go.Proofs.Ytjnabmchejdhpaa
