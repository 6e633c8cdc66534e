/- Contract of the specification's Sub of layer 4 (cnt), over the translation. -/
import Derived.Test.YtjnabmchejdhpaaDcmp
namespace Go.Proofs.Ytjnabmchejdhpaa
open Go.RowKit

theorem sub_stepT {a b o : List Int} {k : Nat} {C x D : Int} (ho : o.length = k) (h : valT o - C * pwT k = valT (a.take k) - valT (b.take k)) (hx : x - 10 * D = li a k - li b k - C) :
    valT (o ++ [x]) - D * pwT (k + 1) = valT (a.take (k + 1)) - valT (b.take (k + 1)) := by
  rw [val_snocT, ho, valT_take, valT_take, pwT_succ]
  have e : x = li a k - li b k - C + 10 * D := by omega
  rw [e, Int.mul_add, Int.mul_sub, Int.mul_sub]
  have e1 : D * (10 * pwT k) = pwT k * (10 * D) := by rw [Int.mul_comm D, Int.mul_comm 10 (pwT k), Int.mul_assoc]
  rw [e1, Int.mul_comm (pwT k) C]
  omega
theorem sub_endT {a b o : List Int} {C : Int} (ha : DigT a) (hb : DigT b) (ho : DigT o) (hl : o.length = a.length) (h0 : 0 ≤ C) (h1 : C ≤ 1) (hle : valT b ≤ valT a) (h : valT o - C * pwT a.length = valT (a.take a.length) - valT (b.take a.length)) :
    valT o = valT a - valT b := by
  rw [List.take_length] at h
  have v1 := val_hiT ho
  have v2 := val_cutT b a.length
  have v3 := val_loT (hb.drop a.length)
  have v4 := val_loT (hb.take a.length)
  have v5 := val_hiT ha
  have v6 := pw_posT a.length
  rw [hl] at v1
  have v7 := val_loT ho
  have v8 : 0 ≤ pwT a.length * valT (b.drop a.length) := Int.mul_nonneg (by omega) v3
  rcases (show C = 0 ∨ C = 1 by omega) with rfl | rfl
  · rcases (show valT (b.drop a.length) = 0 ∨ 1 ≤ valT (b.drop a.length) by omega) with h2 | h2
    · rw [h2] at v2; omega
    · have : pwT a.length * 1 ≤ pwT a.length * valT (b.drop a.length) := Int.mul_le_mul_of_nonneg_left h2 (by omega)
      omega
  · omega
set_option maxHeartbeats 4000000 in
theorem ref_Sub (A B : Option Addr) (ca cb : Nat) (a b : List Int) (w : World) (hA : Dn w A ca a) (hB : Dn w B cb b) (hal : a.length ≤ 100000000) (hbl : b.length ≤ 100000000) (hle : valT b ≤ valT a) :
    Calls Try.prog 18 #[.slice A a.length ca, .slice B b.length cb] w fun e w' => ResT w w' (valT a - valT b) a.length e := by
  obtain ⟨i0, hi0, hz0, hz1, hz2⟩ := info_parts info3
  have HA := Lib.hid hA
  have HB := Lib.hid hB
  have HLE := Lib.hid hle
  clear hA hB hle
  go_enter Try.func18, Try.ntmps18
  go_wp2
  go_loopw [5, 6, 7] (fun v c i wr => ∃ (k : Nat) (C : Int) (o : List Int), i = .int .i64 (k : Int) ∧ c = .int .i64 C ∧ 0 ≤ C ∧ C ≤ 1 ∧ k ≤ a.length ∧ o.length = k ∧ Hid (OwnT wr w.heap.size v o ∧ DigT o ∧ valT o - C * pwT k = valT (a.take k) - valT (b.take k)) ∧ Below w.heap.size w wr) (fun _ _ i _ => a.length - (intOf i).toNat)
  case atStart => exact ⟨0, 0, [], rfl, rfl, by omega, by omega, by omega, rfl, Lib.hid ⟨OwnT.nil _ _, DigT.nil, rfl⟩, Below.refl _ _⟩
  case round =>
    obtain ⟨k, C, o, rfl, rfl, hC0, hC1, hkM, hol, HT, hb⟩ := hrel
    subst hol
    have hsz := hb.size
    obtain ⟨Ao, co, rfl, _, _, _, _⟩ := HT.out.1.len_cap
    by_cases c1 : o.length < a.length
    · have c1' : (o.length : Int) < (a.length : Int) := by omega
      have d1 := li_digT HA.out.dig o.length
      have d2 := li_digT HB.out.dig o.length
      have hbd : Below w.heap.size w wr.drew := hb.drew
      obtain ⟨ab, af, rfl, hg1, hc1⟩ := HA.out.row (by omega)
      have e1 : wr.drew.cell? ⟨ab, af + o.length, none⟩ = some (.int .i64 (li a o.length)) := (hbd.cell (p := ⟨ab, af + o.length, none⟩) hg1).trans (hc1 o.length (by omega))
      have HAT2 := Lib.hid (ref_at B cb b o.length wr.drew (HB.out.row.step hbd) (by omega) (by omega))
      obtain ⟨D, hD0, hD1, hDlt⟩ : ∃ D : Int, 0 ≤ D ∧ D ≤ 1 ∧ (li a o.length - li b o.length - C < 0 ↔ D = 1) := by
        by_cases h : li a o.length - li b o.length - C < 0
        · exact ⟨1, by omega, by omega, by simp [h]⟩
        · exact ⟨0, by omega, by omega, by simp [h]⟩
      obtain ⟨x, hx⟩ : ∃ x : Int, li a o.length - li b o.length - C + 10 * D = x := ⟨_, rfl⟩
      have hx0 : 0 ≤ x ∧ x < 10 := by omega
      have HST := Lib.hid (sub_stepT (x := x) (D := D) rfl HT.out.2.2 (by omega))
      have HPU : Hid (∀ v' w', World.ownsRow w' w.heap.size 3 1 v' (o.length + 1) (o.map (Value.int .i64) ++ [.int .i64 x]) → Hid (OwnT w' w.heap.size v' (o ++ [x]))) := Lib.hid (fun v' w' h => OwnT.push h)
      have HO : Hid (OwnT wr.drew w.heap.size (.slice Ao o.length co) o) := Lib.hid (HT.out.1.keep (Below.refl _ _).drew)
      have hszd : w.heap.size ≤ wr.drew.heap.size := hsz
      clear hc1
      generalize hd : li a o.length - li b o.length - C = d at *
      have hw1 : IntKind.i64.wrap (li a o.length - li b o.length) = li a o.length - li b o.length := IntWalk.i64_in _ (by omega)
      have hw2 : IntKind.i64.wrap (li a o.length - li b o.length - C) = d := by rw [hd]; exact IntWalk.i64_in _ (by omega)
      go_wp2_with fail
      go_region_held3 (fun wx => wx.cell? ⟨ab, af + o.length, none⟩ = some (.int .i64 (li a o.length))) (first | assumption | go_keep) (first
        | (go_at_call 33; with_reducible refine HAT2.out.mono ?_; rintro e w1 ⟨rfl, rfl⟩))
      clear hw1 hw2 hd
      generalize wr.drew = wd at *
      by_cases hneg : d < 0
      · obtain rfl : D = 1 := hDlt.1 hneg
        have hx2 : d + 10 = x := by omega
        go_wp2_with (at_builtin; refine wpList_append_own _ rfl _ _ 27 rfl w.heap.size 3 i0 _ 1 8 Try.underlying27 hi0 hz0 hz1 hz2 rfl (by decide) _ _ _ rfl (World.ownsRow.alloc HO.out _) ⟨wd.heap.size, 0, none⟩ 1 1 [.int .i64 x] rfl rfl (by first | exact cell_one_new _ _ _ | (rw [hx2]; exact cell_one_new _ _ _)) (by simp [Value.oneCell']) (max_ok (by omega)) (by omega) (by simp; omega) ?_; intro v2 w5 hown hgr _; have HP := HPU.out _ _ hown; have hbw5 : Below w.heap.size w w5 := HO.out.grow2 hbd hszd hgr; clear hown hgr)
        go_roundw
        case rel => exact ⟨o.length + 1, 1, _, by go_num, rfl, by omega, by omega, by omega, by simp, Lib.hid ⟨HP.out, HT.out.2.1.snoc (by omega) (by omega), HST.out⟩, hbw5⟩
        case measure => simp [intOf]; omega
      · obtain rfl : D = 0 := by
          rcases (show D = 0 ∨ D = 1 by omega) with h | h
          · exact h
          · exact absurd (hDlt.2 h) hneg
        have hx2 : d = x := by omega
        go_wp2_with (at_builtin; refine wpList_append_own _ rfl _ _ 27 rfl w.heap.size 3 i0 _ 1 8 Try.underlying27 hi0 hz0 hz1 hz2 rfl (by decide) _ _ _ rfl (World.ownsRow.alloc HO.out _) ⟨wd.heap.size, 0, none⟩ 1 1 [.int .i64 x] rfl rfl (by rw [← hx2]; exact cell_one_new _ _ _) (by simp [Value.oneCell']) (max_ok (by omega)) (by omega) (by simp; omega) ?_; intro v2 w5 hown hgr _; have HP := HPU.out _ _ hown; have hbw5 : Below w.heap.size w w5 := HO.out.grow2 hbd hszd hgr; clear hown hgr)
        go_roundw
        case rel => exact ⟨o.length + 1, 0, _, by go_num, rfl, by omega, by omega, by omega, by simp, Lib.hid ⟨HP.out, HT.out.2.1.snoc (by omega) (by omega), HST.out⟩, hbw5⟩
        case measure => simp [intOf]; omega
    · have c1' : ¬ (o.length : Int) < (a.length : Int) := by omega
      have hla : o.length = a.length := by omega
      have HX : Hid (valT o = valT a - valT b) := Lib.hid (sub_endT HA.out.dig HB.out.dig HT.out.2.1 hla hC0 hC1 HLE.out (by have h := HT.out.2.2; rw [hla] at h; exact h))
      obtain ⟨A2, c3, e2, hN⟩ := HT.out.1.dn HT.out.2.1
      injection e2 with e3 e4 e5
      subst e3 e5
      have HC := Lib.hid (ref_cut Ao co o wr hN (by omega))
      clear e4 hN hla
      go_wp2_with (go_at_call 34; refine HC.out.mono ?_; rintro e w2 ⟨A4, c4, l4, rfl, hR⟩; have HR := Lib.hid hR; clear hR)
      go_ret
      have hr : ResT wr w2 (valT o) o.length (.returned (.slice A4 l4.length c4)) := ⟨A4, c4, l4, rfl, HR.out⟩
      rw [HX.out] at hr
      exact hr.from hb (by omega)
end Go.Proofs.Ytjnabmchejdhpaa
