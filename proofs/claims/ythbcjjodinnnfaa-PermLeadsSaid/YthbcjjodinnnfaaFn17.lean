/- Contract of Steps of the specification of layer 5 (perm), over the translation. -/
import Derived.Test.YthbcjjodinnnfaaFn16
namespace Go.Proofs.Ythbcjjodinnnfaa
open Go.RowKit

theorem Own.other {w w1 : World} {B2 : Nat} {v2 : Value} {l2 : List Int} {row : Option Nat} (h : Own w B2 v2 l2) (hr : ∀ k, row = some k → k < B2) (hg : w.grownBy w1 row) : Own w1 B2 v2 l2 := by
  obtain ⟨h1, h2⟩ := h
  refine ⟨h1, ?_⟩
  rcases h2 with h2 | ⟨g2, cap, cur, e, hg2, hh, r⟩
  · exact .inl h2
  · have hlt : g2 < w.heap.size := by
      rcases Nat.lt_or_ge g2 w.heap.size with q | q
      · exact q
      · rw [Array.getElem?_eq_none q] at hh; cases hh
    exact .inr ⟨g2, cap, cur, e, hg2, (hg.block g2 hlt (fun e2 => by have := hr g2 e2.symm; omega)).trans hh, r⟩
theorem Own.alloc1 {w : World} {B : Nat} {v : Value} {l : List Int} (h : Own w B v l) (o : Obj) : Own (w.alloc o) B v l := World.ownsRow.alloc h o
theorem Own.lt {w : World} {B : Nat} {v : Value} {l : List Int} (h : Own w B v l) (k : Nat) (e : v.ownBlock = some k) : k < w.heap.size := by
  rcases h.2 with ⟨rfl, _⟩ | ⟨g, cap, cur, rfl, hg, hh, _⟩
  · simp [Value.ownBlock] at e
  · simp [Value.ownBlock] at e
    subst e
    rcases Nat.lt_or_ge g w.heap.size with q | q
    · exact q
    · rw [Array.getElem?_eq_none q] at hh; cases hh

set_option maxHeartbeats 1000000 in
theorem ref_Steps_yes (A C : Option Addr) (ca cb : Nat) (a b : List Int) (w : World) (ha : RI w w.heap.size A a) (hA : A = none → ca = 0) (hb : RI w w.heap.size C b) (la : a.length ≤ 1000) (lb' : b.length ≤ 1000) (ra : rightB a = true) (rb : rightB b = true) (hab : a.length = b.length) :
    Calls Try.prog 22 #[.slice A a.length ca, .slice C b.length cb] w fun r w' => ∃ v, r = .returned (.tuple #[v, .int .i64 0]) ∧ Own w' w.heap.size v (stp 0 a b) ∧ Below w.heap.size w w' := by
  obtain ⟨i0, hi0, hz0, hz1, hz2⟩ := info_parts info3
  have HA := Lib.hid ha
  have HB := Lib.hid hb
  have hL := like_right (right_ok ra) (right_ok rb) hab
  have HL := Lib.hid hL
  have hS := stp_le b a 0 1000 hL la
  have hS2 : (stp 0 a b).length ≤ 1000000 := by have := Nat.mul_le_mul_right 1000 lb'; omega
  obtain ⟨S, hSS⟩ : ∃ S, stp 0 a b = S := ⟨_, rfl⟩
  rw [hSS] at hS2 ⊢
  have HSS := Lib.hid hSS
  have hne : ((a.length : Int) != (b.length : Int)) = false := by simp [hab]
  have HAB := Lib.hid hab
  have HNB := Lib.hid (right_ok rb)
  have HCA := Lib.hid hA
  clear ha hb hL hS hSS hab hA
  go_enter Try.func22, Try.ntmps22
  go_wp2_with fail
  refine (ref_Right _ _ _ _ HA.out (by omega)).mono ?_
  rintro e w1 ⟨rfl, hb1⟩; rw [ra]
  have HB1 := Lib.hid (HB.out.step hb1)
  have HA1 := Lib.hid (HA.out.step hb1)
  go_wp2_with fail
  refine (ref_Right _ _ _ _ HB1.out (by omega)).mono ?_
  rintro e w2 ⟨rfl, hb2⟩; rw [rb]
  have hb12 := hb1.trans (hb2.mono hb1.size)
  have HB2 := Lib.hid (HB.out.below hb12)
  have HA2 := Lib.hid (HA1.out.step hb2)
  clear HB1 HA1 hb1 hb2
  go_wp2
  go_loopw [0, 6, 7] (fun s v i wr => ∃ (k : Nat) (rest z out : List Int) (A' : Option Addr) (c' : Nat), k ≤ b.length ∧ i = .int .i64 k ∧ s = .slice A' (b.take k ++ rest).length c' ∧ (A' = none → c' = 0) ∧ RI wr wr.heap.size A' (b.take k ++ rest) ∧ Own wr w.heap.size v out ∧ Hid (SRel b S a.length k rest z out) ∧ Below w.heap.size w wr) (fun _ _ i _ => b.length - (intOf i).toNat)
  case atStart =>
    have hE := (Own.empty w2).less (hb12.size)
    exact ⟨0, a, [], [], A, ca, Nat.zero_le _, rfl, rfl, HCA.out, by simpa using HA2.out.step ((Below.refl _ _).alloc (Nat.le_refl _) _), hE, by rw [← HSS.out]; exact SRel.start HL.out, hb12.alloc hb12.size _⟩
  case round =>
    obtain ⟨k, rest, z, out, A', c', hk, rfl, rfl, hA', hR, hO, HR, hbw⟩ := hrel
    have HO := Lib.hid hO
    have HRI := Lib.hid hR
    have HA' := Lib.hid hA'
    clear hO hR hA'
    by_cases hlt : k < b.length
    · obtain ⟨bb, off, rfl, hbb, hc⟩ := HB.out (by omega)
      have e1 := (hbw.cell (p := ⟨bb, off + k, none⟩) hbb).trans (hc k hlt)
      have h1' : (k : Int) < (b.length : Int) := by omega
      have hm := HR.out.mem hlt
      have hsm := HR.out.small hlt
      have HN := Lib.hid (HR.out.next hlt)
      have hlen : (b.take k ++ rest).length = a.length := by have := HR.out.len; rw [List.length_append, List.length_take]; omega
      have hpl : placeL (b.take k ++ rest) (li b k) = (k : Int) + (rest.idxOf (li b k) : Nat) := by
        have hni : li b k ∉ b.take k := fun hx => by
          obtain ⟨j, hj, e⟩ := List.getElem_of_mem hx
          rw [List.length_take] at hj
          have h2 := (HNB.out k hlt).2 j (by omega)
          rw [List.getElem_take, ← li_get] at e
          exact h2 e
        rw [place_mem' (by rw [List.mem_append]; exact .inr hm.1), idx_app hni, List.length_take]; omega
      have hfront := down_front (p := b.take k) hm.1
      rw [List.length_take, show min k b.length = k by omega] at hfront
      have htk : b.take k ++ [li b k] = b.take (k + 1) := by rw [List.take_succ_eq_append_getElem hlt, li_get hlt]
      rw [htk] at hfront
      obtain ⟨f, hf⟩ : ∃ f, rest.idxOf (li b k) = f := ⟨_, rfl⟩
      obtain ⟨vk, hvk⟩ : ∃ vk, li b k = vk := ⟨_, rfl⟩
      obtain ⟨cur, hcur⟩ : ∃ cur, b.take k ++ rest = cur := ⟨_, rfl⟩
      rw [hcur] at hlen hpl hfront HRI
      rw [hf] at hpl hsm HN hfront
      have hfl : k + f < a.length := by have := HR.out.len; have := hm.2; omega
      have HPl : Hid (Calls Try.prog 24 #[.slice A' cur.length c', .int .i64 (li b k)] wr fun e w' => e = .returned (.int .i64 ((k : Int) + (f : Int))) ∧ wr = w') := by
        have := ref_Place A' c' cur (li b k) wr HRI.out (by omega)
        rw [hpl] at this
        exact this
      have HF := Lib.hid hfront
      have hkb : (k : Int) ≤ 1000 := by omega
      have hfb : (f : Int) ≤ 1000 := by omega
      have HLn := Lib.hid hlen
      rw [hcur]
      clear hm hf hvk hc hcur hpl hfront hlen htk
      go_wp2_with fail
      refine HPl.out.mono ?_; rintro e w5 ⟨rfl, rfl⟩
      clear HPl
      go_wp2
      go_loopw [0, 6, 8] (fun s v at_ wx => ∃ (t : Nat) (A' : Option Addr) (c' : Nat), k ≤ t ∧ t ≤ k + f ∧ at_ = .int .i64 t ∧ s = .slice A' (downL cur (k + f) (k + f - t)).length c' ∧ (A' = none → c' = 0) ∧ RI wx wx.heap.size A' (downL cur (k + f) (k + f - t)) ∧ Own wx w.heap.size v (out ++ downs k f (k + f - t)) ∧ Below w.heap.size w wx) (fun _ _ at_ _ => (intOf at_).toNat - k)
      case atStart => exact ⟨k + f, A', c', by omega, by omega, by go_num, by rw [Nat.sub_self]; rfl, HA'.out, by rw [Nat.sub_self]; exact HRI.out, by rw [Nat.sub_self]; simpa [downs] using HO.out, hbw⟩
      case round =>
        obtain ⟨t, A2, c2, ht1, ht2, rfl, rfl, hA2, hR2, hO2, hbw2⟩ := hrel
        have HO2 := Lib.hid hO2
        have HR2 := Lib.hid hR2
        have HA2 := Lib.hid hA2
        clear hO2 hR2 hA2
        by_cases hgt : k < t
        · have h2' : (k : Int) < (t : Int) := by omega
          have hdl : (out ++ downs k f (k + f - t)).length ≤ 2000000 := by rw [List.length_append, downs_len]; omega
          have HOP : ∀ v' w', World.ownsRow w' w.heap.size 3 1 v' ((out ++ downs k f (k + f - t)).length + 1) ((out ++ downs k f (k + f - t)).map (Value.int .i64) ++ [.int .i64 ((t : Int) - 1)]) → Hid (Own w' w.heap.size v' (out ++ downs k f (k + f - (t - 1)))) := fun v' w' h => by
            show Own _ _ _ _
            have e : ((t : Int) - 1) = ((k + f - 1 - (k + f - t) : Nat) : Int) := by omega
            rw [show k + f - (t - 1) = (k + f - t) + 1 by omega, downs_succ, ← List.append_assoc, ← e]
            exact Own.push h
          have HSw : Hid (Calls Try.prog 16 #[.slice A2 (downL cur (k + f) (k + f - t)).length c2, .int .i64 ((t : Int) - 1)] wr fun r w' => ∃ v, r = .returned v ∧ Own w' wr.heap.size v (downL cur (k + f) (k + f - (t - 1))) ∧ Below wr.heap.size wr w') := by
            have := ref_Swap A2 c2 (downL cur (k + f) (k + f - t)) ((t - 1 : Nat) : Int) wr HR2.out HA2.out (by rw [downL_len, HLn.out]; omega)
            rw [swapF_in (by rw [downL_len, HLn.out]; omega), show ((t - 1 : Nat) : Int) = (t : Int) - 1 by omega] at this
            have e : k + f - (t - 1) = (k + f - t) + 1 := by omega
            rw [e]
            show Calls _ _ _ _ _
            have e2 : downL cur (k + f) (k + f - t + 1) = swapL (downL cur (k + f) (k + f - t)) (t - 1) := by
              show swapL _ _ = _
              congr 1; omega
            rw [e2]
            exact this
          obtain ⟨OO, hOO⟩ : ∃ OO, out ++ downs k f (k + f - t) = OO := ⟨_, rfl⟩
          rw [hOO] at hdl HOP HO2
          clear hOO
          go_wp2_with fail
          refine HSw.out.mono ?_; rintro e w7 ⟨v7, rfl, hO7, hb7⟩
          have HO7 := Lib.hid hO7
          have HO8 := Lib.hid (HO2.out.keep hb7)
          have hlo := HO2.out.lt
          have HLO := Lib.hid hlo
          have hbw7 := hbw2.trans (hb7.mono hbw2.size)
          have hs7 := hb7.size
          clear HSw hO7 hlo hb7
          go_wp2_with (at_builtin; refine wpList_append_own _ rfl _ _ 22 rfl w.heap.size 3 i0 _ 1 8 Try.underlying22 hi0 hz0 hz1 hz2 rfl (by decide) _ _ _ rfl (World.ownsRow.alloc HO8.out _) ⟨w7.heap.size, 0, none⟩ 1 1 [.int .i64 ((t : Int) - 1)] rfl rfl (cell_one_new _ _ _) (by simp [Value.oneCell']) (max_ok (by omega)) (by omega) (by have := hbw7.size; simp; omega) ?_; intro v2 w8 hown hg8 _)
          have hO9 := (HO7.out.alloc1 _).other HLO.out hg8
          obtain ⟨A3, c3, rfl, hR3, hA3⟩ := hO9.form
          go_roundw
          case rel => exact ⟨t - 1, A3, c3, by omega, by omega, by go_num, rfl, hA3, hR3, (HOP _ _ hown).out, HO8.out.grow hbw7 hg8⟩
          case measure => simp [intOf]; omega
        · obtain rfl : t = k := by omega
          have HF2 : Hid (downL cur (t + f) (t + f - t) = b.take (t + 1) ++ rest.erase (li b t)) := by
            show _ = _
            rw [show t + f - t = f by omega]; exact HF.out
          have HD2 : Hid (out ++ downs t f (t + f - t) = out ++ downs t f f) := by show _ = _; rw [show t + f - t = f by omega]
          rw [HF2.out] at HR2 ⊢
          rw [HD2.out] at HO2
          go_wp2
          go_roundw
          case rel => exact ⟨t + 1, _, 0 :: z, _, A2, c2, by omega, by go_num, rfl, HA2.out, HR2.out, HO2.out, HN, hbw2⟩
          case measure => simp [intOf]; omega
    · obtain rfl : k = b.length := by omega
      have HD : Hid (out = S) := HR.out.done
      go_wp2
      go_ret2
      exact ⟨_, rfl, by rw [← HD.out]; exact HO.out, hbw⟩
end Go.Proofs.Ythbcjjodinnnfaa
