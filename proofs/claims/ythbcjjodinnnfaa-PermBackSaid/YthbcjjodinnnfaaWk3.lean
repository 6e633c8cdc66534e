/- The walk of PermLeads. -/
import Derived.Test.YthbcjjodinnnfaaWk2
namespace Go.Proofs.Ythbcjjodinnnfaa
open Go.RowKit

theorem fold_downs {L : List Int} {i f : Nat} (h : i + f < L.length) : ∀ k, k ≤ f → (downs i f k).foldl swapF L = downL L (i + f) k
  | 0, _ => by simp [downs, downL]
  | k + 1, hk => by
    rw [downs_succ, List.foldl_append, fold_downs h k (by omega)]
    show swapF _ _ = swapL _ _
    rw [swapF_in (by rw [downL_len]; omega)]
    congr 1; omega
theorem stp_fold : ∀ (b r p : List Int), Like r b → (stp p.length r b).foldl swapF (p ++ r) = p ++ b
  | [], r, p, h => by rw [h.nil]; simp [stp]
  | v :: bs, r, p, h => by
    have hm := h.mem
    have hlt : r.idxOf v < r.length := List.idxOf_lt_length_of_mem hm
    unfold stp
    rw [List.foldl_append, fold_downs (by rw [List.length_append]; omega) _ (Nat.le_refl _), down_front hm]
    have := stp_fold bs (r.erase v) (p ++ [v]) h.next
    rw [List.length_append] at this
    simpa using this
/-- a behind the first k of the swaps S. -/
def afterS (a S : List Int) (k : Nat) : List Int := (S.take k).foldl swapF a
theorem afterS_succ {a S : List Int} {k : Nat} (h : k < S.length) : afterS a S (k + 1) = swapF (afterS a S k) (li S k) := by
  unfold afterS
  rw [List.take_succ_eq_append_getElem h, List.foldl_append, li_get h]; rfl
theorem fold_len : ∀ (S a : List Int), (S.foldl swapF a).length = a.length
  | [], a => rfl
  | x :: t, a => by rw [List.foldl_cons, fold_len t, swapF_len]
theorem afterS_len (a S : List Int) (k : Nat) : (afterS a S k).length = a.length := fold_len _ _

set_option maxHeartbeats 2000000 in
theorem permLeads_walk (a0 : Option Addr) (cap0 : Nat) (l0 : List Int) (a1 : Option Addr) (cap1 : Nat) (l1 : List Int) (w : World) (w0 : RI w w.heap.size a0 l0) (m0 : l0.length ≤ maxLen) (_n0 : a0 = none → cap0 = 0) (w1 : RI w w.heap.size a1 l1) (_m1 : l1.length ≤ maxLen) (_n1 : a1 = none → cap1 = 0) :
    Calls Try.prog 5 #[.slice a0 l0.length cap0, .slice a1 l1.length cap1] w fun e w' => e = .returned (.bool true) ∧ Below w.heap.size w w' := by
  unfold maxLen at m0 _m1
  clear _n1 _n0
  by_cases hlt : 30 < l0.length
  · clear w0 w1
    have h1 : (30 : Int) < (l0.length : Int) := by omega
    go_enter Try.func5, Try.ntmps5
    go_wp2_with (go_at_call 7; refine (lives_any _).mono ?_; rintro e w1 ⟨rfl, hb1⟩)
    go_ret
    exact ⟨rfl, hb1⟩
  have h1 : (l0.length : Int) ≤ 30 := by omega
  by_cases hlen : l0.length = l1.length
  case neg =>
    clear w0 w1 hlt
    have hne : ((l0.length : Int) != (l1.length : Int)) = true := by simp; omega
    clear hlen
    go_enter Try.func5, Try.ntmps5
    go_wp2_with (go_at_call 7; refine (lives_any _).mono ?_; rintro e w1 ⟨rfl, hb1⟩)
    go_ret
    exact ⟨rfl, hb1⟩
  have hne : ((l0.length : Int) != (l1.length : Int)) = false := by simp; omega
  have hl0 : l0.length ≤ 1000 := by omega
  have hl1 : l1.length ≤ 1000 := by omega
  have H0 := Lib.hid w0
  have H1 := Lib.hid w1
  have HL := Lib.hid hlen
  clear w0 w1 hlt hlen m0 _m1
  cases ra : rightB l0
  · go_enter Try.func5, Try.ntmps5
    go_wp2_with fail
    refine (ref_Right _ _ _ _ H0.out (by omega)).mono ?_; rintro e w1 ⟨rfl, hb1⟩; rw [ra]
    go_wp2_with fail
    refine (lives_any _).mono ?_; rintro e w2 ⟨rfl, hb2⟩
    have hbw := hb1.trans (hb2.mono hb1.size)
    go_wp2
    go_ret
    exact ⟨rfl, hbw⟩
  cases rb : rightB l1
  · go_enter Try.func5, Try.ntmps5
    go_wp2_with fail
    refine (ref_Right _ _ _ _ H0.out (by omega)).mono ?_; rintro e w1 ⟨rfl, hb1⟩; rw [ra]
    have H11 := Lib.hid (H1.out.step hb1)
    go_wp2_with fail
    refine (ref_Right _ _ _ _ H11.out (by omega)).mono ?_; rintro e w1 ⟨rfl, hb2⟩; rw [rb]
    have hbw2 := hb1.trans (hb2.mono hb1.size)
    clear hb1 hb2
    go_wp2_with fail
    refine (lives_any _).mono ?_; rintro e w2 ⟨rfl, hb2⟩
    have hbw := hbw2.trans (hb2.mono hbw2.size)
    go_wp2
    go_ret
    exact ⟨rfl, hbw⟩
  have hLike := like_right (right_ok ra) (right_ok rb) HL.out
  have hsl := stp_le l1 l0 0 1000 hLike hl0
  have hsl2 : (stp 0 l0 l1).length ≤ 1000000 := by have := Nat.mul_le_mul_right 1000 hl1; omega
  have HLen := Lib.hid (stp_len l1 l0 0 hLike)
  have HSw := Lib.hid (stp_swaps l1 l0 [] hLike)
  have HFo := Lib.hid (stp_fold l1 l0 [] hLike)
  obtain ⟨S, hS⟩ : ∃ S, stp 0 l0 l1 = S := ⟨_, rfl⟩
  have RA := Lib.hid ra
  have RB := Lib.hid rb
  have HS := Lib.hid hS
  rw [hS] at hsl2 HLen
  clear hsl hLike ra rb hS
  go_enter Try.func5, Try.ntmps5
  go_wp2_with fail
  refine (ref_Right _ _ _ _ H0.out (by omega)).mono ?_; rintro e w1 ⟨rfl, hb1⟩; rw [RA.out]
  have H11 := Lib.hid (H1.out.step hb1)
  have H01 := Lib.hid (H0.out.step hb1)
  go_wp2_with fail
  refine (ref_Right _ _ _ _ H11.out (by omega)).mono ?_; rintro e w2 ⟨rfl, hb2⟩; rw [RB.out]
  have H12 := Lib.hid (H11.out.step hb2)
  have H02 := Lib.hid (H01.out.step hb2)
  have hbw2 := hb1.trans (hb2.mono hb1.size)
  clear hb1 hb2 H11 H01
  go_wp2_with fail
  refine (perm_Steps_yes _ _ _ _ _ _ _ H02.out H12.out hl0 hl1 RA.out RB.out HL.out).mono ?_; rintro e w3 ⟨v3, rfl, O3, hb3⟩
  rw [HS.out] at O3
  obtain ⟨A3, c3, rfl, R3, _⟩ := O3.form
  have HR3 := Lib.hid R3
  have H03 := Lib.hid (H02.out.step hb3)
  have H13 := Lib.hid (H12.out.step hb3)
  have hbw3 := hbw2.trans (hb3.mono hbw2.size)
  clear O3 R3 hb3 hbw2 H12 H02
  go_wp2_with fail
  refine (ref_Unlike _ _ _ _ _ _ _ H03.out H13.out hl0 hl1).mono ?_; rintro e w4 ⟨rfl, hb4⟩
  rw [← HLen.out]
  have HR4 := Lib.hid (HR3.out.step hb4)
  have H04 := Lib.hid (H03.out.step hb4)
  have hbw4 := hbw3.trans (hb4.mono hbw3.size)
  clear hb4 hbw3 H03 H13 HR3
  go_wp2
  go_loopw [7, 8] (fun x i wr => ∃ (k : Nat) (A : Option Addr) (c : Nat), k ≤ S.length ∧ i = .int .i64 k ∧ x = .slice A (afterS l0 S k).length c ∧ RI wr wr.heap.size A (afterS l0 S k) ∧ Below w4.heap.size w4 wr) (fun _ i _ => S.length - (intOf i).toNat)
  case atStart => exact ⟨0, a0, cap0, Nat.zero_le _, rfl, rfl, H04.out, Below.refl _ _⟩
  case round =>
    obtain ⟨k, A, c, hk, rfl, rfl, hR, hbr⟩ := hrel
    have HR := Lib.hid hR
    clear hR
    by_cases hlt : k < S.length
    · obtain ⟨bb, off, rfl, hbb, hc⟩ := HR4.out (by omega)
      have e1 := (hbr.cell (p := ⟨bb, off + k, none⟩) hbb).trans (hc k hlt)
      have hlt' : (k : Int) < (S.length : Int) := by omega
      have hmem : li S k ∈ stp ([] : List Int).length l0 l1 := by rw [show ([] : List Int).length = 0 from rfl, HS.out]; exact li_mem hlt
      obtain ⟨n, hn, hnl⟩ := HSw.out _ hmem
      have hnl' : (n : Int) < (l0.length : Int) - 1 := by simp at hnl; omega
      have HA := Lib.hid (afterS_succ (a := l0) hlt)
      have HAl := Lib.hid (afterS_len l0 S k)
      rw [hn] at e1 HA
      have HU := Lib.hid (uSwap A c (afterS l0 S k) wr HR.out (by rw [afterS_len]; omega) (n : Int))
      rw [← HA.out] at HU
      have HAl2 := Lib.hid (afterS_len l0 S (k + 1))
      obtain ⟨X, hX⟩ : ∃ X, afterS l0 S k = X := ⟨_, rfl⟩
      obtain ⟨Y, hY⟩ : ∃ Y, afterS l0 S (k + 1) = Y := ⟨_, rfl⟩
      rw [hX] at HU
      rw [hY] at HU
      rw [hX]
      have HY := Lib.hid hY
      clear hc hmem hn hnl HA hX hY
      go_wp2_with fail
      refine HU.out.mono ?_; rintro e w6 ⟨A6, c6, rfl, R6, _, hb6⟩
      have HR6 := Lib.hid R6
      have hbr6 := hbr.trans (hb6.mono hbr.size)
      clear R6 hb6 HU
      go_wp2
      go_roundw
      case rel => exact ⟨k + 1, A6, c6, by omega, by go_num, by rw [HY.out], by rw [HY.out]; exact HR6.out, hbr6⟩
      case measure => simp [intOf]; omega
    · obtain rfl : k = S.length := by omega
      have hF : afterS l0 S S.length = l1 := by
        have := HFo.out
        unfold afterS
        rw [List.take_length, ← HS.out]
        simpa using this
      have HF := Lib.hid hF
      rw [HF.out] at HR ⊢
      have hbwr := hbw4.trans (hbr.mono hbw4.size)
      have H1r := Lib.hid (H1.out.step hbwr)
      clear hF hbr
      go_wp2_with fail
      refine (same_yes _ _ _ _ _ l1 _ rfl HR.out H1r.out (by omega)).mono ?_; rintro e w8 ⟨rfl, hb8⟩
      have hbw8 := hbwr.trans (hb8.mono hbwr.size)
      clear hb8 hbwr
      go_wp2_with fail
      refine (lives_any _).mono ?_; rintro e w9 ⟨rfl, hb9⟩
      have hbw9 := hbw8.trans (hb9.mono hbw8.size)
      clear hb9 hbw8
      go_wp2
      go_ret
      exact ⟨rfl, hbw9⟩
end Go.Proofs.Ythbcjjodinnnfaa
