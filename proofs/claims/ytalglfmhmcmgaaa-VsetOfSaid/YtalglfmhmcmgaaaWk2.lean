/- The walks of VsetOf and VsetTwo. -/
import Derived.Test.YtalglfmhmcmgaaaWk1
import Derived.Test.YtalglfmhmcmgaaaOpen
namespace Go.Proofs.Ytalglfmhmcmgaaa
open Go.RowKit

theorem few_of (A : Option Addr) (ca : Nat) (l : List Int) (w : World) (_h : RI w w.heap.size A l) (hl : l.length ≤ maxLen) (hA : A = none → ca = 0) (hc : l.length ≤ ca) (hm : ca ≤ maxLen) :
    ∃ L : List Int, L.length ≤ 60 ∧ ∀ W : World, RI W W.heap.size A l → Calls Try.prog 7 #[.slice A l.length ca] W fun r w' => ∃ ca', r = .returned (.slice A L.length ca') ∧ RI W W.heap.size A L ∧ (A = none → ca' = 0) ∧ W = w' :=
  ⟨l.take 60, by rw [List.length_take]; omega, fun W hW => few_any A ca l W hW hA hl hc hm⟩
theorem set_len {l : List Int} (h : l.length ≤ 60) : (setL l).length ≤ 60 := Nat.le_trans (set_le l) h

set_option maxHeartbeats 4000000 in
theorem vsetOf_walk (a0 : Option Addr) (cap0 : Nat) (l0 : List Int) (a1 : Int) (w : World) (w0 : RI w w.heap.size a0 l0) (m0 : l0.length ≤ maxLen) (n0 : a0 = none → cap0 = 0) (x0 : l0.length ≤ cap0) (y0 : cap0 ≤ maxLen) (_w1 : (Lit.int .i64 a1).wf = true) :
    Calls Try.prog 3 #[.slice a0 l0.length cap0, .int .i64 a1] w fun e w' => e = .returned (.bool true) ∧ Below w.heap.size w w' := by
  obtain ⟨i0, hi0, hz0, hz1, hz2⟩ := info_parts info3
  clear _w1
  obtain ⟨L, hL, hfew⟩ := few_of a0 cap0 l0 w w0 m0 n0 x0 y0
  have HF := Lib.hid (hfew w w0)
  have hsl := set_len hL
  have hE := Lib.hid (Own.empty w)
  have hbw0 : Below w.heap.size w (w.alloc (.cells #[] 3)) := (Below.refl _ _).alloc (Nat.le_refl _) _
  have HIx := Lib.hid (inc_of (set_inc L))
  clear hfew w0 m0 n0 x0 y0
  go_enter Try.func3, Try.ntmps3
  go_wp2_with fail
  refine HF.out.mono ?_; rintro e w' ⟨c1, rfl, R0, N0, rfl⟩
  have HR0 := Lib.hid R0
  clear HF
  cases a0 with
  | none =>
    obtain rfl : L = [] := R0.none_nil
    obtain rfl : c1 = 0 := N0 rfl
    clear N0 R0
    go_wp2_with (at_builtin; refine wpList_append_own_none rfl _ _ 22 rfl w.heap.size 3 i0 1 Try.underlying22 hi0 _ _ _ rfl hE.out rfl ?_)
    have hbw1 := hbw0
    obtain ⟨A2, c2, hv, R2, _⟩ := hE.out.form
    cases hv
    have K0 := Lib.hid (HR0.out.step hbw1)
    have K2 := Lib.hid R2
    clear R2
    go_wp2_with fail
    refine (vset_Of _ _ [] _ K0.out (by decide)).mono ?_; rintro e u_1 hG
    obtain ⟨A3, c3, rfl, r3, _, hb⟩ := hG.gives
    clear hG
    have A0_2 := Lib.hid (K0.out.step hb)
    have WAS_2 := Lib.hid (K2.out.step hb)
    have hbw_2 := hbw1.trans (hb.mono hbw1.size)
    clear hb K0 K2 hbw1
    have X_3 := Lib.hid r3
    clear r3
    go_wp2_with fail
    refine (ref_Of _ _ [] _ A0_2.out (by decide)).mono ?_; rintro e u_4 ⟨A4, c4, rfl, r4, _, hb⟩
    have A0_5 := Lib.hid (A0_2.out.step hb)
    have WAS_5 := Lib.hid (WAS_2.out.step hb)
    have X_5 := Lib.hid (X_3.out.step hb)
    have hbw_5 := hbw_2.trans (hb.mono hbw_2.size)
    clear hb A0_2 WAS_2 X_3 hbw_2
    have Y_6 := Lib.hid r4
    clear r4
    go_wp2_with fail
    refine (same_yes _ _ _ _ _ (setL []) _ rfl X_5.out Y_6.out (by omega)).mono ?_; rintro e u_7 ⟨rfl, hb⟩
    have A0_8 := Lib.hid (A0_5.out.step hb)
    have WAS_8 := Lib.hid (WAS_5.out.step hb)
    have X_8 := Lib.hid (X_5.out.step hb)
    have hbw_8 := hbw_5.trans (hb.mono hbw_5.size)
    clear hb A0_5 WAS_5 X_5 hbw_5
    go_wp2_with fail
    refine (same_yes _ _ _ _ _ [] _ rfl A0_8.out WAS_8.out (by decide)).mono ?_; rintro e u_9 ⟨rfl, hb⟩
    have A0_10 := Lib.hid (A0_8.out.step hb)
    have X_10 := Lib.hid (X_8.out.step hb)
    have hbw_10 := hbw_8.trans (hb.mono hbw_8.size)
    clear hb A0_8 X_8 hbw_8
    obtain ⟨q, hq⟩ : ∃ q, incB [] = q := ⟨_, rfl⟩
    go_wp2_with fail
    refine (vset_Right _ _ [] _ A0_10.out (by decide)).mono ?_; rintro e u_11 ⟨rfl, hb⟩
    rw [hq]
    have A0_12 := Lib.hid (A0_10.out.step hb)
    have X_12 := Lib.hid (X_10.out.step hb)
    have hbw_12 := hbw_10.trans (hb.mono hbw_10.size)
    clear hb A0_10 X_10 hbw_10
    go_wp2_with fail
    refine (ref_Right _ _ [] _ A0_12.out (by decide)).mono ?_; rintro e u_13 ⟨rfl, hb⟩
    rw [hq]
    clear hq
    have A0_14 := Lib.hid (A0_12.out.step hb)
    have X_14 := Lib.hid (X_12.out.step hb)
    have hbw_14 := hbw_12.trans (hb.mono hbw_12.size)
    clear hb A0_12 X_12 hbw_12
    go_wp2_with fail
    refine (vset_Right _ _ (setL []) _ X_14.out (by omega)).mono ?_; rintro e u_15 ⟨rfl, hb⟩
    rw [HIx.out]
    have A0_16 := Lib.hid (A0_14.out.step hb)
    have hbw_16 := hbw_14.trans (hb.mono hbw_14.size)
    clear hb A0_14 hbw_14
    obtain ⟨p, hp⟩ : ∃ p, decide (a1 ∈ []) = p := ⟨_, rfl⟩
    go_wp2_with fail
    refine (vset_Has _ _ [] _ _ A0_16.out (by decide)).mono ?_; rintro e w_ ⟨rfl, rfl⟩
    rw [hp]
    go_wp2_with fail
    refine (ref_Has _ _ [] _ _ A0_16.out (by decide)).mono ?_; rintro e w_ ⟨rfl, rfl⟩
    rw [hp]
    clear hp
    go_wp2_with fail
    refine (lives_any _).mono ?_; rintro e u_17 ⟨rfl, hb⟩
    have hbw_18 := hbw_16.trans (hb.mono hbw_16.size)
    clear hb hbw_16
    go_wp2
    go_ret
    exact ⟨rfl, hbw_18⟩
  | some ad =>
    have hsrc : Hid (∀ j u, (L.map (Value.int .i64))[j]? = some u → (w.alloc (.cells #[] 3)).cell? (ad.add j) = some u) := fun j u hj => by
      obtain ⟨h1, h2⟩ := R0.src j u hj
      rw [World.cell?_alloc_lt _ _ _ h2]; exact h1
    clear N0 R0
    go_wp2_with (at_builtin; refine wpList_append_own _ rfl _ _ 22 rfl w.heap.size 3 i0 _ 1 8 Try.underlying22 hi0 hz0 hz1 hz2 rfl (by decide) _ _ _ rfl hE.out ad L.length c1 (L.map (Value.int .i64)) rfl (by simp) hsrc.out (by intro v hv; rw [List.mem_map] at hv; obtain ⟨_, _, rfl⟩ := hv; rfl) (by unfold maxLen; simp; omega) (by simp; omega) (by simp) ?_; intro v2 w1 hown hg1 _; have hbw1 := growE hg1; have hO : Own w1 w.heap.size v2 L := (by unfold Own; simpa using hown); clear hown hg1 hsrc; obtain ⟨A2, c2, rfl, R2, _⟩ := hO.form; clear hO)
    have K0 := Lib.hid (HR0.out.step hbw1)
    have K2 := Lib.hid R2
    clear R2
    go_wp2_with fail
    refine (vset_Of _ _ L _ K0.out (by omega)).mono ?_; rintro e u_1 hG
    obtain ⟨A3, c3, rfl, r3, _, hb⟩ := hG.gives
    clear hG
    have A0_2 := Lib.hid (K0.out.step hb)
    have WAS_2 := Lib.hid (K2.out.step hb)
    have hbw_2 := hbw1.trans (hb.mono hbw1.size)
    clear hb K0 K2 hbw1
    have X_3 := Lib.hid r3
    clear r3
    go_wp2_with fail
    refine (ref_Of _ _ L _ A0_2.out (by omega)).mono ?_; rintro e u_4 ⟨A4, c4, rfl, r4, _, hb⟩
    have A0_5 := Lib.hid (A0_2.out.step hb)
    have WAS_5 := Lib.hid (WAS_2.out.step hb)
    have X_5 := Lib.hid (X_3.out.step hb)
    have hbw_5 := hbw_2.trans (hb.mono hbw_2.size)
    clear hb A0_2 WAS_2 X_3 hbw_2
    have Y_6 := Lib.hid r4
    clear r4
    go_wp2_with fail
    refine (same_yes _ _ _ _ _ (setL L) _ rfl X_5.out Y_6.out (by omega)).mono ?_; rintro e u_7 ⟨rfl, hb⟩
    have A0_8 := Lib.hid (A0_5.out.step hb)
    have WAS_8 := Lib.hid (WAS_5.out.step hb)
    have X_8 := Lib.hid (X_5.out.step hb)
    have hbw_8 := hbw_5.trans (hb.mono hbw_5.size)
    clear hb A0_5 WAS_5 X_5 hbw_5
    go_wp2_with fail
    refine (same_yes _ _ _ _ _ L _ rfl A0_8.out WAS_8.out (by omega)).mono ?_; rintro e u_9 ⟨rfl, hb⟩
    have A0_10 := Lib.hid (A0_8.out.step hb)
    have X_10 := Lib.hid (X_8.out.step hb)
    have hbw_10 := hbw_8.trans (hb.mono hbw_8.size)
    clear hb A0_8 X_8 hbw_8
    obtain ⟨q, hq⟩ : ∃ q, incB L = q := ⟨_, rfl⟩
    go_wp2_with fail
    refine (vset_Right _ _ L _ A0_10.out (by omega)).mono ?_; rintro e u_11 ⟨rfl, hb⟩
    rw [hq]
    have A0_12 := Lib.hid (A0_10.out.step hb)
    have X_12 := Lib.hid (X_10.out.step hb)
    have hbw_12 := hbw_10.trans (hb.mono hbw_10.size)
    clear hb A0_10 X_10 hbw_10
    go_wp2_with fail
    refine (ref_Right _ _ L _ A0_12.out (by omega)).mono ?_; rintro e u_13 ⟨rfl, hb⟩
    rw [hq]
    clear hq
    have A0_14 := Lib.hid (A0_12.out.step hb)
    have X_14 := Lib.hid (X_12.out.step hb)
    have hbw_14 := hbw_12.trans (hb.mono hbw_12.size)
    clear hb A0_12 X_12 hbw_12
    go_wp2_with fail
    refine (vset_Right _ _ (setL L) _ X_14.out (by omega)).mono ?_; rintro e u_15 ⟨rfl, hb⟩
    rw [HIx.out]
    have A0_16 := Lib.hid (A0_14.out.step hb)
    have hbw_16 := hbw_14.trans (hb.mono hbw_14.size)
    clear hb A0_14 hbw_14
    obtain ⟨p, hp⟩ : ∃ p, decide (a1 ∈ L) = p := ⟨_, rfl⟩
    go_wp2_with fail
    refine (vset_Has _ _ L _ _ A0_16.out (by omega)).mono ?_; rintro e w_ ⟨rfl, rfl⟩
    rw [hp]
    go_wp2_with fail
    refine (ref_Has _ _ L _ _ A0_16.out (by omega)).mono ?_; rintro e w_ ⟨rfl, rfl⟩
    rw [hp]
    clear hp
    go_wp2_with fail
    refine (lives_any _).mono ?_; rintro e u_17 ⟨rfl, hb⟩
    have hbw_18 := hbw_16.trans (hb.mono hbw_16.size)
    clear hb hbw_16
    go_wp2
    go_ret
    exact ⟨rfl, hbw_18⟩

set_option maxHeartbeats 4000000 in
theorem vsetTwo_walk (a0 : Option Addr) (cap0 : Nat) (l0 : List Int) (a1 : Option Addr) (cap1 : Nat) (l1 : List Int) (w : World) (w0 : RI w w.heap.size a0 l0) (m0 : l0.length ≤ maxLen) (n0 : a0 = none → cap0 = 0) (x0 : l0.length ≤ cap0) (y0 : cap0 ≤ maxLen) (w1 : RI w w.heap.size a1 l1) (m1 : l1.length ≤ maxLen) (n1 : a1 = none → cap1 = 0) (x1 : l1.length ≤ cap1) (y1 : cap1 ≤ maxLen) :
    Calls Try.prog 4 #[.slice a0 l0.length cap0, .slice a1 l1.length cap1] w fun e w' => e = .returned (.bool true) ∧ Below w.heap.size w w' := by
  obtain ⟨a, hL, hfew⟩ := few_of a0 cap0 l0 w w0 m0 n0 x0 y0
  obtain ⟨b, hL2, hfew2⟩ := few_of a1 cap1 l1 w w1 m1 n1 x1 y1
  have HF := Lib.hid (hfew w w0)
  have HF2 := Lib.hid (hfew2 w w1)
  have hsa := set_len hL
  have hsb := set_len hL2
  have hca : ∀ q, (chs a b q).length ≤ 60 := fun q => by
    unfold chs
    exact Nat.le_trans (set_le _) (Nat.le_trans (List.length_filter_le _ _) hL)
  have hc1 := hca true
  have hc2 := hca false
  clear hfew hfew2 hca w0 m0 n0 x0 y0 w1 m1 n1 x1 y1
  go_enter Try.func4, Try.ntmps4
  go_wp2_with fail
  refine HF.out.mono ?_; rintro e w' ⟨c1, rfl, R0, N0, rfl⟩
  have K0 := Lib.hid R0
  clear HF N0 R0
  go_wp2_with fail
  refine HF2.out.mono ?_; rintro e w' ⟨c2, rfl, R1, N1, rfl⟩
  have K1 := Lib.hid R1
  clear HF2 N1 R1
  go_wp2_with fail
  refine (vset_Meet _ _ _ _ a b _ K0.out K1.out (by omega) (by omega)).mono ?_; rintro e u_1 ⟨A3, c3, rfl, r3, _, hb⟩
  have A_2 := Lib.hid (K0.out.step hb)
  have B_2 := Lib.hid (K1.out.step hb)
  have hbw_2 := hb
  clear hb K0 K1
  have X_3 := Lib.hid r3
  clear r3
  go_wp2_with fail
  refine (ref_Meet _ _ _ _ a b _ A_2.out B_2.out (by omega) (by omega)).mono ?_; rintro e u_4 ⟨A4, c4, rfl, r4, _, hb⟩
  have A_5 := Lib.hid (A_2.out.step hb)
  have B_5 := Lib.hid (B_2.out.step hb)
  have X_5 := Lib.hid (X_3.out.step hb)
  have hbw_5 := hbw_2.trans (hb.mono hbw_2.size)
  clear hb A_2 B_2 X_3 hbw_2
  have Y_6 := Lib.hid r4
  clear r4
  go_wp2_with fail
  refine (same_yes _ _ _ _ _ (chs a b true) _ rfl X_5.out Y_6.out (by omega)).mono ?_; rintro e u_7 ⟨rfl, hb⟩
  have A_8 := Lib.hid (A_5.out.step hb)
  have B_8 := Lib.hid (B_5.out.step hb)
  have hbw_8 := hbw_5.trans (hb.mono hbw_5.size)
  clear hb A_5 B_5 hbw_5
  go_wp2_with fail
  refine (vset_Less _ _ _ _ a b _ A_8.out B_8.out (by omega) (by omega)).mono ?_; rintro e u_9 ⟨A3, c3, rfl, r3, _, hb⟩
  have A_10 := Lib.hid (A_8.out.step hb)
  have B_10 := Lib.hid (B_8.out.step hb)
  have hbw_10 := hbw_8.trans (hb.mono hbw_8.size)
  clear hb A_8 B_8 hbw_8
  have X_11 := Lib.hid r3
  clear r3
  go_wp2_with fail
  refine (ref_Less _ _ _ _ a b _ A_10.out B_10.out (by omega) (by omega)).mono ?_; rintro e u_12 ⟨A4, c4, rfl, r4, _, hb⟩
  have A_13 := Lib.hid (A_10.out.step hb)
  have B_13 := Lib.hid (B_10.out.step hb)
  have X_13 := Lib.hid (X_11.out.step hb)
  have hbw_13 := hbw_10.trans (hb.mono hbw_10.size)
  clear hb A_10 B_10 X_11 hbw_10
  have Y_14 := Lib.hid r4
  clear r4
  go_wp2_with fail
  refine (same_yes _ _ _ _ _ (chs a b false) _ rfl X_13.out Y_14.out (by omega)).mono ?_; rintro e u_15 ⟨rfl, hb⟩
  have A_16 := Lib.hid (A_13.out.step hb)
  have B_16 := Lib.hid (B_13.out.step hb)
  have hbw_16 := hbw_13.trans (hb.mono hbw_13.size)
  clear hb A_13 B_13 hbw_13
  obtain ⟨q, hq⟩ : ∃ q, decide (chs a b false = []) = q := ⟨_, rfl⟩
  go_wp2_with fail
  refine (vset_Within _ _ _ _ a b _ A_16.out B_16.out (by omega) (by omega)).mono ?_; rintro e u_17 ⟨rfl, hb⟩
  rw [hq]
  have A_18 := Lib.hid (A_16.out.step hb)
  have B_18 := Lib.hid (B_16.out.step hb)
  have hbw_18 := hbw_16.trans (hb.mono hbw_16.size)
  clear hb A_16 B_16 hbw_16
  go_wp2_with fail
  refine (ref_Within _ _ _ _ a b _ A_18.out B_18.out (by omega) (by omega)).mono ?_; rintro e u_19 ⟨rfl, hb⟩
  rw [hq]
  clear hq
  have A_20 := Lib.hid (A_18.out.step hb)
  have B_20 := Lib.hid (B_18.out.step hb)
  have hbw_20 := hbw_18.trans (hb.mono hbw_18.size)
  clear hb A_18 B_18 hbw_18
  obtain ⟨p, hp⟩ : ∃ p, decide (setL a = setL b) = p := ⟨_, rfl⟩
  go_wp2_with fail
  refine (vset_Same _ _ _ _ a b _ A_20.out B_20.out (by omega) (by omega)).mono ?_; rintro e u_21 ⟨rfl, hb⟩
  rw [hp]
  have A_22 := Lib.hid (A_20.out.step hb)
  have B_22 := Lib.hid (B_20.out.step hb)
  have hbw_22 := hbw_20.trans (hb.mono hbw_20.size)
  clear hb A_20 B_20 hbw_20
  go_wp2_with fail
  refine (ref_Of _ _ a _ A_22.out (by omega)).mono ?_; rintro e u_23 ⟨A5, c5, rfl, r5, _, hb⟩
  have A_24 := Lib.hid (A_22.out.step hb)
  have B_24 := Lib.hid (B_22.out.step hb)
  have hbw_24 := hbw_22.trans (hb.mono hbw_22.size)
  clear hb A_22 B_22 hbw_22
  have X_25 := Lib.hid r5
  clear r5
  go_wp2_with fail
  refine (ref_Of _ _ b _ B_24.out (by omega)).mono ?_; rintro e u_26 ⟨A6, c6, rfl, r6, _, hb⟩
  have A_27 := Lib.hid (A_24.out.step hb)
  have B_27 := Lib.hid (B_24.out.step hb)
  have X_27 := Lib.hid (X_25.out.step hb)
  have hbw_27 := hbw_24.trans (hb.mono hbw_24.size)
  clear hb A_24 B_24 X_25 hbw_24
  have Y_28 := Lib.hid r6
  clear r6
  go_wp2_with fail
  refine (ref_Same _ _ _ _ (setL a) (setL b) _ X_27.out Y_28.out (by omega) (by omega)).mono ?_; rintro e u_29 ⟨rfl, hb⟩
  rw [hp]
  clear hp
  have A_30 := Lib.hid (A_27.out.step hb)
  have B_30 := Lib.hid (B_27.out.step hb)
  have hbw_30 := hbw_27.trans (hb.mono hbw_27.size)
  clear hb A_27 B_27 hbw_27
  go_wp2_with fail
  refine (lives_any _).mono ?_; rintro e u_31 ⟨rfl, hb⟩
  have hbw_32 := hbw_30.trans (hb.mono hbw_30.size)
  clear hb hbw_30
  go_wp2
  go_ret
  exact ⟨rfl, hbw_32⟩
end Go.Proofs.Ytalglfmhmcmgaaa
