/- The walk of VsetParts. -/
import Derived.Test.YtalglfmhmcmgaaaWk2
namespace Go.Proofs.Ytalglfmhmcmgaaa
open Go.RowKit

theorem rr2n {w : World} {A B : Option Addr} {ca cb : Nat} {a b : List Int} (n : Nat) (hn : n = w.heap.size) (h0 : RI w w.heap.size A a) (h1 : RI w w.heap.size B b) (n0 : A = none → ca = 0) (n1 : B = none → cb = 0) :
    RR (w.alloc (.cells #[.slice A a.length ca, .slice B b.length cb] 22)) (w.alloc (.cells #[.slice A a.length ca, .slice B b.length cb] 22)).heap.size (some ⟨n, 0, none⟩) [(A, ca, a), (B, cb, b)] := by
  subst hn
  exact rr_mk (fun i hi => by
    have : i = 0 ∨ i = 1 := by simp at hi; omega
    rcases this with rfl | rfl
    · exact ⟨h0, n0⟩
    · exact ⟨h1, n1⟩) _ (fun i hi => by
    have : i = 0 ∨ i = 1 := by simp at hi; omega
    rcases this with rfl | rfl <;> rfl)
theorem rr3n {w : World} {A B C : Option Addr} {ca cb cc : Nat} {a b c : List Int} (n : Nat) (hn : n = w.heap.size) (h0 : RI w w.heap.size A a) (h1 : RI w w.heap.size B b) (h2 : RI w w.heap.size C c) (n0 : A = none → ca = 0) (n1 : B = none → cb = 0) (n2 : C = none → cc = 0) :
    RR (w.alloc (.cells #[.slice A a.length ca, .slice B b.length cb, .slice C c.length cc] 22)) (w.alloc (.cells #[.slice A a.length ca, .slice B b.length cb, .slice C c.length cc] 22)).heap.size (some ⟨n, 0, none⟩) [(A, ca, a), (B, cb, b), (C, cc, c)] := by
  subst hn
  exact rr_mk (fun i hi => by
    have : i = 0 ∨ i = 1 ∨ i = 2 := by simp at hi; omega
    rcases this with rfl | rfl | rfl
    · exact ⟨h0, n0⟩
    · exact ⟨h1, n1⟩
    · exact ⟨h2, n2⟩) _ (fun i hi => by
    have : i = 0 ∨ i = 1 ∨ i = 2 := by simp at hi; omega
    rcases this with rfl | rfl | rfl <;> rfl)
theorem rr4n {w : World} {A B C D : Option Addr} {ca cb cc cd : Nat} {a b c d : List Int} (n : Nat) (hn : n = w.heap.size) (h0 : RI w w.heap.size A a) (h1 : RI w w.heap.size B b) (h2 : RI w w.heap.size C c) (h3 : RI w w.heap.size D d) (n0 : A = none → ca = 0) (n1 : B = none → cb = 0) (n2 : C = none → cc = 0) (n3 : D = none → cd = 0) :
    RR (w.alloc (.cells #[.slice A a.length ca, .slice B b.length cb, .slice C c.length cc, .slice D d.length cd] 22)) (w.alloc (.cells #[.slice A a.length ca, .slice B b.length cb, .slice C c.length cc, .slice D d.length cd] 22)).heap.size (some ⟨n, 0, none⟩) [(A, ca, a), (B, cb, b), (C, cc, c), (D, cd, d)] := by
  subst hn
  exact rr_mk (fun i hi => by
    have : i = 0 ∨ i = 1 ∨ i = 2 ∨ i = 3 := by simp at hi; omega
    rcases this with rfl | rfl | rfl | rfl
    · exact ⟨h0, n0⟩
    · exact ⟨h1, n1⟩
    · exact ⟨h2, n2⟩
    · exact ⟨h3, n3⟩) _ (fun i hi => by
    have : i = 0 ∨ i = 1 ∨ i = 2 ∨ i = 3 := by simp at hi; omega
    rcases this with rfl | rfl | rfl | rfl <;> rfl)
theorem u2 (A C D : Option Addr) (ca cc cd : Nat) (a b : List Int) (w : World) (h : RR w w.heap.size A [(C, cc, a), (D, cd, b)]) (hl : a.length ≤ 300) (hl2 : b.length ≤ 300) : Calls Try.prog 23 #[.slice A 2 ca] w (Gives w (setL (a ++ b))) := by
  have e : allL [(C, cc, a), (D, cd, b)] 2 = a ++ b := by simp [allL]
  have := vset_Union A ca [(C, cc, a), (D, cd, b)] w h (by simp) (by show (allL _ 2).length ≤ _; rw [e]; simp; omega)
  rw [show [(C, cc, a), (D, cd, b)].length = 2 from rfl, e] at this
  exact this
theorem u3 (A C D E : Option Addr) (ca cc cd ce : Nat) (a b c : List Int) (w : World) (h : RR w w.heap.size A [(C, cc, a), (D, cd, b), (E, ce, c)]) (hl : a.length ≤ 300) (hl2 : b.length ≤ 300) (hl3 : c.length ≤ 300) : Calls Try.prog 23 #[.slice A 3 ca] w (Gives w (setL (a ++ b ++ c))) := by
  have e : allL [(C, cc, a), (D, cd, b), (E, ce, c)] 3 = a ++ b ++ c := by simp [allL]
  have := vset_Union A ca [(C, cc, a), (D, cd, b), (E, ce, c)] w h (by simp) (by show (allL _ 3).length ≤ _; rw [e]; simp; omega)
  rw [show [(C, cc, a), (D, cd, b), (E, ce, c)].length = 3 from rfl, e] at this
  exact this
theorem u4 (A C D E F : Option Addr) (ca cc cd ce cf : Nat) (a b c d : List Int) (w : World) (h : RR w w.heap.size A [(C, cc, a), (D, cd, b), (E, ce, c), (F, cf, d)]) (hl : a.length ≤ 300) (hl2 : b.length ≤ 300) (hl3 : c.length ≤ 300) (hl4 : d.length ≤ 300) : Calls Try.prog 23 #[.slice A 4 ca] w (Gives w (setL (a ++ b ++ c ++ d))) := by
  have e : allL [(C, cc, a), (D, cd, b), (E, ce, c), (F, cf, d)] 4 = a ++ b ++ c ++ d := by simp [allL]
  have := vset_Union A ca [(C, cc, a), (D, cd, b), (E, ce, c), (F, cf, d)] w h (by simp) (by show (allL _ 4).length ≤ _; rw [e]; simp; omega)
  rw [show [(C, cc, a), (D, cd, b), (E, ce, c), (F, cf, d)].length = 4 from rfl, e] at this
  exact this
theorem chs_mem (a b : List Int) (q : Bool) (x : Int) : x ∈ chs a b q ↔ x ∈ a ∧ decide (x ∈ b) = q := by
  unfold chs
  rw [set_mem, List.mem_filter]
  simp
theorem f1 (a b : List Int) : setL (setL (chs a b true ++ chs a b false)) = setL a := by
  rw [set_set]
  refine set_ext fun x => ?_
  rw [List.mem_append, chs_mem, chs_mem]
  by_cases h : x ∈ b <;> simp [h]
theorem nil_of {l : List Int} (h : ∀ x, x ∉ l) : l = [] := by
  cases l with
  | nil => rfl
  | cons x t => exact absurd (by simp) (h x)
theorem f2 (a b : List Int) : chs (chs a b true) (chs a b false) true = [] := nil_of fun x h => by
  rw [chs_mem, chs_mem] at h
  have h2 : x ∈ chs a b false := by simpa using h.2
  rw [chs_mem] at h2
  have h3 := h.1.2
  rw [h2.2] at h3
  cases h3
theorem f3 (a b c : List Int) : chs b (setL (a ++ b ++ c)) false = [] := nil_of fun x h => by
  rw [chs_mem] at h
  have : x ∈ setL (a ++ b ++ c) := by rw [set_mem]; simp [h.1]
  have h2 := h.2
  rw [decide_eq_false_iff_not] at h2
  exact h2 this
theorem f5 (a b c : List Int) : setL (c ++ b ++ a ++ b) = setL (a ++ b ++ c) := set_ext fun x => by
  simp only [List.mem_append]
  constructor
  · rintro (((h | h) | h) | h)
    · exact .inr h
    · exact .inl (.inr h)
    · exact .inl (.inl h)
    · exact .inl (.inr h)
  · rintro ((h | h) | h)
    · exact .inl (.inr h)
    · exact .inr h
    · exact .inl (.inl (.inl h))
theorem f6 (a b c : List Int) : setL (setL (a ++ b ++ c)) = setL (setL (setL (a ++ b) ++ c)) := by
  rw [set_set, set_set]
  refine set_ext fun x => ?_
  rw [List.mem_append, List.mem_append, List.mem_append, set_mem, List.mem_append]

set_option maxRecDepth 100000 in
set_option maxHeartbeats 4000000 in
theorem vsetParts_walk (a0 : Option Addr) (cap0 : Nat) (l0 : List Int) (a1 : Option Addr) (cap1 : Nat) (l1 : List Int) (a2 : Option Addr) (cap2 : Nat) (l2 : List Int) (w : World) (w0 : RI w w.heap.size a0 l0) (m0 : l0.length ≤ maxLen) (n0 : a0 = none → cap0 = 0) (x0 : l0.length ≤ cap0) (y0 : cap0 ≤ maxLen) (w1 : RI w w.heap.size a1 l1) (m1 : l1.length ≤ maxLen) (n1 : a1 = none → cap1 = 0) (x1 : l1.length ≤ cap1) (y1 : cap1 ≤ maxLen) (w2 : RI w w.heap.size a2 l2) (m2 : l2.length ≤ maxLen) (n2 : a2 = none → cap2 = 0) (x2 : l2.length ≤ cap2) (y2 : cap2 ≤ maxLen) :
    Calls Try.prog 6 #[.slice a0 l0.length cap0, .slice a1 l1.length cap1, .slice a2 l2.length cap2] w fun e w' => e = .returned (.bool true) ∧ Below w.heap.size w w' := by
  obtain ⟨a, hL, hfew⟩ := few_of a0 cap0 l0 w w0 m0 n0 x0 y0
  obtain ⟨b, hL2, hfew2⟩ := few_of a1 cap1 l1 w w1 m1 n1 x1 y1
  obtain ⟨c, hL3, hfew3⟩ := few_of a2 cap2 l2 w w2 m2 n2 x2 y2
  have HF := Lib.hid (hfew w w0)
  have HF2 := Lib.hid (hfew2 w w1)
  have HF3 := Lib.hid (hfew3 w w2)
  have hca : ∀ q, (chs a b q).length ≤ 60 := fun q => by
    unfold chs
    exact Nat.le_trans (set_le _) (Nat.le_trans (List.length_filter_le _ _) hL)
  have F1 := f1 a b
  have F2 := f2 a b
  have F3 := f3 a b c
  have F5 := f5 a b c
  have F6 := f6 a b c
  have F4 : ∀ x ∈ c, x ∈ setL (a ++ b ++ c) := fun x hx => by rw [set_mem]; simp [hx]
  have hUl : (setL (a ++ b ++ c)).length ≤ 180 := Nat.le_trans (set_le _) (by simp; omega)
  have hVl : (setL (a ++ b)).length ≤ 120 := Nat.le_trans (set_le _) (by simp; omega)
  have hWl : (setL (setL (a ++ b) ++ c)).length ≤ 180 := Nat.le_trans (set_le _) (by rw [List.length_append]; omega)
  have hXl : (setL (chs a b true ++ chs a b false)).length ≤ 120 := Nat.le_trans (set_le _) (by rw [List.length_append]; have := hca true; have := hca false; omega)
  have hM := hca true
  have hS := hca false
  clear hfew hfew2 hfew3 hca w0 m0 n0 x0 y0 w1 m1 n1 x1 y1 w2 m2 n2 x2 y2
  obtain ⟨M, eM⟩ : ∃ M, chs a b true = M := ⟨_, rfl⟩
  obtain ⟨S, eS⟩ : ∃ S, chs a b false = S := ⟨_, rfl⟩
  obtain ⟨U, eU⟩ : ∃ U, setL (a ++ b ++ c) = U := ⟨_, rfl⟩
  obtain ⟨V, eV⟩ : ∃ V, setL (a ++ b) = V := ⟨_, rfl⟩
  obtain ⟨X, eX⟩ : ∃ X, setL (M ++ S) = X := ⟨_, rfl⟩
  obtain ⟨Z, eZ⟩ : ∃ Z, setL (V ++ c) = Z := ⟨_, rfl⟩
  rw [eM] at F1 F2 hM hXl
  rw [eS] at F1 F2 hS hXl
  rw [eX] at F1 hXl
  rw [eU] at F3 F4 F5 F6 hUl
  rw [eV] at hVl hWl F6
  rw [eZ] at hWl F6
  have HM := Lib.hid eM
  have HS := Lib.hid eS
  have HU := Lib.hid eU
  have HV := Lib.hid eV
  have HX := Lib.hid eX
  have HZ := Lib.hid eZ
  have G1 : Hid (decide (setL X = setL a) = true) := by show _ = _; simp [F1]
  have G2 := Lib.hid F2
  have G3 : Hid (decide (chs b U false = []) = true) := by show _ = _; simp [F3]
  have G4 := Lib.hid F4
  have G5 := Lib.hid F5
  have G6 : Hid (decide (setL U = setL Z) = true) := by show _ = _; simp [F6]
  have hbq := beq_len S
  obtain ⟨q, hq⟩ : ∃ q, decide (S = []) = q := ⟨_, rfl⟩
  rw [hq] at hbq
  have HQ := Lib.hid hq
  clear eM eS eU eV eX eZ F1 F2 F3 F4 F5 F6 hq
  go_enter Try.func6, Try.ntmps6
  go_wp2_with fail
  refine HF.out.mono ?_; rintro e w' ⟨c1, rfl, R0, N0, rfl⟩
  have K0 := Lib.hid R0
  have NA := Lib.hid N0
  clear HF N0 R0
  go_wp2_with fail
  refine HF2.out.mono ?_; rintro e w' ⟨c2, rfl, R1, N1, rfl⟩
  have K1 := Lib.hid R1
  have NB := Lib.hid N1
  clear HF2 N1 R1
  go_wp2_with fail
  refine HF3.out.mono ?_; rintro e w' ⟨c3, rfl, R2, N2, rfl⟩
  have K2 := Lib.hid R2
  have NC := Lib.hid N2
  clear HF3 N2 R2
  go_wp2_with fail
  refine (vset_Meet _ _ _ _ a b _ K0.out K1.out (by omega) (by omega)).mono ?_; rintro e u_1 ⟨A3, d3, rfl, r3, t3, hb⟩
  rw [HM.out] at r3 ⊢
  have NM := Lib.hid t3
  clear t3
  have A_2 := Lib.hid (K0.out.step hb)
  have B_2 := Lib.hid (K1.out.step hb)
  have C_2 := Lib.hid (K2.out.step hb)
  have hbw_2 := hb
  clear hb K0 K1 K2
  have M_3 := Lib.hid r3
  clear r3
  go_wp2_with fail
  refine (vset_Less _ _ _ _ a b _ A_2.out B_2.out (by omega) (by omega)).mono ?_; rintro e u_4 ⟨A4, d4, rfl, r4, t4, hb⟩
  rw [HS.out] at r4 ⊢
  have NS := Lib.hid t4
  clear t4
  have A_5 := Lib.hid (A_2.out.step hb)
  have B_5 := Lib.hid (B_2.out.step hb)
  have C_5 := Lib.hid (C_2.out.step hb)
  have M_5 := Lib.hid (M_3.out.step hb)
  have hbw_5 := hbw_2.trans (hb.mono hbw_2.size)
  clear hb A_2 B_2 C_2 M_3 hbw_2
  have S_6 := Lib.hid r4
  clear r4
  have hrr_7 := rr2n u_4.heap.size (by simp) M_5.out S_6.out NM.out NS.out (ca := d3) (cb := d4)
  have hal_8 : Below u_4.heap.size u_4 (u_4.alloc (.cells #[.slice A3 M.length d3, .slice A4 S.length d4] 22)) := (Below.refl _ _).alloc (Nat.le_refl _) _
  have A_9 := Lib.hid (A_5.out.step hal_8)
  have B_9 := Lib.hid (B_5.out.step hal_8)
  have C_9 := Lib.hid (C_5.out.step hal_8)
  have M_9 := Lib.hid (M_5.out.step hal_8)
  have S_9 := Lib.hid (S_6.out.step hal_8)
  have hbw_9 := hbw_5.trans (hal_8.mono hbw_5.size)
  clear hal_8 A_5 B_5 C_5 M_5 S_6 hbw_5
  have RR_7 := Lib.hid hrr_7
  clear hrr_7
  go_wp2_with fail
  refine (u2 _ _ _ _ _ _ M S _ RR_7.out (by omega) (by omega)).mono ?_; rintro e u_10 ⟨A5, d5, rfl, r5, _, hb⟩
  rw [HX.out] at r5 ⊢
  have A_11 := Lib.hid (A_9.out.step hb)
  have B_11 := Lib.hid (B_9.out.step hb)
  have C_11 := Lib.hid (C_9.out.step hb)
  have M_11 := Lib.hid (M_9.out.step hb)
  have S_11 := Lib.hid (S_9.out.step hb)
  have hbw_11 := hbw_9.trans (hb.mono hbw_9.size)
  clear hb A_9 B_9 C_9 M_9 S_9 hbw_9
  have X_12 := Lib.hid r5
  clear r5
  go_wp2_with fail
  refine (vset_Same _ _ _ _ X a _ X_12.out A_11.out (by omega) (by omega)).mono ?_; rintro e u_13 ⟨rfl, hb⟩
  rw [G1.out]
  have A_14 := Lib.hid (A_11.out.step hb)
  have B_14 := Lib.hid (B_11.out.step hb)
  have C_14 := Lib.hid (C_11.out.step hb)
  have M_14 := Lib.hid (M_11.out.step hb)
  have S_14 := Lib.hid (S_11.out.step hb)
  have hbw_14 := hbw_11.trans (hb.mono hbw_11.size)
  clear hb A_11 B_11 C_11 M_11 S_11 hbw_11
  go_wp2_with fail
  refine (vset_Meet _ _ _ _ M S _ M_14.out S_14.out (by omega) (by omega)).mono ?_; rintro e u_15 ⟨A6, d6, rfl, r6, _, hb⟩
  rw [G2.out]
  clear r6
  have A_16 := Lib.hid (A_14.out.step hb)
  have B_16 := Lib.hid (B_14.out.step hb)
  have C_16 := Lib.hid (C_14.out.step hb)
  have S_16 := Lib.hid (S_14.out.step hb)
  have hbw_16 := hbw_14.trans (hb.mono hbw_14.size)
  clear hb A_14 B_14 C_14 S_14 hbw_14
  go_wp2_with fail
  refine (vset_Within _ _ _ _ a b _ A_16.out B_16.out (by omega) (by omega)).mono ?_; rintro e u_17 ⟨rfl, hb⟩
  rw [HS.out, HQ.out]
  have A_18 := Lib.hid (A_16.out.step hb)
  have B_18 := Lib.hid (B_16.out.step hb)
  have C_18 := Lib.hid (C_16.out.step hb)
  have hbw_18 := hbw_16.trans (hb.mono hbw_16.size)
  clear hb A_16 B_16 C_16 hbw_16
  have hrr_19 := rr3n u_17.heap.size (by simp) A_18.out B_18.out C_18.out NA.out NB.out NC.out (ca := c1) (cb := c2) (cc := c3)
  have hal_20 : Below u_17.heap.size u_17 (u_17.alloc (.cells #[.slice a0 a.length c1, .slice a1 b.length c2, .slice a2 c.length c3] 22)) := (Below.refl _ _).alloc (Nat.le_refl _) _
  have A_21 := Lib.hid (A_18.out.step hal_20)
  have B_21 := Lib.hid (B_18.out.step hal_20)
  have C_21 := Lib.hid (C_18.out.step hal_20)
  have hbw_21 := hbw_18.trans (hal_20.mono hbw_18.size)
  clear hal_20 A_18 B_18 C_18 hbw_18
  have RR_19 := Lib.hid hrr_19
  clear hrr_19
  go_wp2_with fail
  refine (u3 _ _ _ _ _ _ _ _ a b c _ RR_19.out (by omega) (by omega) (by omega)).mono ?_; rintro e u_22 ⟨A7, d7, rfl, r7, t7, hb⟩
  rw [HU.out] at r7 ⊢
  clear t7
  have A_23 := Lib.hid (A_21.out.step hb)
  have B_23 := Lib.hid (B_21.out.step hb)
  have C_23 := Lib.hid (C_21.out.step hb)
  have hbw_23 := hbw_21.trans (hb.mono hbw_21.size)
  clear hb A_21 B_21 C_21 hbw_21
  have U_24 := Lib.hid r7
  clear r7
  go_wp2
  go_loop [10] (fun i => ∃ k : Nat, k ≤ c.length ∧ i = .int .i64 k) (fun i => c.length - (intOf i).toNat)
  case atStart => exact ⟨0, Nat.zero_le _, rfl⟩
  case round =>
    obtain ⟨k, hk, rfl⟩ := hrel
    by_cases hlt : k < c.length
    · obtain ⟨bb, off, rfl, hbb, hc⟩ := C_23.out (by omega)
      have e1 := hc k hlt
      have h1' : (k : Int) < (c.length : Int) := by omega
      have hin : decide (li c k ∈ U) = true := by simpa using G4.out _ (li_mem hlt)
      have HIN := Lib.hid hin
      clear hc hin
      go_wp2_with fail
      refine (vset_Has _ _ U _ _ U_24.out (by omega)).mono ?_; rintro e w' ⟨rfl, rfl⟩; rw [HIN.out]
      go_wp2
      go_round
      case rel => exact ⟨k + 1, by omega, by go_num⟩
      case measure => simp [intOf]; omega
    · obtain rfl : k = c.length := by omega
      have hrr_25 := rr4n u_22.heap.size (by simp) C_23.out B_23.out A_23.out B_23.out NC.out NB.out NA.out NB.out (ca := c3) (cb := c2) (cc := c1) (cd := c2)
      have hal_26 : Below u_22.heap.size u_22 (u_22.alloc (.cells #[.slice a2 c.length c3, .slice a1 b.length c2, .slice a0 a.length c1, .slice a1 b.length c2] 22)) := (Below.refl _ _).alloc (Nat.le_refl _) _
      have A_27 := Lib.hid (A_23.out.step hal_26)
      have B_27 := Lib.hid (B_23.out.step hal_26)
      have C_27 := Lib.hid (C_23.out.step hal_26)
      have U_27 := Lib.hid (U_24.out.step hal_26)
      have hbw_27 := hbw_23.trans (hal_26.mono hbw_23.size)
      clear hal_26 A_23 B_23 C_23 U_24 hbw_23
      have RR_25 := Lib.hid hrr_25
      clear hrr_25
      go_wp2_with fail
      refine (u4 _ _ _ _ _ _ _ _ _ _ c b a b _ RR_25.out (by omega) (by omega) (by omega) (by omega)).mono ?_; rintro e u_28 ⟨A8, d8, rfl, r8, _, hb⟩
      rw [G5.out] at r8 ⊢
      have A_29 := Lib.hid (A_27.out.step hb)
      have B_29 := Lib.hid (B_27.out.step hb)
      have C_29 := Lib.hid (C_27.out.step hb)
      have U_29 := Lib.hid (U_27.out.step hb)
      have hbw_29 := hbw_27.trans (hb.mono hbw_27.size)
      clear hb A_27 B_27 C_27 U_27 hbw_27
      have U2_30 := Lib.hid r8
      clear r8
      go_wp2_with fail
      refine (same_yes _ _ _ _ _ U _ rfl U_29.out U2_30.out (by omega)).mono ?_; rintro e u_31 ⟨rfl, hb⟩
      have A_32 := Lib.hid (A_29.out.step hb)
      have B_32 := Lib.hid (B_29.out.step hb)
      have C_32 := Lib.hid (C_29.out.step hb)
      have U_32 := Lib.hid (U_29.out.step hb)
      have hbw_32 := hbw_29.trans (hb.mono hbw_29.size)
      clear hb A_29 B_29 C_29 U_29 hbw_29
      have hrr_33 := rr2n u_31.heap.size (by simp) A_32.out B_32.out NA.out NB.out (ca := c1) (cb := c2)
      have hal_34 : Below u_31.heap.size u_31 (u_31.alloc (.cells #[.slice a0 a.length c1, .slice a1 b.length c2] 22)) := (Below.refl _ _).alloc (Nat.le_refl _) _
      have A_35 := Lib.hid (A_32.out.step hal_34)
      have B_35 := Lib.hid (B_32.out.step hal_34)
      have C_35 := Lib.hid (C_32.out.step hal_34)
      have U_35 := Lib.hid (U_32.out.step hal_34)
      have hbw_35 := hbw_32.trans (hal_34.mono hbw_32.size)
      clear hal_34 A_32 B_32 C_32 U_32 hbw_32
      have RR_33 := Lib.hid hrr_33
      clear hrr_33
      go_wp2_with fail
      refine (u2 _ _ _ _ _ _ a b _ RR_33.out (by omega) (by omega)).mono ?_; rintro e u_36 ⟨A9, d9, rfl, r9, t9, hb⟩
      rw [HV.out] at r9 ⊢
      have NV := Lib.hid t9
      clear t9
      have A_37 := Lib.hid (A_35.out.step hb)
      have B_37 := Lib.hid (B_35.out.step hb)
      have C_37 := Lib.hid (C_35.out.step hb)
      have U_37 := Lib.hid (U_35.out.step hb)
      have hbw_37 := hbw_35.trans (hb.mono hbw_35.size)
      clear hb A_35 B_35 C_35 U_35 hbw_35
      have V_38 := Lib.hid r9
      clear r9
      have hrr_39 := rr2n u_36.heap.size (by simp) V_38.out C_37.out NV.out NC.out (ca := d9) (cb := c3)
      have hal_40 : Below u_36.heap.size u_36 (u_36.alloc (.cells #[.slice A9 V.length d9, .slice a2 c.length c3] 22)) := (Below.refl _ _).alloc (Nat.le_refl _) _
      have A_41 := Lib.hid (A_37.out.step hal_40)
      have B_41 := Lib.hid (B_37.out.step hal_40)
      have C_41 := Lib.hid (C_37.out.step hal_40)
      have U_41 := Lib.hid (U_37.out.step hal_40)
      have V_41 := Lib.hid (V_38.out.step hal_40)
      have hbw_41 := hbw_37.trans (hal_40.mono hbw_37.size)
      clear hal_40 A_37 B_37 C_37 U_37 V_38 hbw_37
      have RR_39 := Lib.hid hrr_39
      clear hrr_39
      go_wp2_with fail
      refine (u2 _ _ _ _ _ _ V c _ RR_39.out (by omega) (by omega)).mono ?_; rintro e u_42 ⟨A10, d10, rfl, r10, _, hb⟩
      rw [HZ.out] at r10 ⊢
      have A_43 := Lib.hid (A_41.out.step hb)
      have B_43 := Lib.hid (B_41.out.step hb)
      have C_43 := Lib.hid (C_41.out.step hb)
      have U_43 := Lib.hid (U_41.out.step hb)
      have hbw_43 := hbw_41.trans (hb.mono hbw_41.size)
      clear hb A_41 B_41 C_41 U_41 hbw_41
      have Z_44 := Lib.hid r10
      clear r10
      go_wp2_with fail
      refine (vset_Same _ _ _ _ U Z _ U_43.out Z_44.out (by omega) (by omega)).mono ?_; rintro e u_45 ⟨rfl, hb⟩
      rw [G6.out]
      have A_46 := Lib.hid (A_43.out.step hb)
      have B_46 := Lib.hid (B_43.out.step hb)
      have C_46 := Lib.hid (C_43.out.step hb)
      have U_46 := Lib.hid (U_43.out.step hb)
      have hbw_46 := hbw_43.trans (hb.mono hbw_43.size)
      clear hb A_43 B_43 C_43 U_43 hbw_43
      go_wp2_with fail
      refine (vset_Within _ _ _ _ b U _ B_46.out U_46.out (by omega) (by omega)).mono ?_; rintro e u_47 ⟨rfl, hb⟩
      rw [G3.out]
      have A_48 := Lib.hid (A_46.out.step hb)
      have B_48 := Lib.hid (B_46.out.step hb)
      have C_48 := Lib.hid (C_46.out.step hb)
      have U_48 := Lib.hid (U_46.out.step hb)
      have hbw_48 := hbw_46.trans (hb.mono hbw_46.size)
      clear hb A_46 B_46 C_46 U_46 hbw_46
      go_wp2_with fail
      refine (lives_any _).mono ?_; rintro e u_49 ⟨rfl, hb⟩
      have hbw_50 := hbw_48.trans (hb.mono hbw_48.size)
      clear hb hbw_48
      go_wp2
      go_ret
      exact ⟨rfl, hbw_50⟩
end Go.Proofs.Ytalglfmhmcmgaaa
