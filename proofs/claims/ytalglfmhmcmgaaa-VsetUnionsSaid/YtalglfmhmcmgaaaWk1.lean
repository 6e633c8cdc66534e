/- The example of the chapter of layer 3 (vset). -/
import Derived.Test.YtalglfmhmcmgaaaFn6
namespace Go.Proofs.Ytalglfmhmcmgaaa
open Go.RowKit

theorem gives_nil (w : World) : RI w w.heap.size none [] := RI.nil
theorem same_yes (A C : Option Addr) (ca cb n : Nat) (l : List Int) (w : World) (hn : n = l.length) (h1 : RI w w.heap.size A l) (h2 : RI w w.heap.size C l) (hl : l.length ≤ 1000000000000) :
    Calls Try.prog 9 #[.slice A n ca, .slice C n cb] w fun r w' => r = .returned (.bool true) ∧ Below w.heap.size w w' := by
  subst hn
  have h := ref_Same A C ca cb l l w h1 h2 hl hl
  rw [show decide (l = l) = true by simp] at h
  exact h
theorem ri_lit (w : World) (l : List Int) (cs : Array Value) (e : cs = intRow l) : RI (w.alloc (.cells cs 3)) (w.alloc (.cells cs 3)).heap.size (some ⟨w.heap.size, 0, none⟩) l := RI.blk (Blk.lit w l cs e) (by simp)
theorem ri_lit_at (w : World) (l : List Int) (cs : Array Value) (e : cs = intRow l) (n : Nat) (hn : n = w.heap.size) : RI (w.alloc (.cells cs 3)) (w.alloc (.cells cs 3)).heap.size (some ⟨n, 0, none⟩) l := by subst hn; exact ri_lit w l cs e
theorem ex1 : setL [3, 1, 3] = [1, 3] := (set_eq (by unfold Inc; decide) (fun x => by simp; omega)).symm
theorem ex2 : setL [2, 1, 1, 4] = [1, 2, 4] := (set_eq (by unfold Inc; decide) (fun x => by simp; omega)).symm
theorem ex3 : chs [1, 2, 3] [2] false = [1, 3] := by
  have e : ([1, 2, 3] : List Int).filter (fun v => decide (v ∈ ([2] : List Int)) == false) = [1, 3] := by decide
  unfold chs
  rw [e]
  exact (set_eq (by unfold Inc; decide) (fun x => Iff.rfl)).symm
theorem ex4 : incB [1, 1] = false := by decide
theorem ex_of (A : Option Addr) (ca : Nat) (w : World) (h : RI w w.heap.size A [3, 1, 3]) : Calls Try.prog 8 #[.slice A 3 ca] w fun e w' => ∃ A c, e = .returned (.slice A 2 c) ∧ RI w' w'.heap.size A [1, 3] ∧ Below w.heap.size w w' :=
  (vset_Of A ca [3, 1, 3] w h (by decide)).mono fun e w' hG => by
    obtain ⟨A, c, he, hR, _, hb⟩ := hG.gives
    rw [ex1] at he hR
    exact ⟨A, c, he, hR, hb⟩
theorem ex_union (A C D : Option Addr) (ca cc cd : Nat) (w : World) (h : RR w w.heap.size A [(C, cc, [2, 1]), (D, cd, [1, 4])]) : Calls Try.prog 23 #[.slice A 2 ca] w fun e w' => ∃ A c, e = .returned (.slice A 3 c) ∧ RI w' w'.heap.size A [1, 2, 4] ∧ Below w.heap.size w w' :=
  (vset_Union A ca [(C, cc, [2, 1]), (D, cd, [1, 4])] w h (by show 2 ≤ _; omega) (by show 4 ≤ _; omega)).mono fun e w' hG => by
    have e2 : setL (allL [(C, cc, [2, 1]), (D, cd, [1, 4])] 2) = [1, 2, 4] := ex2
    have hG2 : Gives w (setL (allL [(C, cc, [2, 1]), (D, cd, [1, 4])] 2)) e w' := hG
    rw [e2] at hG2
    obtain ⟨A, c, he, hR, _, hb⟩ := hG2
    exact ⟨A, c, he, hR, hb⟩
theorem ex_less (A C : Option Addr) (ca cb : Nat) (w : World) (h : RI w w.heap.size A [1, 2, 3]) (h2 : RI w w.heap.size C [2]) : Calls Try.prog 18 #[.slice A 3 ca, .slice C 1 cb] w fun e w' => ∃ A c, e = .returned (.slice A 2 c) ∧ RI w' w'.heap.size A [1, 3] ∧ Below w.heap.size w w' :=
  (vset_Less A C ca cb [1, 2, 3] [2] w h h2 (by decide) (by decide)).mono fun e w' hG => by
    obtain ⟨A, c, he, hR, _, hb⟩ := hG
    rw [ex3] at he hR
    exact ⟨A, c, he, hR, hb⟩
theorem ex_right (A : Option Addr) (ca : Nat) (w : World) (h : RI w w.heap.size A [1, 1]) : Calls Try.prog 11 #[.slice A 2 ca] w fun e w' => e = .returned (.bool false) ∧ Below w.heap.size w w' := by
  have := vset_Right A ca [1, 1] w h (by decide)
  rw [ex4] at this
  exact this
theorem ex_has (A : Option Addr) (ca : Nat) (w : World) (h : RI w w.heap.size A [2]) : Calls Try.prog 13 #[.slice A 1 ca, .int .i64 2] w fun e w' => e = .returned (.bool true) ∧ w = w' := by
  have := vset_Has A ca [2] 2 w h (by decide)
  rw [show decide ((2 : Int) ∈ ([2] : List Int)) = true by decide] at this
  exact this
theorem rr_mk {w : World} {rows : List Rw} (h : ∀ i, i < rows.length → RI w w.heap.size (rw_ rows i).1 (rw_ rows i).2.2 ∧ ((rw_ rows i).1 = none → (rw_ rows i).2.1 = 0)) (cs : Array Value) (hc : ∀ i, i < rows.length → cs[i]? = some (rcell (rw_ rows i))) :
    RR (w.alloc (.cells cs 22)) (w.alloc (.cells cs 22)).heap.size (some ⟨w.heap.size, 0, none⟩) rows where
  at_ := fun _ => ⟨w.heap.size, 0, rfl, by simp, fun i hi => by
    have hB : Blk (w.alloc (.cells cs 22)) w.heap.size 22 cs := Blk.new w 22 cs
    rw [Nat.zero_add, hB.cell]; exact hc i hi⟩
  row := fun i hi => ⟨(h i hi).1.step ((Below.refl _ w).alloc (Nat.le_refl _) _), (h i hi).2⟩
theorem rr2 {w : World} {A C : Option Addr} {ca cc : Nat} {a c : List Int} (n : Nat) (hn : n = w.heap.size) (h1 : RI w w.heap.size A a) (h2 : RI w w.heap.size C c) (n1 : A = none → ca = 0) (n2 : C = none → cc = 0) :
    RR (w.alloc (.cells #[.slice A a.length ca, .slice C c.length cc] 22)) (w.alloc (.cells #[.slice A a.length ca, .slice C c.length cc] 22)).heap.size (some ⟨n, 0, none⟩) [(A, ca, a), (C, cc, c)] := by
  subst hn
  exact rr_mk (fun i hi => by
    have : i = 0 ∨ i = 1 := by simp at hi; omega
    rcases this with rfl | rfl
    · exact ⟨h1, n1⟩
    · exact ⟨h2, n2⟩) _ (fun i hi => by
    have : i = 0 ∨ i = 1 := by simp at hi; omega
    rcases this with rfl | rfl <;> rfl)
set_option maxHeartbeats 2000000 in
theorem lives_any (w : World) : Calls Try.prog 15 #[] w fun r w' => r = .returned (.bool true) ∧ Below w.heap.size w w' := by
  go_enter Try.func15, Try.ntmps15
  have hl_1 := ri_lit_at w [3, 1, 3] #[.int .i64 3, .int .i64 1, .int .i64 3] rfl w.heap.size (by simp)
  have hal_2 : Below w.heap.size w (w.alloc (.cells #[.int .i64 3, .int .i64 1, .int .i64 3] 3)) := (Below.refl _ _).alloc (Nat.le_refl _) _
  have hbw_3 := hal_2
  clear hal_2
  have L1_1 := Lib.hid hl_1
  clear hl_1
  go_wp2_with fail
  refine (ex_of _ _ _ L1_1.out).mono ?_; rintro e u_4 ⟨A1, c1, rfl, r1, hb⟩
  have hbw_5 := hbw_3.trans (hb.mono hbw_3.size)
  clear hb hbw_3
  have R1_6 := Lib.hid r1
  clear r1
  have hl_7 := ri_lit_at u_4 [1, 3] #[.int .i64 1, .int .i64 3] rfl u_4.heap.size (by simp)
  have hal_8 : Below u_4.heap.size u_4 (u_4.alloc (.cells #[.int .i64 1, .int .i64 3] 3)) := (Below.refl _ _).alloc (Nat.le_refl _) _
  have R1_9 := Lib.hid (R1_6.out.step hal_8)
  have hbw_9 := hbw_5.trans (hal_8.mono hbw_5.size)
  clear hal_8 R1_6 hbw_5
  have L2_7 := Lib.hid hl_7
  clear hl_7
  go_wp2_with fail
  refine (same_yes _ _ _ _ _ [1, 3] _ rfl R1_9.out L2_7.out (by decide)).mono ?_; rintro e u_10 ⟨rfl, hb⟩
  have hbw_11 := hbw_9.trans (hb.mono hbw_9.size)
  clear hb hbw_9
  have hl_12 := ri_lit_at u_10 [2, 1] #[.int .i64 2, .int .i64 1] rfl u_10.heap.size (by simp)
  have hal_13 : Below u_10.heap.size u_10 (u_10.alloc (.cells #[.int .i64 2, .int .i64 1] 3)) := (Below.refl _ _).alloc (Nat.le_refl _) _
  have hbw_14 := hbw_11.trans (hal_13.mono hbw_11.size)
  clear hal_13 hbw_11
  have L3_12 := Lib.hid hl_12
  clear hl_12
  have hl_15 := ri_lit_at (u_10.alloc (.cells #[.int .i64 2, .int .i64 1] 3)) [1, 4] #[.int .i64 1, .int .i64 4] rfl (u_10.heap.size + 1) (by simp)
  have hal_16 : Below (u_10.alloc (.cells #[.int .i64 2, .int .i64 1] 3)).heap.size (u_10.alloc (.cells #[.int .i64 2, .int .i64 1] 3)) ((u_10.alloc (.cells #[.int .i64 2, .int .i64 1] 3)).alloc (.cells #[.int .i64 1, .int .i64 4] 3)) := (Below.refl _ _).alloc (Nat.le_refl _) _
  have L3_17 := Lib.hid (L3_12.out.step hal_16)
  have hbw_17 := hbw_14.trans (hal_16.mono hbw_14.size)
  clear hal_16 L3_12 hbw_14
  have L4_15 := Lib.hid hl_15
  clear hl_15
  have hrr_18 := rr2 (u_10.heap.size + 2) (by simp) L3_17.out L4_15.out (ca := 2) (cc := 2) (fun e => by cases e) (fun e => by cases e)
  have hal_19 : Below ((u_10.alloc (.cells #[.int .i64 2, .int .i64 1] 3)).alloc (.cells #[.int .i64 1, .int .i64 4] 3)).heap.size ((u_10.alloc (.cells #[.int .i64 2, .int .i64 1] 3)).alloc (.cells #[.int .i64 1, .int .i64 4] 3)) (((u_10.alloc (.cells #[.int .i64 2, .int .i64 1] 3)).alloc (.cells #[.int .i64 1, .int .i64 4] 3)).alloc (.cells #[.slice (some ⟨u_10.heap.size, 0, none⟩) 2 2, .slice (some ⟨(u_10.heap.size + 1), 0, none⟩) 2 2] 22)) := (Below.refl _ _).alloc (Nat.le_refl _) _
  have hbw_20 := hbw_17.trans (hal_19.mono hbw_17.size)
  clear hal_19 hbw_17
  have RR_18 := Lib.hid hrr_18
  clear hrr_18
  go_wp2_with fail
  refine (ex_union _ _ _ _ _ _ _ RR_18.out).mono ?_; rintro e u_21 ⟨A2, c2, rfl, r2, hb⟩
  have hbw_22 := hbw_20.trans (hb.mono hbw_20.size)
  clear hb hbw_20
  have R2_23 := Lib.hid r2
  clear r2
  have hl_24 := ri_lit_at u_21 [1, 2, 4] #[.int .i64 1, .int .i64 2, .int .i64 4] rfl u_21.heap.size (by simp)
  have hal_25 : Below u_21.heap.size u_21 (u_21.alloc (.cells #[.int .i64 1, .int .i64 2, .int .i64 4] 3)) := (Below.refl _ _).alloc (Nat.le_refl _) _
  have R2_26 := Lib.hid (R2_23.out.step hal_25)
  have hbw_26 := hbw_22.trans (hal_25.mono hbw_22.size)
  clear hal_25 R2_23 hbw_22
  have L5_24 := Lib.hid hl_24
  clear hl_24
  go_wp2_with fail
  refine (same_yes _ _ _ _ _ [1, 2, 4] _ rfl R2_26.out L5_24.out (by decide)).mono ?_; rintro e u_27 ⟨rfl, hb⟩
  have hbw_28 := hbw_26.trans (hb.mono hbw_26.size)
  clear hb hbw_26
  have hl_29 := ri_lit_at u_27 [1, 2, 3] #[.int .i64 1, .int .i64 2, .int .i64 3] rfl u_27.heap.size (by simp)
  have hal_30 : Below u_27.heap.size u_27 (u_27.alloc (.cells #[.int .i64 1, .int .i64 2, .int .i64 3] 3)) := (Below.refl _ _).alloc (Nat.le_refl _) _
  have hbw_31 := hbw_28.trans (hal_30.mono hbw_28.size)
  clear hal_30 hbw_28
  have L6_29 := Lib.hid hl_29
  clear hl_29
  have hl_32 := ri_lit_at (u_27.alloc (.cells #[.int .i64 1, .int .i64 2, .int .i64 3] 3)) [2] #[.int .i64 2] rfl (u_27.heap.size + 1) (by simp)
  have hal_33 : Below (u_27.alloc (.cells #[.int .i64 1, .int .i64 2, .int .i64 3] 3)).heap.size (u_27.alloc (.cells #[.int .i64 1, .int .i64 2, .int .i64 3] 3)) ((u_27.alloc (.cells #[.int .i64 1, .int .i64 2, .int .i64 3] 3)).alloc (.cells #[.int .i64 2] 3)) := (Below.refl _ _).alloc (Nat.le_refl _) _
  have L6_34 := Lib.hid (L6_29.out.step hal_33)
  have hbw_34 := hbw_31.trans (hal_33.mono hbw_31.size)
  clear hal_33 L6_29 hbw_31
  have L7_32 := Lib.hid hl_32
  clear hl_32
  go_wp2_with fail
  refine (ex_less _ _ _ _ _ L6_34.out L7_32.out).mono ?_; rintro e u_35 ⟨A3, c3, rfl, r3, hb⟩
  have hbw_36 := hbw_34.trans (hb.mono hbw_34.size)
  clear hb hbw_34
  have R3_37 := Lib.hid r3
  clear r3
  have hl_38 := ri_lit_at u_35 [1, 3] #[.int .i64 1, .int .i64 3] rfl u_35.heap.size (by simp)
  have hal_39 : Below u_35.heap.size u_35 (u_35.alloc (.cells #[.int .i64 1, .int .i64 3] 3)) := (Below.refl _ _).alloc (Nat.le_refl _) _
  have R3_40 := Lib.hid (R3_37.out.step hal_39)
  have hbw_40 := hbw_36.trans (hal_39.mono hbw_36.size)
  clear hal_39 R3_37 hbw_36
  have L8_38 := Lib.hid hl_38
  clear hl_38
  go_wp2_with fail
  refine (same_yes _ _ _ _ _ [1, 3] _ rfl R3_40.out L8_38.out (by decide)).mono ?_; rintro e u_41 ⟨rfl, hb⟩
  have hbw_42 := hbw_40.trans (hb.mono hbw_40.size)
  clear hb hbw_40
  have hl_43 := ri_lit_at u_41 [1, 1] #[.int .i64 1, .int .i64 1] rfl u_41.heap.size (by simp)
  have hal_44 : Below u_41.heap.size u_41 (u_41.alloc (.cells #[.int .i64 1, .int .i64 1] 3)) := (Below.refl _ _).alloc (Nat.le_refl _) _
  have hbw_45 := hbw_42.trans (hal_44.mono hbw_42.size)
  clear hal_44 hbw_42
  have L9_43 := Lib.hid hl_43
  clear hl_43
  go_wp2_with fail
  refine (ex_right _ _ _ L9_43.out).mono ?_; rintro e u_46 ⟨rfl, hb⟩
  have hbw_47 := hbw_45.trans (hb.mono hbw_45.size)
  clear hb hbw_45
  have hl_48 := ri_lit_at u_46 [2] #[.int .i64 2] rfl u_46.heap.size (by simp)
  have hal_49 : Below u_46.heap.size u_46 (u_46.alloc (.cells #[.int .i64 2] 3)) := (Below.refl _ _).alloc (Nat.le_refl _) _
  have hbw_50 := hbw_47.trans (hal_49.mono hbw_47.size)
  clear hal_49 hbw_47
  have L10_48 := Lib.hid hl_48
  clear hl_48
  have hfin := hbw_50
  go_wp2_with fail
  refine (ex_has _ _ _ L10_48.out).mono ?_; rintro e w_ ⟨rfl, rfl⟩
  go_wp2
  go_ret
  exact ⟨rfl, hfin⟩
end Go.Proofs.Ytalglfmhmcmgaaa
