/- The specification's set; layer 42 (sched). -/
import Derived.Test.YtjohdkcgodaeiaaR1
import Derived.Test.YtjohdkcgodaeiaaV4
namespace Go.Proofs.Ytjohdkcgodaeiaa
open Go.RowKit

theorem ins_set {L : List Int} {x : Int} (hL : Inc L) (hx : x ∉ L) : Inc ((L.filter fun y => decide (y < x)) ++ [x] ++ (L.filter fun y => !decide (y < x))) := by
  unfold Inc at *
  rw [List.append_assoc, List.pairwise_append]
  refine ⟨hL.filter _, ?_, ?_⟩
  · rw [List.singleton_append, List.pairwise_cons]
    refine ⟨fun y hy => ?_, hL.filter _⟩
    simp only [List.mem_filter, Bool.not_eq_true', decide_eq_false_iff_not] at hy
    have : y ≠ x := fun e => hx (e ▸ hy.1)
    omega
  · intro a ha b hb
    simp only [List.mem_filter, decide_eq_true_eq, List.singleton_append, List.mem_cons, Bool.not_eq_true', decide_eq_false_iff_not] at ha hb
    rcases hb with rfl | hb <;> omega
theorem set_snoc {l : List Int} {x : Int} : setL (l ++ [x]) = if x ∈ setL l then setL l else ((setL l).filter fun y => decide (y < x)) ++ [x] ++ ((setL l).filter fun y => !decide (y < x)) := by
  symm
  split
  · rename_i h
    rw [set_mem] at h
    exact set_eq (set_inc l) (fun y => by rw [set_mem, List.mem_append, List.mem_singleton]; constructor
                                          · exact .inl
                                          · rintro (h1 | rfl)
                                            · exact h1
                                            · exact h)
  · rename_i h
    refine set_eq (ins_set (set_inc l) h) (fun y => ?_)
    simp only [List.mem_append, List.mem_filter, decide_eq_true_eq, List.mem_singleton, Bool.not_eq_true', decide_eq_false_iff_not, set_mem]
    constructor
    · rintro ((⟨h1, _⟩ | h1) | ⟨h1, _⟩)
      · exact .inl h1
      · exact .inr h1
      · exact .inl h1
    · rintro (h1 | h1)
      · by_cases c : y < x
        · exact .inl (.inl ⟨h1, c⟩)
        · exact .inr ⟨h1, c⟩
      · exact .inl (.inr h1)
/-- The two rows lie in different blocks. -/
def Apart (v1 v2 : Value) : Prop := ∀ k, v1.ownBlock = some k → v2.ownBlock ≠ some k
theorem Own.apart {w w1 : World} {B : Nat} {v : Value} {l : List Int} {row : Option Nat} (h : Own w B v l) (hg : w.grownBy w1 row) (hr : ∀ k, v.ownBlock = some k → row ≠ some k) : Own w1 B v l := by
  obtain ⟨h1, h2⟩ := h
  refine ⟨h1, ?_⟩
  rcases h2 with h2 | ⟨g2, cap, cur, e, hg2, hh, r⟩
  · exact .inl h2
  · have hlt : g2 < w.heap.size := by
      rcases Nat.lt_or_ge g2 w.heap.size with q | q
      · exact q
      · rw [Array.getElem?_eq_none q] at hh; cases hh
    exact .inr ⟨g2, cap, cur, e, hg2, (hg.block g2 hlt (fun e2 => hr g2 (by rw [e]; rfl) e2.symm)).trans hh, r⟩
/-- One integer more, with the other row kept. -/
theorem app_two {w w' : World} {B : Nat} {v v' u : Value} {l m : List Int} {x : Int} {o : Obj} (hv : Own w B v l) (hu : Own w B u m) (ha : Apart v u) (hb : B ≤ w.heap.size)
    (hO : World.ownsRow w' B 3 1 v' (l.length + 1) (l.map (Value.int .i64) ++ [.int .i64 x])) (hg : (w.alloc o).grownBy w' v.ownBlock) (hat : v'.ownBlock = v.ownBlock ∨ v'.ownBlock = some (w.alloc o).heap.size) :
    Own w' B v' (l ++ [x]) ∧ Own w' B u m ∧ Apart v' u ∧ Apart u v' ∧ Below B w w' := by
  have hua : Own (w.alloc o) B u m := hu.alloc1 o
  have hsz : (w.alloc o).heap.size = w.heap.size + 1 := by simp
  have hap : Apart v' u := fun k hk e => by
    rcases hat with q | q
    · exact ha k (q ▸ hk) e
    · have h1 := hu.lt k e
      rw [q, hsz] at hk
      injection hk with hk
      omega
  refine ⟨Own.push hO, hua.apart hg (fun k hk e => ha k e hk), hap, fun k hk e => hap k e hk, ?_⟩
  exact ((Below.refl B w).alloc hb o).grown hg (by rw [hsz]; omega) (fun k e => hv.block k e)
set_option maxRecDepth 100000 in
set_option maxHeartbeats 8000000 in
theorem ref_set (A : Option Addr) (ca : Nat) (l : List Int) (w : World) (h : RI w w.heap.size A l) (hl : l.length ≤ 1000000) :
    Calls Try.prog 25 #[.slice A l.length ca] w fun e w' => ∃ v, e = .returned v ∧ Own w' w.heap.size v (setL l) ∧ Below w.heap.size w w' := by
  obtain ⟨i0, hi0, hz0, hz1, hz2⟩ := info_parts info3
  have H := Lib.hid h
  clear h
  go_enter Try.func25, Try.ntmps25
  go_wp2
  go_loopw [3, 4] (fun v i wr => ∃ k : Nat, k ≤ l.length ∧ i = .int .i64 (k : Int) ∧ Hid (Own wr w.heap.size v (setL (l.take k))) ∧ Below w.heap.size w wr) (fun _ i _ => l.length - (intOf i).toNat)
  case atStart => exact ⟨0, Nat.zero_le _, rfl, Lib.hid (by rw [List.take_zero, set_nil]; exact World.ownsRow_nil _ _ _ _), Below.refl _ _⟩
  case round =>
    obtain ⟨k, hk, rfl, HO, hb⟩ := hrel
    have HB := Lib.hid hb
    by_cases hlt : k < l.length
    · have h1 : (k : Int) < (l.length : Int) := by omega
      have h0 : (0 : Int) ≤ (k : Int) := by omega
      obtain ⟨bl, ol, rfl, hbl, hcl⟩ := H.out (by omega)
      have c1 := (hb.cell (p := ⟨bl, ol + k, none⟩) hbl).trans (hcl k hlt)
      have HC := Lib.hid (hcl k hlt)
      have hts : l.take (k + 1) = l.take k ++ [li l k] := by rw [List.take_succ_eq_append_getElem hlt, li_get hlt]
      have hsn := set_snoc (l := l.take k) (x := li l k)
      rw [← hts] at hsn
      have hle := set_le (l.take k)
      rw [List.length_take] at hle
      obtain ⟨x, hx⟩ : ∃ x, li l k = x := ⟨_, rfl⟩
      obtain ⟨L, hL⟩ : ∃ L, setL (l.take k) = L := ⟨_, rfl⟩
      obtain ⟨L2, hL2⟩ : ∃ L2, setL (l.take (k + 1)) = L2 := ⟨_, rfl⟩
      rw [hx] at c1 hsn HC
      rw [hL] at hsn HO hle
      rw [hL2] at hsn
      have HL2 := Lib.hid hL2
      obtain ⟨Ao, co, rfl, hRo, _⟩ := HO.out.form
      have HIN := Lib.hid (ref_In Ao co L x wr hRo (by omega))
      have HRO := Lib.hid hRo
      clear hcl hts hx hL hL2 hRo
      by_cases hin : x ∈ L
      · have hq : decide (x ∈ L) = true := by simp [hin]
        rw [if_pos hin] at hsn
        rw [hq] at HIN
        have HE := Lib.hid hsn
        clear hsn hq hin
        go_wp2_with (go_at_call 28; refine HIN.out.mono ?_; rintro e w1 ⟨rfl, rfl⟩)
        go_roundw
        case rel => exact ⟨k + 1, by omega, by go_num, Lib.hid (by rw [HL2.out, HE.out]; exact HO.out), HB.out⟩
        case measure => simp [intOf]; omega
      · have hq : decide (x ∈ L) = false := by simp [hin]
        rw [if_neg hin] at hsn
        rw [hq] at HIN
        have HE := Lib.hid hsn
        clear hsn hq hin
        go_wp2_with (go_at_call 28; refine HIN.out.mono ?_; rintro e w1 ⟨rfl, hw1⟩; subst hw1)
        generalize wr = wo at *
        go_loopw [5, 6, 7] (fun lv mv i wr => ∃ j : Nat, j ≤ L.length ∧ i = .int .i64 (j : Int) ∧ Hid (Own wr wo.heap.size lv ((L.take j).filter fun y => decide (y < x)) ∧ Own wr wo.heap.size mv ((L.take j).filter fun y => !decide (y < x)) ∧ Apart lv mv) ∧ Below wo.heap.size wo wr) (fun _ _ i _ => L.length - (intOf i).toNat)
        case atStart => exact ⟨0, Nat.zero_le _, rfl, Lib.hid ⟨World.ownsRow_nil _ _ _ _, World.ownsRow_nil _ _ _ _, fun k hk => by simp [Value.ownBlock] at hk⟩, Below.refl _ _⟩
        case round =>
          obtain ⟨j, hj, rfl, HIJ, hb2⟩ := hrel
          obtain ⟨hlv, hmv, hap⟩ := HIJ.out
          have HB2 := Lib.hid hb2
          have hsz2 := hb2.size
          have hszb := HB.out.size
          by_cases hjl : j < L.length
          · have g1 : (j : Int) < (L.length : Int) := by omega
            have g0 : (0 : Int) ≤ (j : Int) := by omega
            obtain ⟨bo, oo, rfl, hbo, hco⟩ := HRO.out (by omega)
            have e1 := (hb2.cell (p := ⟨bo, oo + j, none⟩) hbo).trans (hco j hjl)
            have e2 : wr.cell? ⟨bl, ol + k, none⟩ = some (.int .i64 x) := ((HB.out.trans (hb2.mono hszb)).cell (p := ⟨bl, ol + k, none⟩) hbl).trans HC.out
            have ft := filter_take (p := fun y => decide (y < x)) hjl
            have fm := filter_take (p := fun y => !decide (y < x)) hjl
            have l1 := List.length_filter_le (fun y => decide (y < x)) (L.take j)
            have l2 := List.length_filter_le (fun y => !decide (y < x)) (L.take j)
            rw [List.length_take] at l1 l2
            obtain ⟨y, hy⟩ : ∃ y, li L j = y := ⟨_, rfl⟩
            rw [hy] at e1 ft fm
            clear hco hy
            generalize (L.take j).filter (fun y => decide (y < x)) = F at *
            generalize (L.take j).filter (fun y => !decide (y < x)) = M at *
            obtain ⟨F2, hF2⟩ : ∃ F2, (L.take (j + 1)).filter (fun y => decide (y < x)) = F2 := ⟨_, rfl⟩
            obtain ⟨M2, hM2⟩ : ∃ M2, (L.take (j + 1)).filter (fun y => !decide (y < x)) = M2 := ⟨_, rfl⟩
            rw [hF2] at ft
            rw [hM2] at fm
            have HF2 := Lib.hid hF2
            have HM2 := Lib.hid hM2
            clear hF2 hM2
            have HF := Lib.hid hlv
            have HM := Lib.hid hmv
            have HAP := Lib.hid hap
            by_cases c : y < x
            · have c1 : decide (y < x) = true := by simp [c]
              rw [c1] at ft fm
              have HFT : Hid (F2 = F ++ [y]) := Lib.hid (by rw [ft]; rfl)
              have HFM : Hid (M2 = M) := Lib.hid (by rw [fm]; simp)
              clear hlv hmv hap ft fm c1 hb2 HIJ
              go_wp2_with fail
              go_quiet (fail)
              obtain ⟨W, hW⟩ : ∃ W, wr.drewN nq = W := ⟨_, rfl⟩
              have HFW : Hid (Own W wo.heap.size u5 F) := Lib.hid (by rw [← hW]; exact HF.out.drewN nq)
              have HMW : Hid (Own W wo.heap.size u6 M) := Lib.hid (by rw [← hW]; exact HM.out.drewN nq)
              have HBW : Hid (Below wo.heap.size wo W) := Lib.hid (by rw [← hW]; exact below_drewN HB2.out nq)
              have f1 : W.cell? ⟨bo, oo + j, none⟩ = some (.int .i64 y) := by rw [← hW]; exact e1
              have hszW : wo.heap.size ≤ W.heap.size := HBW.out.size
              rw [hW]
              clear hW e1 e2 HF HM
              go_wp2_with (at_builtin; refine wpList_append_own_at _ rfl _ _ 23 rfl wo.heap.size 3 i0 _ 1 8 Try.underlying23 hi0 hz0 hz1 hz2 rfl (by decide) _ _ _ rfl (World.ownsRow.alloc HFW.out _) ⟨W.heap.size, 0, none⟩ 1 1 [.int .i64 y] rfl rfl (cell_one_new _ _ _) (by simp [Value.oneCell']) (max_ok (by omega)) (by omega) (by simp; omega) ?_; intro v5 w5 hO5 hg5 _ hat5; obtain ⟨q1, q2, q3, _, q5⟩ := app_two HFW.out HMW.out HAP.out hszW hO5 hg5 hat5; have HQ1 := Lib.hid q1; have HQ2 := Lib.hid q2; have HQ3 := Lib.hid q3; have HQ5 := Lib.hid (HBW.out.trans q5); clear hO5 hg5 hat5 q1 q2 q3 q5)
              go_roundw
              case rel => exact ⟨j + 1, by omega, by go_num, Lib.hid ⟨by rw [HF2.out, HFT.out]; exact HQ1.out, by rw [HM2.out, HFM.out]; exact HQ2.out, HQ3.out⟩, HQ5.out⟩
              case measure => simp [intOf]; omega
            · have c1 : decide (y < x) = false := by simp [c]
              rw [c1] at ft fm
              have HFT : Hid (F2 = F) := Lib.hid (by rw [ft]; simp)
              have HFM : Hid (M2 = M ++ [y]) := Lib.hid (by rw [fm]; rfl)
              have HAP2 : Hid (Apart u6 u5) := Lib.hid (fun k hk e => HAP.out k e hk)
              clear hlv hmv hap ft fm c1 hb2 HIJ
              go_wp2_with fail
              go_quiet (fail)
              obtain ⟨W, hW⟩ : ∃ W, wr.drewN nq = W := ⟨_, rfl⟩
              have HFW : Hid (Own W wo.heap.size u5 F) := Lib.hid (by rw [← hW]; exact HF.out.drewN nq)
              have HMW : Hid (Own W wo.heap.size u6 M) := Lib.hid (by rw [← hW]; exact HM.out.drewN nq)
              have HBW : Hid (Below wo.heap.size wo W) := Lib.hid (by rw [← hW]; exact below_drewN HB2.out nq)
              have f1 : W.cell? ⟨bo, oo + j, none⟩ = some (.int .i64 y) := by rw [← hW]; exact e1
              have hszW : wo.heap.size ≤ W.heap.size := HBW.out.size
              rw [hW]
              clear hW e1 e2 HF HM
              go_wp2_with (at_builtin; refine wpList_append_own_at _ rfl _ _ 23 rfl wo.heap.size 3 i0 _ 1 8 Try.underlying23 hi0 hz0 hz1 hz2 rfl (by decide) _ _ _ rfl (World.ownsRow.alloc HMW.out _) ⟨W.heap.size, 0, none⟩ 1 1 [.int .i64 y] rfl rfl (cell_one_new _ _ _) (by simp [Value.oneCell']) (max_ok (by omega)) (by omega) (by simp; omega) ?_; intro v5 w5 hO5 hg5 _ hat5; obtain ⟨q1, q2, _, q4, q5⟩ := app_two HMW.out HFW.out HAP2.out hszW hO5 hg5 hat5; have HQ1 := Lib.hid q1; have HQ2 := Lib.hid q2; have HQ3 := Lib.hid q4; have HQ5 := Lib.hid (HBW.out.trans q5); clear hO5 hg5 hat5 q1 q2 q4 q5)
              go_roundw
              case rel => exact ⟨j + 1, by omega, by go_num, Lib.hid ⟨by rw [HF2.out, HFT.out]; exact HQ2.out, by rw [HM2.out, HFM.out]; exact HQ1.out, HQ3.out⟩, HQ5.out⟩
              case measure => simp [intOf]; omega
          · obtain rfl : j = L.length := by omega
            have g1 : ¬ (L.length : Int) < (L.length : Int) := by omega
            have e2 : wr.cell? ⟨bl, ol + k, none⟩ = some (.int .i64 x) := ((HB.out.trans (hb2.mono hszb)).cell (p := ⟨bl, ol + k, none⟩) hbl).trans HC.out
            rw [List.take_length] at hlv hmv
            have l1 := List.length_filter_le (fun y => decide (y < x)) L
            have l2 := List.length_filter_le (fun y => !decide (y < x)) L
            have HE' := HE
            generalize L.filter (fun y => decide (y < x)) = F at *
            generalize L.filter (fun y => !decide (y < x)) = M at *
            have HF := Lib.hid hlv
            have HM := Lib.hid hmv
            have HAP := Lib.hid hap
            obtain ⟨Am, cm, rfl, hRm, hnm⟩ := hmv.form
            clear hlv hap HIJ hb2
            cases Am with
            | none =>
              obtain rfl : M = [] := hRm.none_nil
              obtain rfl : cm = 0 := hnm rfl
              clear hRm hnm hmv
              have HE2 : Hid (L2 = F ++ [x]) := Lib.hid (by rw [HE.out]; simp)
              go_wp2_with (first
                | (at_builtin; have _ := HQ1; refine wpList_append_own_none rfl _ _ 23 rfl wo.heap.size 3 i0 1 Try.underlying23 hi0 _ _ _ rfl HQ1.out rfl ?_)
                | (at_builtin; refine wpList_append_own_at _ rfl _ _ 23 rfl wo.heap.size 3 i0 _ 1 8 Try.underlying23 hi0 hz0 hz1 hz2 rfl (by decide) _ _ _ rfl (World.ownsRow.alloc HF.out _) ⟨wr.heap.size, 0, none⟩ 1 1 [.int .i64 x] rfl rfl (cell_one_new _ _ _) (by simp [Value.oneCell']) (max_ok (by omega)) (by omega) (by simp; omega) ?_; intro v5 w5 hO5 hg5 _ hat5; obtain ⟨q1, _, _, _, q5⟩ := app_two HF.out HM.out HAP.out hsz2 hO5 hg5 hat5; have HQ1 := Lib.hid q1; have HQ5 := Lib.hid (HB2.out.trans q5); clear hO5 hg5 hat5 q1 q5))
              go_roundw
              case rel => exact ⟨k + 1, by omega, by go_num, Lib.hid (by rw [HL2.out, HE2.out]; exact HQ1.out.less hszb), HB.out.trans (HQ5.out.mono hszb)⟩
              case measure => simp [intOf]; omega
            | some ad =>
              clear hRm hnm hmv
              go_wp2_with (first
                | (at_builtin; have _ := HQ1; refine wpList_append_own _ rfl _ _ 23 rfl wo.heap.size 3 i0 _ 1 8 Try.underlying23 hi0 hz0 hz1 hz2 rfl (by decide) _ _ _ rfl HQ1.out ad M.length cm (M.map (Value.int .i64)) rfl (by simp) HSRC.out (by intro v hv; rw [List.mem_map] at hv; obtain ⟨_, _, rfl⟩ := hv; rfl) (by rw [List.length_append, List.length_singleton]; unfold maxLen; omega) (by rw [List.length_append, List.length_singleton]; omega) (Nat.le_trans hsz2 (by have := HQ6.out.size; omega)) ?_; intro v6 w6 hO6 hg6 _; have HQ7 : Hid (Own w6 wo.heap.size v6 (F ++ [x] ++ M)) := Lib.hid (by have h := hO6; rw [← List.map_append] at h; unfold Own; rw [List.length_append]; exact h); have HQ8 := Lib.hid (HQ5.out.grown hg6 (Nat.le_trans hsz2 (by have := HQ6.out.size; omega)) (fun k e => HQ1.out.block k e)); clear hO6 hg6)
                | (at_builtin; refine wpList_append_own_at _ rfl _ _ 23 rfl wo.heap.size 3 i0 _ 1 8 Try.underlying23 hi0 hz0 hz1 hz2 rfl (by decide) _ _ _ rfl (World.ownsRow.alloc HF.out _) ⟨wr.heap.size, 0, none⟩ 1 1 [.int .i64 x] rfl rfl (cell_one_new _ _ _) (by simp [Value.oneCell']) (max_ok (by omega)) (by omega) (by simp; omega) ?_; intro v5 w5 hO5 hg5 _ hat5; obtain ⟨q1, q2, _, _, q5⟩ := app_two HF.out HM.out HAP.out hsz2 hO5 hg5 hat5; have HQ1 := Lib.hid q1; have HQ6 := Lib.hid q5; have HQ5 := Lib.hid (HB2.out.trans q5); obtain ⟨Am, cm2, he, hR5, _⟩ := q2.form; injection he with he1 he2 he3; subst he1; have HSRC : Hid (∀ j u, (M.map (Value.int .i64))[j]? = some u → w5.cell? (ad.add j) = some u) := Lib.hid (fun j u hj => (hR5.src j u hj).1); clear hO5 hg5 hat5 q1 q5 q2 hR5 he2 he3))
              go_roundw
              case rel => exact ⟨k + 1, by omega, by go_num, Lib.hid (by rw [HL2.out, HE.out]; exact HQ7.out.less hszb), HB.out.trans (HQ8.out.mono hszb)⟩
              case measure => simp [intOf]; omega
    · obtain rfl : k = l.length := by omega
      have h1 : ¬ (l.length : Int) < (l.length : Int) := by omega
      have HO2 := HO.out
      rw [List.take_length] at HO2
      have HO3 := Lib.hid HO2
      clear HO2 HO
      go_wp2
      go_ret
      exact ⟨_, rfl, HO3.out, HB.out⟩
end Go.Proofs.Ytjohdkcgodaeiaa
