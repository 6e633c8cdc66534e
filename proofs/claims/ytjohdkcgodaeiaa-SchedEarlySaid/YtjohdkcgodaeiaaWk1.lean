/- The walk of SchedPlans; layer 42 (sched). -/
import Derived.Test.YtjohdkcgodaeiaaR5
import Derived.Test.YtjohdkcgodaeiaaM1
import Derived.Test.YtjohdkcgodaeiaaOp1
import Derived.Test.YtjohdkcgodaeiaaFw
import Derived.Test.YtjohdkcgodaeiaaL1
namespace Go.Proofs.Ytjohdkcgodaeiaa
open Go.RowKit

theorem plan_n (rows : List Rw) (o : List Int) : (refPlan rows o).length = rows.length := by
  unfold refPlan
  rw [List.length_map, List.length_range]
  obtain ⟨L, h1, h2⟩ := ord_pre rows (setL o) rows.length (List.range rows.length) [] (by rw [List.length_range])
  rw [h1, List.nil_append, h2.length_eq, List.length_range]
theorem plan_len (rows : List Rw) (o : List Int) : ∀ x ∈ refPlan rows o, x.2.length ≤ o.length := by
  intro x hx
  unfold refPlan at hx
  rw [List.mem_map] at hx
  obtain ⟨i, _, rfl⟩ := hx
  unfold refStep
  exact Nat.le_trans (List.length_filter_le _ _) (set_le o)
theorem st_map {T : List St} {k : Nat} (h : k < T.length) : (T.map stK)[k]? = some ((stAt T k).1, (stAt T k).2.2.2) := by
  rw [List.getElem?_map, List.getElem?_eq_getElem h]
  unfold stAt stK
  simp [List.getD, List.getElem?_eq_getElem h]
theorem st_same {T1 T2 : List St} {L : List (Int × List Int)} (h1 : T1.map stK = L) (h2 : T2.map stK = L) {k : Nat} (hk1 : k < T1.length) (hk2 : k < T2.length) :
    (stAt T2 k).1 = (stAt T1 k).1 ∧ (stAt T2 k).2.2.2 = (stAt T1 k).2.2.2 ∧ ((stAt T1 k).1, (stAt T1 k).2.2.2) ∈ L := by
  have e1 := st_map hk1
  have e2 := st_map hk2
  rw [h1] at e1
  rw [h2, e1] at e2
  injection e2 with e2
  injection e2 with e3 e4
  exact ⟨e3.symm, e4.symm, List.mem_of_getElem? e1⟩
theorem StP.nil (w : World) (A : Option Addr) : StP w A [] := ⟨fun h => absurd h (by simp), fun k h => absurd h (by simp)⟩
set_option maxRecDepth 100000 in
set_option maxHeartbeats 8000000 in
theorem schedPlans_walk (A : Option Addr) (ca : Nat) (rows : List Rw) (AO : Option Addr) (co : Nat) (o : List Int) (w : World) (hP : RR w w.heap.size A rows) (hr : rows.length ≤ maxLen)
    (hv : ∀ i, i < rows.length → (pr rows i).length ≤ maxLen ∧ ∀ v ∈ pr rows i, In64 v) (hO : RI w w.heap.size AO o) (hlo : o.length ≤ maxLen) (hvo : ∀ v ∈ o, In64 v) :
    Calls Try.prog 3 #[.slice A rows.length ca, .slice AO o.length co] w fun e w' => e = .returned (.bool true) ∧ Below w.heap.size w w' := by
  have HF := Lib.hid (law_few A AO none ca co 0 rows o [] w hP (StP.nil w none) hr hlo (Nat.zero_le _) (fun j hj => (hv j hj).1) (fun k hk => absurd hk (by simp)))
  have HLV : Hid (∀ w', Below w.heap.size w w' → Calls Try.prog 7 #[] w' fun e w'' => e = .returned (.bool true) ∧ Below w.heap.size w w'') := Lib.hid (fun w' hb => (law_lives w').mono fun e w'' ⟨he, hb2⟩ => ⟨he, hb.trans (hb2.mono hb.size)⟩)
  obtain ⟨L, hL⟩ : ∃ L, planR rows o = L := ⟨_, rfl⟩
  have hL2 : refPlan rows o = L := (plan_eq rows o).symm.trans hL
  obtain ⟨n, hn⟩ : ∃ n, L.length = n := ⟨_, rfl⟩
  have hnr : n = rows.length := by rw [← hn, ← hL2, plan_n]
  have hll := plan_len rows o
  rw [hL2] at hll
  have HLL := Lib.hid hll
  have HN := Lib.hid hn
  have HNR := Lib.hid hnr
  have HPL : Hid (FewP rows o [] → ∀ w', Below w.heap.size w w' → Calls Try.prog 8 #[.slice A rows.length ca, .slice AO o.length co] w' (PlanP w' L)) := Lib.hid (fun hf w' hb => by
    obtain ⟨f1, _, f3, f4, _⟩ := hf
    rw [← hL]
    exact p_Plan A AO ca co rows o w' (hP.step hb) (hO.step hb) (by omega) (by omega) (fun j hj => by have := f1 j hj; omega) (fun j hj => (hv j hj).2) hvo)
  have HRP : Hid (FewP rows o [] → ∀ w', Below w.heap.size w w' → Calls Try.prog 9 #[.slice A rows.length ca, .slice AO o.length co] w' (PlanP w' L)) := Lib.hid (fun hf w' hb => by
    obtain ⟨f1, _, f3, f4, _⟩ := hf
    rw [← hL2]
    exact ref_Plan A AO ca co rows o w' (hP.step hb) (hO.step hb) (by omega) (by omega) (fun j hj => by have := f1 j hj; omega))
  clear hP hr hv hO hlo hvo hL hL2 hn hnr hll
  go_enter Try.func3, Try.ntmps3
  go_upto_region 2 with (go_at_call 6; refine HF.out.mono ?_; rintro e w1 ⟨q, rfl, hq, hb1⟩; have HQ := Lib.hid hq; have HB1 := Lib.hid hb1; clear hq hb1)
  · go_wp2_with (go_at_call 7; refine (HLV.out _ HB1.out).mono ?_; rintro e w2 ⟨rfl, hb2⟩; have HB2 := Lib.hid hb2; clear hb2)
    go_ret
    exact ⟨rfl, HB2.out⟩
  · have hqt : q = true := by cases q <;> simp_all
    have HFW := Lib.hid (HQ.out hqt)
    clear hqt
    have hrl := HFW.out.2.2.1
    have hol := HFW.out.2.2.2.1
    have hn8 : n ≤ 8 := by have := HNR.out; omega
    have HPL2 := Lib.hid (HPL.out HFW.out)
    have HRP2 := Lib.hid (HRP.out HFW.out)
    clear HPL HRP HQ
    go_upto_region 7 with (first
      | (go_at_call 9; have _ := HB2; refine (HRP2.out _ HB2.out).mono ?_; rintro e w3 ⟨A3, c3, T2, he, hs3, hm3, hb3⟩; have hn3 : T2.length = n := (by rw [← HN.out, ← hm3, List.length_map]); rw [hn3] at he; subst he; have HS3 := Lib.hid hs3; have HM3 := Lib.hid hm3; have HN3 := Lib.hid hn3; have HB23 := Lib.hid hb3; clear hs3 hm3 hn3 hb3)
      | (go_at_call 8; refine (HPL2.out _ HB1.out).mono ?_; rintro e w2 ⟨A2, c2, T1, he, hs2, hm2, hb2⟩; have hn2 : T1.length = n := (by rw [← HN.out, ← hm2, List.length_map]); rw [hn2] at he; subst he; have HS2 := Lib.hid hs2; have HM2 := Lib.hid hm2; have HN2 := Lib.hid hn2; have HB12 := Lib.hid hb2; have HB2 := Lib.hid (HB1.out.trans (hb2.mono HB1.out.size)); clear hs2 hm2 hn2 hb2))
    have HB3 := Lib.hid (HB2.out.trans (HB23.out.mono HB2.out.size))
    have HS23 := Lib.hid (HS2.out.step HB23.out)
    go_loopw [26] (fun i wr => ∃ k : Nat, k ≤ n ∧ i = .int .i64 (k : Int) ∧ Below w3.heap.size w3 wr) (fun i _ => n - (intOf i).toNat)
    case atStart => exact ⟨0, Nat.zero_le _, rfl, Below.refl _ _⟩
    case round =>
      obtain ⟨k, hk, rfl, hb⟩ := hrel
      have HBR := Lib.hid hb
      have HBW := Lib.hid (HB3.out.trans (hb.mono HB3.out.size))
      by_cases hkl : k < n
      · have h1 : (k : Int) < (n : Int) := by omega
        have h0 : (0 : Int) ≤ (k : Int) := by omega
        have hk1 : k < T1.length := by rw [HN2.out]; exact hkl
        have hk2 : k < T2.length := by rw [HN3.out]; exact hkl
        obtain ⟨s1, s2, s3⟩ := st_same HM2.out HM3.out hk1 hk2
        have hlen := HLL.out _ s3
        have h23 := HS23.out.step hb
        have h3 := HS3.out.step hb
        obtain ⟨b1, o1, e1, hb1', hc1⟩ := h23.1 (by omega)
        obtain ⟨b2, o2, e2, hb2', hc2⟩ := h3.1 (by omega)
        subst e1 e2
        obtain ⟨c1, c2'⟩ := hc1 k hk1
        obtain ⟨c3', c4⟩ := hc2 k hk2
        have r1 := h23.2 k hk1
        have r2 := h3.2 k hk2
        rw [s1] at c3'
        unfold rcell at c2' c4
        rw [s2] at r2 c4
        obtain ⟨⟨x, Aa, cca, l⟩, hx⟩ : ∃ r, stAt T1 k = r := ⟨_, rfl⟩
        rw [hx] at c1 c2' c3' c4 r1 r2 hlen
        dsimp only at c1 c2' c3' c4 r1 r2 hlen
        generalize (stAt T2 k).2.1 = Ab at *
        generalize (stAt T2 k).2.2.1 = ccb at *
        have HSM : Hid (∀ wx, Below wr.heap.size wr wx → Calls Try.prog 10 #[.slice Aa l.length cca, .slice Ab l.length ccb] wx fun e w'' => e = .returned (.bool true) ∧ Below wx.heap.size wx w'') := Lib.hid (fun wx hb => (law_same Aa Ab cca ccb l l wx (r1.step hb) (r2.step hb) (by omega) (by omega)).mono fun e w'' ⟨he, hb'⟩ => ⟨by rw [he]; simp, hb'⟩)
        have hxx : (x != x) = false := by simp
        have hxx2 : (x == x) = true := by simp
        have HD : Hid (Below wr.heap.size wr wr.drew) := Lib.hid (Below.refl _ _).drew
        have HK : Hid (∀ wx, Below wr.heap.size wr wx → wx.cell? ⟨b1, o1 + k * 2, none⟩ = some (.int .i64 x) ∧ wx.cell? ⟨b1, o1 + k * 2 + 1, none⟩ = some (.slice Aa l.length cca) ∧ wx.cell? ⟨b2, o2 + k * 2, none⟩ = some (.int .i64 x) ∧ wx.cell? ⟨b2, o2 + k * 2 + 1, none⟩ = some (.slice Ab l.length ccb)) := Lib.hid (fun wx hb => ⟨(hb.cell (p := ⟨b1, _, none⟩) hb1').trans c1, (hb.cell (p := ⟨b1, _, none⟩) hb1').trans c2', (hb.cell (p := ⟨b2, _, none⟩) hb2').trans c3', (hb.cell (p := ⟨b2, _, none⟩) hb2').trans c4⟩)
        clear hc1 hc2 r1 r2 hx s1 s2 s3 h23 h3 hb hk1 hk2
        go_upto_region 9 with (fail)
        have d1 : (wr.drew).cell? ⟨b1, o1 + k * 2, none⟩ = some (.int .i64 x) := c1
        have d2 : (wr.drew).cell? ⟨b1, o1 + k * 2 + 1, none⟩ = some (.slice Aa l.length cca) := c2'
        have d3 : (wr.drew).cell? ⟨b2, o2 + k * 2, none⟩ = some (.int .i64 x) := c3'
        have d4 : (wr.drew).cell? ⟨b2, o2 + k * 2 + 1, none⟩ = some (.slice Ab l.length ccb) := c4
        go_region_held3 (fun wx => wx.cell? ⟨b1, o1 + k * 2, none⟩ = some (.int .i64 x) ∧ wx.cell? ⟨b1, o1 + k * 2 + 1, none⟩ = some (.slice Aa l.length cca) ∧ wx.cell? ⟨b2, o2 + k * 2, none⟩ = some (.int .i64 x) ∧ wx.cell? ⟨b2, o2 + k * 2 + 1, none⟩ = some (.slice Ab l.length ccb)) (first
            | exact ⟨p1, p2, p3, p4⟩
            | exact ⟨d1, d2, d3, d4⟩
            | exact ⟨c1, c2', c3', c4⟩
            | go_keep) (first
          | (go_at_call 10; (with_reducible refine (HSM.out _ HD.out).mono ?_); rintro e w5 ⟨rfl, hb5⟩; have hbp := HD.out.trans (hb5.mono HD.out.size); obtain ⟨p1, p2, p3, p4⟩ := HK.out _ hbp; have HBP := Lib.hid hbp; clear hb5 hbp))
        clear c1 c2' c3' c4 d1 d2 d3 d4 p1 p2 p3 p4
        go_wp2
        go_roundw
        case rel => exact ⟨k + 1, by omega, by go_num, HBR.out.trans (HBP.out.mono HBR.out.size)⟩
        case measure => simp [intOf]; omega
      · obtain rfl : k = n := by omega
        have h1 : ¬ (k : Int) < (k : Int) := by omega
        have HL2 := Lib.hid (HLV.out wr HBW.out)
        go_wp2_with (go_at_call 7; refine HL2.out.mono ?_; rintro e w6 ⟨rfl, hb6⟩; have HB6 := Lib.hid hb6; clear hb6)
        go_ret
        exact ⟨rfl, HB6.out⟩
end Go.Proofs.Ytjohdkcgodaeiaa
