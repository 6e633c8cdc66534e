/- TermsEvals's walk; layer 30 (terms). -/
import Derived.Test.YtcdpjodnbegepaaVr
namespace Go.Proofs.Ytcdpjodnbegepaa
open Go.RowKit

set_option maxRecDepth 100000 in
set_option maxHeartbeats 4000000 in
theorem termsEvals_walk (vs : List Vr) (V : Option Addr) (cv : Nat) (t : Ex) (A : Option Addr) (c : Nat) (s : List Int) (Sa : Option Addr) (cs : Nat) (n : List Int) (Na : Option Addr) (cn : Nat) (w : World) (hV : Vars w.heap.size w V vs) (hvl : vs.length ≤ 1000000000) (hvn : ∀ i, i < vs.length → (va vs i).nm.size ≤ maxLen) (hR : Rep w.heap.size w A t) (hs : t.sz ≤ 100000000)
    (hS : RI w w.heap.size Sa s) (hi64 : ∀ i, I64 (li s i)) (hN : RI w w.heap.size Na n) (hn64 : ∀ i, I64 (li n i)) :
    Calls Try.prog 5 #[.slice V vs.length cv, exV t A c, .slice Sa s.length cs, .slice Na n.length cn] w (RetT w) := by
  obtain ⟨W, hW⟩ : ∃ W, w.alloc (.cells #[.int .i64 t.op, .int .i64 t.vr, .string t.nm, .slice A t.ks.length c] 24) = W := ⟨_, rfl⟩
  have hX := lawBox t A c w hR
  rw [hW] at hX
  have hWs : W.heap.size = w.heap.size + 1 := by rw [← hW]; simp
  rw [← hWs] at hX
  have HX := Lib.hid hX
  obtain ⟨⟨q0, q1, q2, q3⟩, hR0, hB0, ql⟩ := hX W (Below.refl _ _)
  have HLT : Hid (Calls Try.prog 9 #[exV t A c] W fun e w' => e = .returned (.bool (lightS t)) ∧ Below W.heap.size W w') := Lib.hid (lw_Light t A c W hs hR0)
  have HFW := Lib.hid (fun w => lw_few vs.length V cv w)
  have HLV := Lib.hid law_lives
  have HP : Hid (∀ w1, Below W.heap.size W w1 → Calls Try.prog 22 #[.slice V vs.length cv, exV t A c, .slice Sa s.length cs, .slice Na n.length cn] w1 fun e w' => e = .returned (.tuple #[.int .i64 (evS vs t s n).1, .bool (evS vs t s n).2]) ∧ Below w1.heap.size w1 w') := Lib.hid (fun w1 hb => by
    obtain ⟨_, h1, h2, _⟩ := hX w1 hb
    exact pr_Eval vs V cv t A c s n Sa Na cs cn w1 (hV.step h2) hvl hvn h1 hs (hS.step h2) (hN.step h2) hi64 hn64)
  have HQ : Hid (∀ w1, Below W.heap.size W w1 → Calls Try.prog 23 #[.slice V vs.length cv, exV t A c, .slice Sa s.length cs, .slice Na n.length cn] w1 (EvP (evS vs t s n) w1)) := Lib.hid (fun w1 hb => by
    obtain ⟨_, h1, h2, _⟩ := hX w1 hb
    exact rf_Eval vs V cv t A c s n Sa Na cs cn w1 (hV.step h2) hvl h1 hs (hS.step h2) (hN.step h2))
  obtain ⟨R, hRr⟩ : ∃ R, evS vs t s n = R := ⟨_, rfl⟩
  rw [hRr] at HP HQ
  obtain ⟨Rv, Rb⟩ := R
  have HWW := Lib.hid hW
  show Calls Try.prog 5 #[.slice V vs.length cv, .agg #[.int .i64 t.op, .int .i64 t.vr, .string t.nm, .slice A t.ks.length c], .slice Sa s.length cs, .slice Na n.length cn] w _
  clear hX hW hV hvl hvn hR hs hS hN hi64 hn64 hRr hWs hR0 hB0
  obtain ⟨lt, hlt⟩ : ∃ lt, lightS t = lt := ⟨_, rfl⟩
  rw [hlt] at HLT
  clear hlt
  obtain ⟨fw, hfw⟩ : ∃ fw, decide (vs.length ≤ 20) = fw := ⟨_, rfl⟩
  rw [hfw] at HFW
  clear hfw
  by_cases ok : lt = true ∧ fw = true ∧ ¬ (40 : Int) < (s.length : Int) ∧ ¬ (40 : Int) < (n.length : Int)
  · obtain ⟨rfl, rfl, l1, l2⟩ := ok
    go_enter Try.func5, Try.ntmps5
    go_upto_region 1 with (go_at_call 999)
    rw [HWW.out]
    go_wp2_with (first
      | (go_at_call 10; (with_reducible refine (HLV.out _).mono ?_); rintro e w5 ⟨rfl, hb5⟩; have HB5 := Lib.hid (bt HB3.out hb5); clear hb5)
      | (go_at_call 23; (with_reducible refine (HQ.out _ HB2.out).mono ?_); rintro e w3 ⟨rfl, hb3⟩; have HB3 := Lib.hid (bt HB2.out hb3); clear hb3)
      | (go_at_call 22; (with_reducible refine (HP.out _ HB1.out).mono ?_); rintro e w2 ⟨rfl, hb2⟩; have hb2a := bt HB1.out hb2; have HB2 := Lib.hid hb2a; obtain ⟨⟨s0, s1, s2, s3⟩, _, _, s4⟩ := HX.out _ hb2a; clear hb2 hb2a)
      | (go_at_call 19; (with_reducible refine (HFW.out _).mono ?_); rintro e wf ⟨rfl, rfl⟩)
      | (go_at_call 9; (with_reducible refine HLT.out.mono ?_); rintro e w1 ⟨rfl, hb1⟩; have HB1 := Lib.hid hb1; obtain ⟨⟨t0, t1, t2, t3⟩, _, _, t4⟩ := HX.out _ hb1; clear hb1))
    go_ret
    exact ⟨rfl, (HX.out _ HB5.out).2.2.1⟩
  · have HOK := Lib.hid ok
    clear ok
    cases lt
    · go_enter Try.func5, Try.ntmps5
      go_upto_region 1 with (go_at_call 999)
      rw [HWW.out]
      go_wp2_with (first
        | (go_at_call 10; (with_reducible refine (HLV.out _).mono ?_); rintro e w2 ⟨rfl, hb2⟩; have HB2 := Lib.hid (bt HB1.out hb2); clear hb2)
        | (go_at_call 9; (with_reducible refine HLT.out.mono ?_); rintro e w1 ⟨rfl, hb1⟩; have HB1 := Lib.hid hb1; clear hb1))
      go_ret
      exact ⟨rfl, (HX.out _ HB2.out).2.2.1⟩
    · cases fw
      · go_enter Try.func5, Try.ntmps5
        go_upto_region 1 with (go_at_call 999)
        rw [HWW.out]
        go_wp2_with (first
          | (go_at_call 10; (with_reducible refine (HLV.out _).mono ?_); rintro e w2 ⟨rfl, hb2⟩; have HB2 := Lib.hid (bt HB1.out hb2); clear hb2)
          | (go_at_call 19; (with_reducible refine (HFW.out _).mono ?_); rintro e wf ⟨rfl, rfl⟩)
          | (go_at_call 9; (with_reducible refine HLT.out.mono ?_); rintro e w1 ⟨rfl, hb1⟩; have HB1 := Lib.hid hb1; clear hb1))
        go_ret
        exact ⟨rfl, (HX.out _ HB2.out).2.2.1⟩
      · by_cases l1 : (40 : Int) < (s.length : Int)
        · go_enter Try.func5, Try.ntmps5
          go_upto_region 1 with (go_at_call 999)
          rw [HWW.out]
          go_wp2_with (first
            | (go_at_call 10; (with_reducible refine (HLV.out _).mono ?_); rintro e w2 ⟨rfl, hb2⟩; have HB2 := Lib.hid (bt HB1.out hb2); clear hb2)
            | (go_at_call 19; (with_reducible refine (HFW.out _).mono ?_); rintro e wf ⟨rfl, rfl⟩)
            | (go_at_call 9; (with_reducible refine HLT.out.mono ?_); rintro e w1 ⟨rfl, hb1⟩; have HB1 := Lib.hid hb1; clear hb1))
          go_ret
          exact ⟨rfl, (HX.out _ HB2.out).2.2.1⟩
        · have l2 : (40 : Int) < (n.length : Int) := Decidable.not_not.1 (fun h => HOK.out ⟨rfl, rfl, l1, h⟩)
          go_enter Try.func5, Try.ntmps5
          go_upto_region 1 with (go_at_call 999)
          rw [HWW.out]
          go_wp2_with (first
            | (go_at_call 10; (with_reducible refine (HLV.out _).mono ?_); rintro e w2 ⟨rfl, hb2⟩; have HB2 := Lib.hid (bt HB1.out hb2); clear hb2)
            | (go_at_call 19; (with_reducible refine (HFW.out _).mono ?_); rintro e wf ⟨rfl, rfl⟩)
            | (go_at_call 9; (with_reducible refine HLT.out.mono ?_); rintro e w1 ⟨rfl, hb1⟩; have HB1 := Lib.hid hb1; clear hb1))
          go_ret
          exact ⟨rfl, (HX.out _ HB2.out).2.2.1⟩
end Go.Proofs.Ytcdpjodnbegepaa
