/- The contract of the specification's value at a leaf, of layer 30 (terms). -/
import Derived.Test.YtcdpjodnbegepaaVo
namespace Go.Proofs.Ytcdpjodnbegepaa
open Go.RowKit

def VlP (R : Int × Int) (w : World) (e : Ending) (w' : World) : Prop := ∃ v, e = .returned (.tuple #[.int .i64 v, .bool (R.2 == 0)]) ∧ (R.2 = 0 → v = R.1) ∧ Below w.heap.size w w'
theorem vlp_fit {R : Int × Int} {w w' : World} {x : Int} {q : Bool} (h : Fit R x) (hq : q = !farS x) (hb : Below w.heap.size w w') : VlP R w (.returned (.tuple #[.int .i64 x, .bool q])) w' := ⟨x, by rw [hq, h.1], h.2, hb⟩
theorem vlp_ok {x : Int} {w w' : World} (hb : Below w.heap.size w w') : VlP (x, 0) w (.returned (.tuple #[.int .i64 x, .bool true])) w' := ⟨x, rfl, fun _ => rfl, hb⟩
theorem vlp_no {R : Int × Int} {x : Int} {w w' : World} (h : R.2 ≠ 0) (hb : Below w.heap.size w w') : VlP R w (.returned (.tuple #[.int .i64 x, .bool false])) w' := ⟨x, by rw [show (R.2 == 0) = false from (by simp [h])], fun e => absurd e h, hb⟩
set_option maxRecDepth 100000 in
set_option maxHeartbeats 4000000 in
theorem rf_value_leaf (vs : List Vr) (V : Option Addr) (cv : Nat) (t : Ex) (A : Option Addr) (c : Nat) (s n : List Int) (Sa Na : Option Addr) (cs cn : Nat) (w : World) (hV : Vars w.heap.size w V vs) (hvl : vs.length ≤ 1000000000)
    (hS : RI w w.heap.size Sa s) (hNn : RI w w.heap.size Na n) (hss : s.length = vs.length) (hns : t.op = 4 → n.length = vs.length) (hok : okE vs t) (ho : t.op ≤ 4) :
    Calls Try.prog 53 #[.slice V vs.length cv, exV t A c, .slice Sa s.length cs, .slice Na n.length cn] w (VlP (fd (0 : Int) (valN vs s n) t) w) := by
  have hN := hok.1.node
  have ho1 : 1 ≤ t.op := hN.1
  have hks : t.ks = [] := by
    obtain ⟨_, _, _, _, _, _, _, h2⟩ := hN
    unfold kidM at h2
    rw [if_pos (by omega)] at h2
    exact List.eq_nil_of_length_eq_zero (by omega)
  have e : fd (0 : Int) (valN vs s n) t = valN vs s n t [] := by rw [fd_eq, hks]; rfl
  rw [e]
  clear e
  have HB : Hid (∀ ob, Below w.heap.size w (w.alloc ob)) := Lib.hid (fun ob => (Below.refl _ _).alloc (Nat.le_refl _) ob)
  show Calls Try.prog 53 #[.slice V vs.length cv, .agg #[.int .i64 t.op, .int .i64 t.vr, .string t.nm, .slice A t.ks.length c], .slice Sa s.length cs, .slice Na n.length cn] w _
  by_cases o1 : t.op = 1
  · have X : valN vs s n t [] = (t.vr, 0) := by
      unfold valN valS
      rw [if_neg (show ¬ t.op = 4 by omega), if_neg (by omega), if_neg (by omega), if_neg (by omega), if_pos (by omega)]
    rw [X, o1]
    generalize t.vr = v at *
    generalize t.nm = m at *
    generalize t.ks.length = nk at *
    clear hV hS hNn hss hns hok hN ho ho1 hks X
    go_enter Try.func53, Try.ntmps53
    go_wp2
    go_ret2
    exact vlp_ok (HB.out _)
  by_cases o2 : t.op = 2
  · have X : valN vs s n t [] = (t.vr, 0) := by
      unfold valN valS
      rw [if_neg (show ¬ t.op = 4 by omega), if_neg (by omega), if_neg (by omega), if_neg (by omega), if_pos (by omega)]
    rw [X, o2]
    generalize t.vr = v at *
    generalize t.nm = m at *
    generalize t.ks.length = nk at *
    clear hV hS hNn hss hns hok hN ho ho1 hks X
    go_enter Try.func53, Try.ntmps53
    go_wp2
    go_ret2
    exact vlp_ok (HB.out _)
  obtain ⟨i, hi⟩ := hok.idx (by omega)
  have hlt := idxN_lt hi
  have hid : idxI t.nm vs = (i : Int) := by unfold idxI; rw [hi]
  by_cases o3 : t.op = 3
  · have X : valN vs s n t [] = vvS (va vs i) (li s i) := by
      unfold valN
      rw [if_neg (show ¬ t.op = 4 by omega), if_neg (by omega), if_pos (by omega), hi]
    rw [X]
    rw [o3]
    have HIX : Hid (∀ w1, Below w.heap.size w w1 → Calls Try.prog 29 #[.slice V vs.length cv, .string t.nm] w1 fun e w' => e = .returned (.int .i64 (i : Int)) ∧ w1 = w') := Lib.hid (fun w1 h => by
      have := rf_Index vs V cv t.nm w1 (hV.step h) hvl
      rwa [hid] at this)
    obtain ⟨b, f, rfl, hbl, hc⟩ := hV (by omega)
    obtain ⟨_, c1, _, _⟩ := hc i hlt
    obtain ⟨b2, f2, rfl, hbl2, hc2⟩ := hS (by omega)
    have c2 := hc2 i (by omega)
    have d1 : ∀ ob, (w.alloc ob).cell? ⟨b, f + i * 4 + 1, none⟩ = some (.bool (va vs i).b) := fun ob => ((HB.out ob).cell (p := ⟨b, f + i * 4 + 1, none⟩) hbl).trans c1
    have d2 : ∀ ob, (w.alloc ob).cell? ⟨b2, f2 + i, none⟩ = some (.int .i64 (li s i)) := fun ob => ((HB.out ob).cell (p := ⟨b2, f2 + i, none⟩) hbl2).trans c2
    have i1 : (i : Int) < (vs.length : Int) := by omega
    have i2 : (i : Int) < (s.length : Int) := by omega
    have HU := Lib.hid (fun w => rf_truth (li s i != 0) w)
    have HF := Lib.hid (fun w => rf_far (li s i) w)
    generalize va vs i = u at *
    generalize li s i = x at *
    obtain ⟨um, ub, ul, uh⟩ := u
    dsimp only at c1 d1
    generalize t.vr = v at *
    generalize t.nm = m at *
    generalize t.ks.length = nk at *
    clear hc hc2 hns hok hN ho ho1 hks X hi hid hV hNn
    cases ub
    · have hR : Fit (vvS ⟨um, false, ul, uh⟩ x) x := by
        show Fit (withS (addF x 0).1 (addF x 0).2) x
        exact fit_with (by unfold addF; rw [Int.add_zero])
      obtain ⟨R, hRR⟩ : ∃ R, vvS ⟨um, false, ul, uh⟩ x = R := ⟨_, rfl⟩
      rw [hRR] at hR ⊢
      have HR := Lib.hid hR
      obtain ⟨q, hq⟩ : ∃ q, farS x = q := ⟨_, rfl⟩
      rw [hq] at HF
      have HQ := Lib.hid hq
      clear hRR hR hq HU
      go_enter Try.func53, Try.ntmps53
      go_wp2_with (first
        | (go_at_call 29; (with_reducible refine (HIX.out _ (HB.out _)).mono ?_); rintro e w2 ⟨rfl, rfl⟩)
        | (go_at_call 76; (with_reducible refine (HF.out _).mono ?_); rintro e w3 ⟨rfl, rfl⟩))
      go_ret2
      exact vlp_fit HR.out (by rw [HQ.out]) (HB.out _)
    · show Calls Try.prog 53 _ w (VlP (truthS (x != 0), 0) w)
      generalize truthS (x != 0) = y at *
      clear HF
      go_enter Try.func53, Try.ntmps53
      go_wp2_with (first
        | (go_at_call 29; (with_reducible refine (HIX.out _ (HB.out _)).mono ?_); rintro e w2 ⟨rfl, rfl⟩)
        | (go_at_call 75; (with_reducible refine (HU.out _).mono ?_); rintro e w3 ⟨rfl, rfl⟩))
      go_ret2
      exact vlp_ok (HB.out _)
  have o4 : t.op = 4 := by omega
  have hnl := hns o4
  have X : valN vs s n t [] = vvS (va vs i) (li n i) := by
    unfold valN
    rw [if_pos o4, if_neg (by have := hns o4; omega), if_pos (by omega), hi]
  rw [X]
  rw [o4]
  have HIX : Hid (∀ w1, Below w.heap.size w w1 → Calls Try.prog 29 #[.slice V vs.length cv, .string t.nm] w1 fun e w' => e = .returned (.int .i64 (i : Int)) ∧ w1 = w') := Lib.hid (fun w1 h => by
    have := rf_Index vs V cv t.nm w1 (hV.step h) hvl
    rwa [hid] at this)
  obtain ⟨b, f, rfl, hbl, hc⟩ := hV (by omega)
  obtain ⟨_, c1, _, _⟩ := hc i hlt
  obtain ⟨b2, f2, rfl, hbl2, hc2⟩ := hNn (by omega)
  have c2 := hc2 i (by omega)
  have d1 : ∀ ob, (w.alloc ob).cell? ⟨b, f + i * 4 + 1, none⟩ = some (.bool (va vs i).b) := fun ob => ((HB.out ob).cell (p := ⟨b, f + i * 4 + 1, none⟩) hbl).trans c1
  have d2 : ∀ ob, (w.alloc ob).cell? ⟨b2, f2 + i, none⟩ = some (.int .i64 (li n i)) := fun ob => ((HB.out ob).cell (p := ⟨b2, f2 + i, none⟩) hbl2).trans c2
  have i1 : (i : Int) < (vs.length : Int) := by omega
  have i2 : (i : Int) < (n.length : Int) := by omega
  have HU := Lib.hid (fun w => rf_truth (li n i != 0) w)
  have HF := Lib.hid (fun w => rf_far (li n i) w)
  generalize va vs i = u at *
  generalize li n i = x at *
  obtain ⟨um, ub, ul, uh⟩ := u
  dsimp only at c1 d1
  generalize t.vr = v at *
  generalize t.nm = m at *
  generalize t.ks.length = nk at *
  clear hc hc2 hns hok hN ho ho1 hks X hi hid hV hS
  cases ub
  · have hR : Fit (vvS ⟨um, false, ul, uh⟩ x) x := by
      show Fit (withS (addF x 0).1 (addF x 0).2) x
      exact fit_with (by unfold addF; rw [Int.add_zero])
    obtain ⟨R, hRR⟩ : ∃ R, vvS ⟨um, false, ul, uh⟩ x = R := ⟨_, rfl⟩
    rw [hRR] at hR ⊢
    have HR := Lib.hid hR
    obtain ⟨q, hq⟩ : ∃ q, farS x = q := ⟨_, rfl⟩
    rw [hq] at HF
    have HQ := Lib.hid hq
    clear hRR hR hq HU
    go_enter Try.func53, Try.ntmps53
    go_wp2_with (first
      | (go_at_call 29; (with_reducible refine (HIX.out _ (HB.out _)).mono ?_); rintro e w2 ⟨rfl, rfl⟩)
      | (go_at_call 76; (with_reducible refine (HF.out _).mono ?_); rintro e w3 ⟨rfl, rfl⟩))
    go_ret2
    exact vlp_fit HR.out (by rw [HQ.out]) (HB.out _)
  · show Calls Try.prog 53 _ w (VlP (truthS (x != 0), 0) w)
    generalize truthS (x != 0) = y at *
    clear HF
    go_enter Try.func53, Try.ntmps53
    go_wp2_with (first
      | (go_at_call 29; (with_reducible refine (HIX.out _ (HB.out _)).mono ?_); rintro e w2 ⟨rfl, rfl⟩)
      | (go_at_call 75; (with_reducible refine (HU.out _).mono ?_); rintro e w3 ⟨rfl, rfl⟩))
    go_ret2
    exact vlp_ok (HB.out _)
end Go.Proofs.Ytcdpjodnbegepaa
