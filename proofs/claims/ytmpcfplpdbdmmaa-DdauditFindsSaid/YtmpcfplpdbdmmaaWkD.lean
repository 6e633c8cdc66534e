/- DdauditBroken and DdauditFinds, over the contracts. -/
import Derived.Test.YtmpcfplpdbdmmaaWkC
import Derived.Test.YtmpcfplpdbdmmaaFnS
namespace Go.Proofs.Ytmpcfplpdbdmmaa
open Go.RowKit Go.Maps

theorem ddauditBroken_walk (A : Option Addr) (ca : Nat) (order : List Int) (C : Option Addr) (cc : Nat) (l : List Nd) (at_ : Int) (w : World) (hA : RowI w.heap.size w A order) (hO : OkI order) (x0 : order.length ≤ ca) (y0 : ca ≤ maxLen) (hC : RowN w.heap.size w C l) (hN : OkN l) (_x1 : l.length ≤ cc) (_y1 : cc ≤ maxLen) (_ha : (Lit.int .i64 at_).wf = true) :
    Calls Try.prog 5 #[.slice A order.length ca, .slice C l.length cc, .int .i64 at_] w fun e w' => e = .returned (.bool true) ∧ Below w.heap.size w w' := by
  by_cases hb : l.length = 0 ∨ 30 < l.length ∨ at_ < 0 ∨ (l.length : Int) ≤ at_
  · exact broken_bad A ca order.length C cc l.length at_ w hb
  · have h1 : ¬ l.length = 0 := fun h => hb (.inl h)
    have h2 : ¬ 30 < l.length := fun h => hb (.inr (.inl h))
    have h3 : ¬ at_ < 0 := fun h => hb (.inr (.inr (.inl h)))
    have h4 : ¬ (l.length : Int) ≤ at_ := fun h => hb (.inr (.inr (.inr h)))
    obtain ⟨b, f, rfl, _⟩ := hC (by omega)
    obtain ⟨a, rfl⟩ := Int.eq_ofNat_of_zero_le (Int.not_lt.1 h3)
    exact broken_good A ca order b f cc l a w hA hO hC hN (by unfold maxLen at y0; omega) (by omega) (by omega)
set_option maxRecDepth 100000 in
set_option maxHeartbeats 8000000 in
theorem ddauditFinds_walk (A : Option Addr) (ca : Nat) (order : List Int) (C : Option Addr) (cc : Nat) (l : List Nd) (w : World) (hA : RowI w.heap.size w A order) (hO : OkI order) (_x0 : order.length ≤ ca) (_y0 : ca ≤ maxLen) (hC : RowN w.heap.size w C l) (hN : OkN l) (_x1 : l.length ≤ cc) (_y1 : cc ≤ maxLen) :
    Calls Try.prog 3 #[.slice A order.length ca, .slice C l.length cc] w fun e w' => e = .returned (.bool true) ∧ Below w.heap.size w w' := by
  have HLi := Lib.hid lives_any
  clear _x0 _y0 _x1 _y1
  by_cases h1 : 30 < l.length
  · have g1 : (30 : Int) < (l.length : Int) := by omega
    clear hA hO hC hN
    go_enter Try.func3, Try.ntmps3
    go_wp2_with (go_at_call 6; refine (HLi.out _).mono ?_; rintro e w1 ⟨rfl, b1⟩; have HB := Lib.hid b1; clear b1)
    go_ret
    exact ⟨rfl, HB.out⟩
  have g1 : ¬ (30 : Int) < (l.length : Int) := by omega
  by_cases h2 : 30 < order.length
  · have g2 : (30 : Int) < (order.length : Int) := by omega
    clear hA hO hC hN
    go_enter Try.func3, Try.ntmps3
    go_wp2_with (go_at_call 6; refine (HLi.out _).mono ?_; rintro e w1 ⟨rfl, b1⟩; have HB := Lib.hid b1; clear b1)
    go_ret
    exact ⟨rfl, HB.out⟩
  have g2 : ¬ (30 : Int) < (order.length : Int) := by omega
  have HP : Hid (Calls Try.prog 7 #[.slice A order.length ca, .slice C l.length cc] w fun e w' => ∃ L A1 c1, e = .returned (.slice A1 L.length c1) ∧ FdIn w' A1 L ∧ Below w.heap.size w w' ∧ L = allF order l l.length ∧ L.length ≤ 1000) := Lib.hid ((e_Nodes order l A ca C cc w hA hC hO hN (by omega) (by omega)).mono (fun e w' ⟨v, he, ho, hb2⟩ => by
    obtain ⟨A1, c1, rfl, hc1⟩ := ho.cells
    exact ⟨_, A1, c1, he, hc1, hb2, rfl, by have := allF_len order l l.length; omega⟩))
  have HR : Hid (∀ wx, Below w.heap.size w wx → Calls Try.prog 8 #[.slice A order.length ca, .slice C l.length cc] wx fun e w' => ∃ L A1 c1, e = .returned (.slice A1 L.length c1) ∧ FdIn w' A1 L ∧ Below wx.heap.size wx w' ∧ L = allF order l l.length) := Lib.hid (fun wx hb => (r_Nodes order l A ca C cc wx ((hA.below hb (Nat.le_refl _)).mono hb.size) ((hC.below hb (Nat.le_refl _)).mono hb.size) hN (by omega) (by omega)).mono (fun e w' ⟨v, he, ho, hb2⟩ => by
    obtain ⟨A1, c1, rfl, hc1⟩ := ho.cells
    exact ⟨_, A1, c1, he, hc1, hb2, rfl⟩))
  clear hA hO hC hN h1 h2
  go_enter Try.func3, Try.ntmps3
  go_upto_region 4 with (first
    | (go_at_call 8; have _t := HB1; refine (HR.out _ HB1.out).mono ?_; rintro e w2 ⟨L2, A2, c2, rfl, hc2, hb2, he2⟩; have HC2 := Lib.hid hc2; have HC1' := Lib.hid (HC1.out.below hb2); have HB2 := Lib.hid (HB1.out.trans (hb2.mono HB1.out.size)); have HE2 := Lib.hid he2; clear hc2 hb2 he2)
    | (go_at_call 7; refine HP.out.mono ?_; rintro e w1 ⟨L1, A1, c1, rfl, hc1, hb1, he1, hk1⟩; have HC1 := Lib.hid hc1; have HB1 := Lib.hid hb1; have HE1 := Lib.hid he1; have HK1 := Lib.hid hk1; clear hc1 hb1 he1 hk1))
  obtain rfl : L2 = L1 := by rw [HE1.out, HE2.out]
  have g3 : ((L2.length : Int) != (L2.length : Int)) = false := by simp
  clear HE1 HE2 HC1 HB1 HP HR
  go_wp2
  go_loopw [30] (fun i wr => ∃ k : Nat, k ≤ L2.length ∧ i = .int .i64 (k : Int) ∧ Hid (Below w2.heap.size w2 wr)) (fun i _ => L2.length - (intOf i).toNat)
  case atStart => exact ⟨0, Nat.zero_le _, rfl, Lib.hid (Below.refl _ _)⟩
  case round =>
    obtain ⟨k, hk, rfl, HB⟩ := hrel
    have hbd := HK1.out
    by_cases hlt : k < L2.length
    · have l1 : (k : Int) < (L2.length : Int) := by omega
      have l0 : (0 : Int) ≤ (k : Int) := by omega
      obtain ⟨z, hz⟩ : ∃ z, L2[k]? = some z := ⟨_, List.getElem?_eq_getElem hlt⟩
      obtain ⟨ga, rfl, hga, y0, y1⟩ := HC1'.out k z hz
      obtain ⟨gb, rfl, hgb, y2, y3⟩ := HC2.out k z hz
      have z0 := (HB.out.cell (p := ⟨ga, k * 2, none⟩) hga).trans y0
      have z1 := (HB.out.cell (p := ⟨ga, k * 2 + 1, none⟩) hga).trans y1
      have z2 := (HB.out.cell (p := ⟨gb, k * 2, none⟩) hgb).trans y2
      have z3 := (HB.out.cell (p := ⟨gb, k * 2 + 1, none⟩) hgb).trans y3
      clear y0 y1 y2 y3 hz
      go_wp2
      go_big_quiet (fail)
      go_wp2
      go_roundw
      case rel => exact ⟨k + 1, by omega, by go_num, Lib.hid (by first | exact below_drewM HB.out _ | exact HB.out.drew | exact HB.out)⟩
      case measure => simp [intOf]; try omega
    · have l1 : ¬ (k : Int) < (L2.length : Int) := by omega
      obtain rfl : k = L2.length := by omega
      have HLv := Lib.hid (HLi.out wr)
      have HBe := Lib.hid (HB2.out.trans (HB.out.mono HB2.out.size))
      clear HB
      go_wp2_with (go_at_call 6; refine HLv.out.mono ?_; rintro e w7 ⟨rfl, b7⟩; have HB7 := Lib.hid (HBe.out.trans (b7.mono HBe.out.size)); clear b7)
      go_ret
      exact ⟨rfl, HB7.out⟩
end Go.Proofs.Ytmpcfplpdbdmmaa
