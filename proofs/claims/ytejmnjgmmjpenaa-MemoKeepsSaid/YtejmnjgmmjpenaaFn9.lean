/- Contract of Kept of the reference of layer 11 (memo), over the translation. -/
import Derived.Test.YtejmnjgmmjpenaaFn8
import Derived.Test.YtejmnjgmmjpenaaWk2
namespace Go.Proofs.Ytejmnjgmmjpenaa
open Go.RowKit

def act0 : Act := ⟨0, 0, 0, 0, 0, 0⟩
/-- What the reference says of the first k operations for the key of x. -/
def keptF (l : List Act) (x : Act) : Nat → Bool → Int × Bool × Bool
  | 0, _ => (0, false, false)
  | k + 1, last =>
    if (l.getD k act0).kind = 2 then (0, false, false)
    else if (l.getD k act0).kind = 1 then (if keyP (l.getD k act0) x then ((l.getD k act0).r, true, last) else keptF l x k false)
    else keptF l x k last

set_option maxRecDepth 100000 in
set_option maxHeartbeats 4000000 in
theorem ref_Kept {w : World} {B : Nat} {A : Option Addr} {l : List Act} (hRA : RA w B A l) (hB : B ≤ w.heap.size) (c : Nat) (_hlc : l.length ≤ c) (_hcm : c ≤ maxLen) {K : Nat} {x : Act} (hx : l[K]? = some x) (hK : K ≤ 1000) :
    Calls Try.prog 12 #[.slice A l.length c, .int .i64 K] w fun e w' => e = .returned (.tuple #[.int .i64 (keptF l x K true).1, .bool (keptF l x K true).2.1, .bool (keptF l x K true).2.2]) ∧ Below w.heap.size w w' := by
  obtain ⟨b, off, rfl, hbB⟩ := hRA.at hx
  have hKl : K < l.length := (List.getElem?_eq_some_iff.1 hx).1
  obtain ⟨⟨p1, p2, p3⟩, hR⟩ : ∃ r, keptF l x K true = r := ⟨_, rfl⟩
  rw [hR]
  have HR := Lib.hid hRA
  have HP := Lib.hid hR
  have HXK := Lib.hid hx
  clear hRA hR hx
  go_enter Try.func12, Try.ntmps12
  go_wp2_with fail
  go_loopw [7, 8] (fun la i wr => ∃ (k : Nat) (last : Bool), k ≤ K ∧ i = .int .i64 ((k : Int) - 1) ∧ la = .bool last ∧ Below w.heap.size w wr ∧ Hid (keptF l x k last = (p1, p2, p3))) (fun _ i _ => (intOf i + 1).toNat)
  case atStart => exact ⟨K, true, Nat.le_refl _, by go_num, rfl, Below.refl _ _, HP.out⟩
  case round =>
    obtain ⟨k, last, hk, rfl, rfl, hb, HQ⟩ := hrel
    have HBL := Lib.hid hb
    clear hb HP
    cases k with
    | zero =>
      have hq : (0, false, false) = (p1, p2, p3) := HQ.out
      simp only [Prod.mk.injEq] at hq
      obtain ⟨rfl, rfl, rfl⟩ := hq
      go_wp2
      go_ret3
      exact ⟨rfl, HBL.out⟩
    | succ k =>
      have hkl : k < l.length := by omega
      obtain ⟨y, hy⟩ : ∃ y, l[k]? = some y := ⟨_, List.getElem?_eq_getElem hkl⟩
      have hyd : l.getD k act0 = y := by rw [List.getD, hy]; rfl
      have hq : (if y.kind = 2 then (0, false, false) else if y.kind = 1 then (if keyP y x then (y.r, true, last) else keptF l x k false) else keptF l x k last) = (p1, p2, p3) := by
        have := HQ.out
        unfold keptF at this
        rw [hyd] at this
        exact this
      rw [show ((k + 1 : Nat) : Int) - 1 = (k : Int) by omega]
      have h0 : (0 : Int) ≤ (k : Int) := by omega
      have h1 : (k : Int) < (l.length : Int) := by omega
      have h2 : (K : Int) < (l.length : Int) := by omega
      have hra := HR.out.below (HBL.out.mono hB)
      have HRA := Lib.hid hra
      obtain ⟨y0, y1, y2, y3, y4, y5⟩ := hra.cells hy
      by_cases c2 : y.kind = 2
      · rw [if_pos c2] at hq
        simp only [Prod.mk.injEq] at hq
        obtain ⟨rfl, rfl, rfl⟩ := hq
        rw [c2] at y0
        clear hyd hra
        go_wp2
        go_ret3
        exact ⟨rfl, HBL.out⟩
      · rw [if_neg c2] at hq
        by_cases c1 : y.kind = 1
        · rw [if_pos c1] at hq
          have HQ2 := Lib.hid hq
          have y0' : wr.cell? ⟨b, off + k * 6, none⟩ = some (.int .u8 1) := by rw [y0, c1]
          clear hyd hra hq HQ c1 c2 y0
          go_wp2_with fail
          clear y0' y1 y2 y3 y4 y5
          refine still_tail 8 (by kernel_rfl) (by kernel_rfl) fun w2 hw2 => ?_
          simp only [List.take_succ_cons, List.take_zero, List.drop_succ_cons, List.drop_zero]
          have hb2 : Below wr.heap.size wr w2 := by rw [hw2]; exact (Below.refl _ _).drew
          have HB2 := Lib.hid (HBL.out.trans (hb2.mono HBL.out.size))
          have hra2 := HR.out.below (HB2.out.mono hB)
          obtain ⟨y0, y1, y2, y3, y4, y5⟩ := hra2.cells hy
          obtain ⟨x0, x1, x2, x3, x4, x5⟩ := hra2.cells HXK.out
          have HRA2 := Lib.hid hra2
          clear hra2 hw2 hb2 HRA HBL
          repeat still_step
          refine wpStill_nil ?_
          clear x0 x1 x2 x3 x4 x5 y0 y1 y2 y3 y4 y5
          have HK := Lib.hid (ref_Key y x w2)
          go_wp2_with fail
          refine HK.out.mono ?_; rintro e w3 ⟨rfl, hb3⟩
          have HB3 := Lib.hid (HB2.out.trans (hb3.mono HB2.out.size))
          obtain ⟨z0, z1, z2, z3, z4, z5⟩ := (HR.out.below (HB3.out.mono hB)).cells hy
          clear hb3 HB2 HK HRA2 hy
          by_cases hk2 : keyP y x
          · have hq2 := HQ2.out
            rw [if_pos hk2] at hq2
            simp only [Prod.mk.injEq] at hq2
            obtain ⟨rfl, rfl, rfl⟩ := hq2
            rw [decide_eq_true hk2]
            clear HQ2 hk2
            go_wp2
            go_ret3
            exact ⟨rfl, HB3.out⟩
          · have hq2 := HQ2.out
            rw [if_neg hk2] at hq2
            have HQ3 := Lib.hid hq2
            rw [decide_eq_false hk2]
            clear HQ2 hk2 hq2
            go_wp2
            go_roundw
            case rel => exact ⟨k, false, by omega, by go_num, rfl, HB3.out, HQ3⟩
            case measure => simp [intOf]
        · rw [if_neg c1] at hq
          have HQ2 := Lib.hid hq
          clear hyd hra hq HQ
          go_wp2
          go_roundw
          case rel => exact ⟨k, last, by omega, by go_num, rfl, HBL.out, HQ2⟩
          case measure => simp [intOf]
end Go.Proofs.Ytejmnjgmmjpenaa
