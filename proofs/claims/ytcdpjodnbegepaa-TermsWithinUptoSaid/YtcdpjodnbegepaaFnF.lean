/- The contract of the specification's products, of layer 30 (terms). -/
import Derived.Test.YtcdpjodnbegepaaFnE
namespace Go.Proofs.Ytcdpjodnbegepaa
open Go.RowKit

/-- The four products of the bounds. -/
def prods (a b : Ty) : List Int := [wrap64 (a.lo * b.lo), wrap64 (a.lo * b.hi), wrap64 (a.hi * b.lo), wrap64 (a.hi * b.hi)]
set_option maxHeartbeats 4000000 in
theorem rf_products (a b : Ty) (w : World) : Calls Try.prog 87 #[tyV a, tyV b] w fun e w' => e = .returned (.tuple #[.int .i64 (mnN (prods a b) 3), .int .i64 (mxN (prods a b) 3)]) ∧ Below w.heap.size w w' := by
  obtain ⟨ab, al', ah⟩ := a
  obtain ⟨bb, bl, bh⟩ := b
  obtain ⟨x0, e0⟩ : ∃ x, wrap64 (al' * bl) = x := ⟨_, rfl⟩
  obtain ⟨x1, e1⟩ : ∃ x, wrap64 (al' * bh) = x := ⟨_, rfl⟩
  obtain ⟨x2, e2⟩ : ∃ x, wrap64 (ah * bl) = x := ⟨_, rfl⟩
  obtain ⟨x3, e3⟩ : ∃ x, wrap64 (ah * bh) = x := ⟨_, rfl⟩
  have HP : Hid (prods ⟨ab, al', ah⟩ ⟨bb, bl, bh⟩ = [x0, x1, x2, x3]) := Lib.hid (by rw [← e0, ← e1, ← e2, ← e3]; rfl)
  rw [HP.out]
  clear HP
  have HB : Hid (∀ o1 o2 o3, Below w.heap.size w (((w.alloc o1).alloc o2).alloc o3)) := Lib.hid (fun o1 o2 o3 => al (al (al (Below.refl _ _) _) _) _)
  have HX : Hid (∀ o1 o2, Blk (((w.alloc o1).alloc o2).alloc (.cells (intRow [x0, x1, x2, x3]) 3)) (w.heap.size + 1 + 1) 3 (intRow [x0, x1, x2, x3])) := Lib.hid (fun o1 o2 => by
    have h := Blk.new ((w.alloc o1).alloc o2) 3 (intRow [x0, x1, x2, x3])
    have z : ((w.alloc o1).alloc o2).heap.size = w.heap.size + 1 + 1 := by simp
    rw [z] at h
    exact h)
  have HM : Hid (∀ k, k < 3 → mnN [x0, x1, x2, x3] (k + 1) = min (mnN [x0, x1, x2, x3] k) (li [x0, x1, x2, x3] (k + 1))) := Lib.hid (fun k hk => by
    show (if mnN [x0, x1, x2, x3] k ≤ li [x0, x1, x2, x3] (k + 1) then mnN [x0, x1, x2, x3] k else li [x0, x1, x2, x3] (k + 1)) = _
    split <;> omega)
  have HM2 : Hid (∀ k, k < 3 → mxN [x0, x1, x2, x3] (k + 1) = max (mxN [x0, x1, x2, x3] k) (li [x0, x1, x2, x3] (k + 1))) := Lib.hid (fun k hk => by
    show (if li [x0, x1, x2, x3] (k + 1) ≤ mxN [x0, x1, x2, x3] k then mxN [x0, x1, x2, x3] k else li [x0, x1, x2, x3] (k + 1)) = _
    split <;> omega)
  go_enter Try.func87, Try.ntmps87
  go_wp2
  go_region
  go_wp2
  go_loopw [7, 8, 9] (fun lo hi i wr => ∃ k : Nat, k + 1 ≤ 4 ∧ i = .int .i64 ((k : Int) + 1) ∧ Hid (lo = .int .i64 (mnN [x0, x1, x2, x3] k) ∧ hi = .int .i64 (mxN [x0, x1, x2, x3] k)) ∧ Hid (Blk wr (w.heap.size + 1 + 1) 3 (intRow [x0, x1, x2, x3]) ∧ Below w.heap.size w wr)) (fun _ _ i _ => 4 - (intOf i).toNat)
  case atStart => exact ⟨0, by omega, rfl, Lib.hid ⟨rfl, rfl⟩, Lib.hid ⟨(HX.out _ _).drewN 1, below_drewN (HB.out _ _ _) 1⟩⟩
  case round =>
    obtain ⟨k, hk, rfl, HL, HW⟩ := hrel
    obtain ⟨rfl, rfl⟩ := HL.out
    by_cases hlt : k + 1 < 4
    · have l1 : (k : Int) + 1 < 4 := by omega
      have l2 : (0 : Int) ≤ (k : Int) + 1 := by omega
      have l3 : ((k : Int) + 1).toNat = k + 1 := by omega
      have d0 : wr.cell? ⟨w.heap.size + 1 + 1, k + 1, none⟩ = some (.int .i64 (li [x0, x1, x2, x3] (k + 1))) := (HW.out.1.cell (k + 1)).trans (intRow_at (by simpa using hlt))
      have m1 := HM.out k (by omega)
      have m2 := HM2.out k (by omega)
      have M1 := Lib.hid m1
      have M2 := Lib.hid m2
      clear m1 m2 HL
      generalize li [x0, x1, x2, x3] (k + 1) = x at *
      generalize hmn : mnN [x0, x1, x2, x3] k = mn at *
      generalize hmx : mxN [x0, x1, x2, x3] k = mx at *
      clear hmn hmx
      go_wp2
      go_region
      all_goals
        go_wp2
        exact ⟨⟨k + 1, by omega, by go_num, Lib.hid ⟨by rw [M1.out], by rw [M2.out]⟩, Lib.hid ⟨HW.out.1.drewN 1, below_drewN HW.out.2 1⟩⟩, by simp [intOf]; try omega⟩
    · have l1 : ¬ (k : Int) + 1 < 4 := by omega
      obtain rfl : k = 3 := by omega
      go_wp2
      go_ret2
      exact ⟨rfl, HW.out.2⟩
end Go.Proofs.Ytcdpjodnbegepaa
