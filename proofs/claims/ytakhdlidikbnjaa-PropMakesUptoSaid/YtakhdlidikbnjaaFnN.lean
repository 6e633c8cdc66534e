/- The contract of Eval; layer 6 (prop). -/
import Derived.Test.YtakhdlidikbnjaaFnE
import Derived.Test.YtakhdlidikbnjaaFn4
namespace Go.Proofs.Ytakhdlidikbnjaa
open Go.RowKit

def evalS (t : Ex) (l : List Bool) : Bool := decide (chkE t = 0) && val l t
set_option maxHeartbeats 2000000 in
theorem pr_Eval (t : Ex) (A : Option Addr) (c : Nat) (L : Option Addr) (cl : Nat) (l : List Bool) (w : World) (hs : t.sz ≤ 100000000) (hl : l.length ≤ 1000000000) (hR : Rep w.heap.size w A t) (hL : RB w w.heap.size L l) :
    Calls Try.prog 23 #[exV t A c, .slice L l.length cl] w (ValP w (evalS t l)) := by
  have HB : Hid (∀ ob, Below w.heap.size w (w.alloc ob)) := Lib.hid (fun ob => (Below.refl _ _).alloc (Nat.le_refl _) ob)
  have HC := Lib.hid (fun o1 => pr_Check t A c (w.alloc o1) hs (hR.step (HB.out o1)))
  have HX : Hid (∀ w1, Below (w.alloc (.cells (exC t A c) 24)).heap.size (w.alloc (.cells (exC t A c) 24)) w1 → (w1.cell? ⟨w.heap.size, 0, none⟩ = some (.int .i64 t.op) ∧ w1.cell? ⟨w.heap.size, 1, none⟩ = some (.int .i64 t.vr) ∧ w1.cell? ⟨w.heap.size, 2, none⟩ = some (.slice A t.ks.length c)) ∧ Below w.heap.size w w1 ∧ w.heap.size < w1.heap.size) := Lib.hid (fun wr h => by
    have hk := (Blk.new w 24 (exC t A c))
    have hsz : (w.alloc (.cells (exC t A c) 24)).heap.size = w.heap.size + 1 := by simp
    have hk2 : Blk wr w.heap.size 24 (exC t A c) := (h.block _ (by rw [hsz]; omega)).trans hk
    refine ⟨⟨hk2.cell 0, hk2.cell 1, hk2.cell 2⟩, (HB.out _).trans (h.mono (HB.out _).size), ?_⟩
    have := h.size
    rw [hsz] at this
    omega)
  obtain ⟨R, hRR⟩ : ∃ R, evalS t l = R := ⟨_, rfl⟩
  rw [hRR]
  unfold evalS at hRR
  by_cases hc : chkE t = 0
  · have HV := Lib.hid (fun w1 (hb : Below w.heap.size w w1) => pr_value t.sz t (Nat.le_refl _) hs (ok_chk t 1 0 hc) A c L cl l w1 hl (hR.step hb) (hL.step hb))
    rw [decide_eq_true hc] at hRR
    have X : Hid (R = val l t) := Lib.hid (by rw [← hRR]; rfl)
    have HCE := Lib.hid hc
    clear hRR hc hR hL
    generalize val l t = q at *
    go_enter Try.func23, Try.ntmps23
    go_wp2_with (first
      | (go_at_call 11; (with_reducible refine (HC.out _).mono ?_); rintro e w1 ⟨rfl, hb1⟩; rw [HCE.out]; obtain ⟨⟨q0, q1, q2⟩, hbw, hszr⟩ := HX.out _ hb1; have HBW := Lib.hid hbw; clear hb1 hbw)
      | (go_at_call 39; (with_reducible refine (HV.out w1 HBW.out).mono ?_); rintro e w2 ⟨rfl, hb2⟩; have HB2 := Lib.hid hb2; clear hb2))
    go_ret
    exact ⟨by rw [X.out]; rfl, bt HBW.out HB2.out⟩
  · rw [decide_eq_false hc] at hRR
    have X : Hid (R = false) := Lib.hid (by rw [← hRR]; rfl)
    have hc1 : (chkE t == 0) = false := by simp [hc]
    clear hRR hR hL
    go_enter Try.func23, Try.ntmps23
    go_wp2_with (go_at_call 11; (with_reducible refine (HC.out _).mono ?_); rintro e w1 ⟨rfl, hb1⟩; have HB1 := Lib.hid hb1; clear hb1)
    go_ret
    exact ⟨by rw [X.out]; rfl, bt (HB.out _) HB1.out⟩
end Go.Proofs.Ytakhdlidikbnjaa
