/- Parse of layer 7 (ptext): its deferred call. -/
import Derived.Test.YtipapemcedkinaaP8
import Derived.Test.YtipapemcedkinaaFn5
import Derived.Defers
import Derived.Recover
namespace Go.Proofs.Ytipapemcedkinaa
open Go.RowKit Go.PlainAid

set_option maxRecDepth 100000 in
theorem d_idle (p q r : Addr) (w : World) :
    CallsD Try.prog 14 #[.pointer (some p), .pointer (some q), .pointer (some r)] .returning w fun e u' w' => e = .returned (.tuple #[]) ∧ u' = .returning ∧ w' = w := by
  refine callsD_of_wpS Try.func14 rfl fun c₀ cs hu => ?_
  apply wpS_seq
  apply wpS_region
  simp [wpOpsS, go_sem, recoverD, hu, Try.ntmps14, Exit.thenS]
  refine wpS_of_wp ?_
  go_wp2
  cases c₀
  simp_all [bodyPostS, results, Try.results14]
theorem size25' : (Try.prog.info? 25).map (·.size) = some 3 := by kernel_rfl
set_option maxRecDepth 100000 in
set_option maxHeartbeats 2000000 in
theorem d_fault (E0 E1 E2 : Nat) (a : Int) (x0 x1 x2 x3 x4 : Value) (w : World) (h0 : Blk w E0 25 #[x0, x1, x2]) (h1 : Blk w E1 3 #[x3]) (h2 : Blk w E2 26 #[x4]) (n01 : E0 ≠ E1) (n02 : E0 ≠ E2) (n12 : E1 ≠ E2) :
    CallsD Try.prog 14 #[.pointer (some ⟨E0, 0, none⟩), .pointer (some ⟨E1, 0, none⟩), .pointer (some ⟨E2, 0, none⟩)] (.panicking [{ v := .iface 41 (.int .i64 a), recovered := false }]) w fun e u' w' =>
      e = .returned (.tuple #[]) ∧ u' = .panicking [{ v := .iface 41 (.int .i64 a), recovered := true }] ∧ w' = ((((w.setCell ⟨E0, 0, none⟩ (.int .i64 0)).setCell ⟨E0, 1, none⟩ (.int .i64 0)).setCell ⟨E0, 2, none⟩ (.slice none 0 0)).setCell ⟨E1, 0, none⟩ (.int .i64 a)).setCell ⟨E2, 0, none⟩ (.int .i64 3) := by
  have hta : ∀ (v : Value) (w : World), (Instr.typeAssert (.iface 41 v) 20 41 true).run Try.prog w = .ok (.tuple #[v, .bool true]) w := fun v w => by kernel_rfl
  have c0 := h0.cell 0
  have c1 := h0.cell 1
  have c2 := h0.cell 2
  have c3 := h1.cell 0
  have c4 := h2.cell 0
  have f0 := h0.frozen 0
  have f1 := h0.frozen 1
  have f2 := h0.frozen 2
  have f3 := h1.frozen 0
  have f4 := h2.frozen 0
  refine callsD_of_wpS Try.func14 rfl fun c₀ cs hu => ?_
  apply wpS_seq
  apply wpS_region
  simp [wpOpsS, go_sem, recoverD, hu, Try.ntmps14, Exit.thenS]
  refine wpS_of_wp ?_
  go_wp2
  cases c₀
  simp_all [bodyPostS, results, Try.results14]
end Go.Proofs.Ytipapemcedkinaa
