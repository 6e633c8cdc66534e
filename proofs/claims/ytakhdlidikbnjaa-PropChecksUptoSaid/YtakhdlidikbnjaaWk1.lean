/- PropChecks's walk; layer 6 (prop). -/
import Derived.Test.YtakhdlidikbnjaaFnS
namespace Go.Proofs.Ytakhdlidikbnjaa
open Go.RowKit Go.PlainAid
theorem propChecks_walk (t : Ex) (A : Option Addr) (c : Nat) (w : World) (hR : Rep w.heap.size w A t) (hs : t.sz ≤ 1048576) : Calls Try.prog 3 #[exV t A c] w fun e w' => e = .returned (.bool true) ∧ Below w.heap.size w w' :=
  propChecks_by law_lives t A c w (by omega) hR
end Go.Proofs.Ytakhdlidikbnjaa
