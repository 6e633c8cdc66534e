/-
  NARROWER THAN 'FOR EVERY INPUT', by the rows' own cells (each row's printed sentence says how): PropChecks: loops · PropMakes: loops · PropFollows: loops.
  DERIVED. THE GIVEN ROWS OF THIS SEAT. 4 by the template 'for every input the law returns true; each argument reads behind the call as it read before'; 0 by the template 'total and deterministic' (their statements: YtakhdlidikbnjaaTotals.lean).
  GIVEN WITH THE SEED: the statements are not yours to turn. If you find one false, say at which input.
  Laid BY PROGRAM, IN A SANDBOX (cutbox-rows.mjs): the forced cells as the released guide's own fill.sh prints them over the translation b02409777345e7fa… (all of the seat's roots in one cut). By AI agents, Wed Nov 11 2026. No macro, syntax, notation, axiom, sorry.
-/
import Derived.Test.YtakhdlidikbnjaaChecked
import GoSem.Claim
import GoSem.ClaimJoined
import GoSem.ClaimMapViews
import Derived.JoinedTies
import Derived.KernelRfl
namespace Go.Proofs.Ytakhdlidikbnjaa
/- THE CELL 'sum', in the pinned program and in every row, IS THE sha256 OF THE DUMP (.gsa) THAT YtakhdlidikbnjaaProg.lean LOADS. Nothing in Lean hashes anything: it is a label: what it is worth is what the hold of that sum in a sandbox is worth. -/
noncomputable def Try.pinned : Pinned := { name := "ytakhdlidikbnjaa", sum := "b02409777345e7fa75ffa30f9b64b1d789ab76fb0fd92b7a8a0d3371f4497b09", checked := Try.checked }
namespace Rows
def none {H : Type} : Left H := { results := [], args := [] }

/-- 'voussoirlaw06.PropChecks': WHATEVER THE INPUT: true; the input reads as it did. -/
def propChecksSpec : ChangeSpec := { name := "propChecks", fn := fun _ => fun
  | [d] => { results := [.lit (.bool true)], args := [d] }
  | _ => none }
def propChecksRow : OpenClaim := { program := "ytakhdlidikbnjaa", sum := "b02409777345e7fa75ffa30f9b64b1d789ab76fb0fd92b7a8a0d3371f4497b09", func := "voussoir/voussoirlaw06.PropChecks", spec := "propChecks", unfollowed := true, recurses := true, loops := true, apart := false }
def PropChecksSaid : Prop := propChecksRow.holds Try.pinned (OpenSpec.ofChange propChecksSpec)

/-- ITS FALSE NEIGHBOUR: 'it returns false'. Refute it at one input. -/
def propChecksWrong : ChangeSpec := { name := "propChecks", fn := fun _ => fun
  | [d] => { results := [.lit (.bool false)], args := [d] }
  | _ => none }
def PropChecksWrongFalsely : Prop := propChecksRow.holds Try.pinned (OpenSpec.ofChange propChecksWrong)

/-- 'voussoirlaw06.PropBounds': WHATEVER THE INPUT: true; the input reads as it did. -/
def propBoundsSpec : ChangeSpec := { name := "propBounds", fn := fun _ => fun
  | [d1, d2, d3] => { results := [.lit (.bool true)], args := [d1, d2, d3] }
  | _ => none }
def propBoundsRow : OpenClaim := { program := "ytakhdlidikbnjaa", sum := "b02409777345e7fa75ffa30f9b64b1d789ab76fb0fd92b7a8a0d3371f4497b09", func := "voussoir/voussoirlaw06.PropBounds", spec := "propBounds", unfollowed := true, recurses := true, apart := false }
def PropBoundsSaid : Prop := propBoundsRow.holds Try.pinned (OpenSpec.ofChange propBoundsSpec)

/-- ITS FALSE NEIGHBOUR: 'it returns false'. Refute it at one input. -/
def propBoundsWrong : ChangeSpec := { name := "propBounds", fn := fun _ => fun
  | [d1, d2, d3] => { results := [.lit (.bool false)], args := [d1, d2, d3] }
  | _ => none }
def PropBoundsWrongFalsely : Prop := propBoundsRow.holds Try.pinned (OpenSpec.ofChange propBoundsWrong)

/-- 'voussoirlaw06.PropMakes': WHATEVER THE INPUT: true; the input reads as it did. -/
def propMakesSpec : ChangeSpec := { name := "propMakes", fn := fun _ => fun
  | [d1, d2, d3] => { results := [.lit (.bool true)], args := [d1, d2, d3] }
  | _ => none }
def propMakesRow : OpenClaim := { program := "ytakhdlidikbnjaa", sum := "b02409777345e7fa75ffa30f9b64b1d789ab76fb0fd92b7a8a0d3371f4497b09", func := "voussoir/voussoirlaw06.PropMakes", spec := "propMakes", unfollowed := true, recurses := true, loops := true, apart := false }
def PropMakesSaid : Prop := propMakesRow.holds Try.pinned (OpenSpec.ofChange propMakesSpec)

/-- ITS FALSE NEIGHBOUR: 'it returns false'. Refute it at one input. -/
def propMakesWrong : ChangeSpec := { name := "propMakes", fn := fun _ => fun
  | [d1, d2, d3] => { results := [.lit (.bool false)], args := [d1, d2, d3] }
  | _ => none }
def PropMakesWrongFalsely : Prop := propMakesRow.holds Try.pinned (OpenSpec.ofChange propMakesWrong)

/-- 'voussoirlaw06.PropFollows': WHATEVER THE INPUT: true; the input reads as it did. -/
def propFollowsSpec : ChangeSpec := { name := "propFollows", fn := fun _ => fun
  | [d1, d2, d3, d4] => { results := [.lit (.bool true)], args := [d1, d2, d3, d4] }
  | _ => none }
def propFollowsRow : OpenClaim := { program := "ytakhdlidikbnjaa", sum := "b02409777345e7fa75ffa30f9b64b1d789ab76fb0fd92b7a8a0d3371f4497b09", func := "voussoir/voussoirlaw06.PropFollows", spec := "propFollows", unfollowed := true, recurses := true, loops := true, apart := false }
def PropFollowsSaid : Prop := propFollowsRow.holds Try.pinned (OpenSpec.ofChange propFollowsSpec)

/-- ITS FALSE NEIGHBOUR: 'it returns false'. Refute it at one input. -/
def propFollowsWrong : ChangeSpec := { name := "propFollows", fn := fun _ => fun
  | [d1, d2, d3, d4] => { results := [.lit (.bool false)], args := [d1, d2, d3, d4] }
  | _ => none }
def PropFollowsWrongFalsely : Prop := propFollowsRow.holds Try.pinned (OpenSpec.ofChange propFollowsWrong)

/- THE SECOND FORM. 'bulk': how many values and letters a reading holds, each counted each time it is reached (what is shared counts as often as it is met; a slice's spare places count too). A statement '..UptoSaid' is the law's where the arguments, and the package variables that the reading takes, are together of bulk at most 1048576: NARROWER than '..Said'. Prove '..Said' where nothing that the law and all that it calls make is longer than what came in: it says more and counts as full. Else prove '..UptoSaid'. A law counts once. -/
mutual
def uptoBulk {H : Type} : DataW H → Nat
  | .lit (.string bytes) => bytes.length + 1
  | .lit _ => 1
  | .nil => 1
  | .ptr d => uptoBulk d + 1
  | .slice elems spare => uptoBulkAll elems + uptoBulkAll spare + 1
  | .agg parts => uptoBulkAll parts + 1
  | .iface _ d => uptoBulk d + 1
  | .map entries => uptoBulkEntries entries + 1
  | .held _ => 1
def uptoBulkAll {H : Type} : List (DataW H) → Nat
  | [] => 0
  | d :: r => uptoBulk d + uptoBulkAll r
def uptoBulkEntries {H : Type} : List (Lit × DataW H) → Nat
  | [] => 0
  | x :: r => uptoBulkEntry x + uptoBulkEntries r
def uptoBulkEntry {H : Type} : Lit × DataW H → Nat
  | (.string bytes, d) => bytes.length + uptoBulk d + 1
  | (_, d) => uptoBulk d + 1
 end
def uptoSmall : (H : Type) → List (DataW H) → Bool := fun _ ds => decide (uptoBulkAll ds ≤ 1048576)
def OpenSpec.upto (s : _root_.Go.ChangeSpec) : _root_.Go.OpenSpec := { _root_.Go.OpenSpec.ofChange s with cond := some uptoSmall }

/-- 'voussoirlaw06.PropChecks', WHERE WHAT IT READS IS OF BULK AT MOST 1048576: true; the input reads as it did. -/
def propChecksUptoRow : OpenClaim := { program := "ytakhdlidikbnjaa", sum := "b02409777345e7fa75ffa30f9b64b1d789ab76fb0fd92b7a8a0d3371f4497b09", func := "voussoir/voussoirlaw06.PropChecks", spec := "propChecks", unfollowed := true, recurses := true, loops := true, apart := false, narrowed := true }
def PropChecksUptoSaid : Prop := propChecksUptoRow.holds Try.pinned (OpenSpec.upto propChecksSpec)

/-- 'voussoirlaw06.PropBounds', WHERE WHAT IT READS IS OF BULK AT MOST 1048576: true; the input reads as it did. -/
def propBoundsUptoRow : OpenClaim := { program := "ytakhdlidikbnjaa", sum := "b02409777345e7fa75ffa30f9b64b1d789ab76fb0fd92b7a8a0d3371f4497b09", func := "voussoir/voussoirlaw06.PropBounds", spec := "propBounds", unfollowed := true, recurses := true, apart := false, narrowed := true }
def PropBoundsUptoSaid : Prop := propBoundsUptoRow.holds Try.pinned (OpenSpec.upto propBoundsSpec)

/-- 'voussoirlaw06.PropMakes', WHERE WHAT IT READS IS OF BULK AT MOST 1048576: true; the input reads as it did. -/
def propMakesUptoRow : OpenClaim := { program := "ytakhdlidikbnjaa", sum := "b02409777345e7fa75ffa30f9b64b1d789ab76fb0fd92b7a8a0d3371f4497b09", func := "voussoir/voussoirlaw06.PropMakes", spec := "propMakes", unfollowed := true, recurses := true, loops := true, apart := false, narrowed := true }
def PropMakesUptoSaid : Prop := propMakesUptoRow.holds Try.pinned (OpenSpec.upto propMakesSpec)

/-- 'voussoirlaw06.PropFollows', WHERE WHAT IT READS IS OF BULK AT MOST 1048576: true; the input reads as it did. -/
def propFollowsUptoRow : OpenClaim := { program := "ytakhdlidikbnjaa", sum := "b02409777345e7fa75ffa30f9b64b1d789ab76fb0fd92b7a8a0d3371f4497b09", func := "voussoir/voussoirlaw06.PropFollows", spec := "propFollows", unfollowed := true, recurses := true, loops := true, apart := false, narrowed := true }
def PropFollowsUptoSaid : Prop := propFollowsUptoRow.holds Try.pinned (OpenSpec.upto propFollowsSpec)

end Rows
end Go.Proofs.Ytakhdlidikbnjaa
