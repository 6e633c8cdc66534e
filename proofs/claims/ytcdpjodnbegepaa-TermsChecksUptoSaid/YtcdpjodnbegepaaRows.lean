/-
  NARROWER THAN 'FOR EVERY INPUT', by the rows' own cells (each row's printed sentence says how): TermsChecks: loops · TermsTypes: loops · TermsEvals: loops · TermsPuts: loops · TermsWithin: loops.
  DERIVED. THE GIVEN ROWS OF THIS SEAT. 6 by the template 'for every input the law returns true; each argument reads behind the call as it read before'; 0 by the template 'total and deterministic' (their statements: YtcdpjodnbegepaaTotals.lean).
  GIVEN WITH THE SEED: the statements are not yours to turn. If you find one false, say at which input.
  Laid BY PROGRAM, IN A SANDBOX (cutbox-rows.mjs): the forced cells as the released guide's own fill.sh prints them over the translation 3ec1411c81b2616c… (all of the seat's roots in one cut). By AI agents, Wed Nov 11 2026. No macro, syntax, notation, axiom, sorry.
-/
import Derived.Test.YtcdpjodnbegepaaChecked
import GoSem.Claim
import GoSem.ClaimJoined
import GoSem.ClaimMapViews
import Derived.JoinedTies
import Derived.KernelRfl
namespace Go.Proofs.Ytcdpjodnbegepaa
/- THE CELL 'sum', in the pinned program and in every row, IS THE sha256 OF THE DUMP (.gsa) THAT YtcdpjodnbegepaaProg.lean LOADS. Nothing in Lean hashes anything: it is a label: what it is worth is what the hold of that sum in a sandbox is worth. -/
noncomputable def Try.pinned : Pinned := { name := "ytcdpjodnbegepaa", sum := "3ec1411c81b2616c30ed82a17a407eca5f8df06747f3b0de056ce22c9a9ff819", checked := Try.checked }
namespace Rows
def none {H : Type} : Left H := { results := [], args := [] }

/-- 'voussoirlaw30.TermsChecks': WHATEVER THE INPUT: true; the input reads as it did. -/
def termsChecksSpec : ChangeSpec := { name := "termsChecks", fn := fun _ => fun
  | [d] => { results := [.lit (.bool true)], args := [d] }
  | _ => none }
def termsChecksRow : OpenClaim := { program := "ytcdpjodnbegepaa", sum := "3ec1411c81b2616c30ed82a17a407eca5f8df06747f3b0de056ce22c9a9ff819", func := "voussoir/voussoirlaw30.TermsChecks", spec := "termsChecks", unfollowed := true, recurses := true, loops := true, apart := false }
def TermsChecksSaid : Prop := termsChecksRow.holds Try.pinned (OpenSpec.ofChange termsChecksSpec)

/-- ITS FALSE NEIGHBOUR: 'it returns false'. Refute it at one input. -/
def termsChecksWrong : ChangeSpec := { name := "termsChecks", fn := fun _ => fun
  | [d] => { results := [.lit (.bool false)], args := [d] }
  | _ => none }
def TermsChecksWrongFalsely : Prop := termsChecksRow.holds Try.pinned (OpenSpec.ofChange termsChecksWrong)

/-- 'voussoirlaw30.TermsTypes': WHATEVER THE INPUT: true; the input reads as it did. -/
def termsTypesSpec : ChangeSpec := { name := "termsTypes", fn := fun _ => fun
  | [d1, d2, d3] => { results := [.lit (.bool true)], args := [d1, d2, d3] }
  | _ => none }
def termsTypesRow : OpenClaim := { program := "ytcdpjodnbegepaa", sum := "3ec1411c81b2616c30ed82a17a407eca5f8df06747f3b0de056ce22c9a9ff819", func := "voussoir/voussoirlaw30.TermsTypes", spec := "termsTypes", unfollowed := true, recurses := true, loops := true, apart := false }
def TermsTypesSaid : Prop := termsTypesRow.holds Try.pinned (OpenSpec.ofChange termsTypesSpec)

/-- ITS FALSE NEIGHBOUR: 'it returns false'. Refute it at one input. -/
def termsTypesWrong : ChangeSpec := { name := "termsTypes", fn := fun _ => fun
  | [d1, d2, d3] => { results := [.lit (.bool false)], args := [d1, d2, d3] }
  | _ => none }
def TermsTypesWrongFalsely : Prop := termsTypesRow.holds Try.pinned (OpenSpec.ofChange termsTypesWrong)

/-- 'voussoirlaw30.TermsEvals': WHATEVER THE INPUT: true; the input reads as it did. -/
def termsEvalsSpec : ChangeSpec := { name := "termsEvals", fn := fun _ => fun
  | [d1, d2, d3, d4] => { results := [.lit (.bool true)], args := [d1, d2, d3, d4] }
  | _ => none }
def termsEvalsRow : OpenClaim := { program := "ytcdpjodnbegepaa", sum := "3ec1411c81b2616c30ed82a17a407eca5f8df06747f3b0de056ce22c9a9ff819", func := "voussoir/voussoirlaw30.TermsEvals", spec := "termsEvals", unfollowed := true, recurses := true, loops := true, apart := false }
def TermsEvalsSaid : Prop := termsEvalsRow.holds Try.pinned (OpenSpec.ofChange termsEvalsSpec)

/-- ITS FALSE NEIGHBOUR: 'it returns false'. Refute it at one input. -/
def termsEvalsWrong : ChangeSpec := { name := "termsEvals", fn := fun _ => fun
  | [d1, d2, d3, d4] => { results := [.lit (.bool false)], args := [d1, d2, d3, d4] }
  | _ => none }
def TermsEvalsWrongFalsely : Prop := termsEvalsRow.holds Try.pinned (OpenSpec.ofChange termsEvalsWrong)

/-- 'voussoirlaw30.TermsPuts': WHATEVER THE INPUT: true; the input reads as it did. -/
def termsPutsSpec : ChangeSpec := { name := "termsPuts", fn := fun _ => fun
  | [d1, d2, d3] => { results := [.lit (.bool true)], args := [d1, d2, d3] }
  | _ => none }
def termsPutsRow : OpenClaim := { program := "ytcdpjodnbegepaa", sum := "3ec1411c81b2616c30ed82a17a407eca5f8df06747f3b0de056ce22c9a9ff819", func := "voussoir/voussoirlaw30.TermsPuts", spec := "termsPuts", unfollowed := true, recurses := true, loops := true, apart := false }
def TermsPutsSaid : Prop := termsPutsRow.holds Try.pinned (OpenSpec.ofChange termsPutsSpec)

/-- ITS FALSE NEIGHBOUR: 'it returns false'. Refute it at one input. -/
def termsPutsWrong : ChangeSpec := { name := "termsPuts", fn := fun _ => fun
  | [d1, d2, d3] => { results := [.lit (.bool false)], args := [d1, d2, d3] }
  | _ => none }
def TermsPutsWrongFalsely : Prop := termsPutsRow.holds Try.pinned (OpenSpec.ofChange termsPutsWrong)

/-- 'voussoirlaw30.TermsBounds': WHATEVER THE INPUT: true; the input reads as it did. -/
def termsBoundsSpec : ChangeSpec := { name := "termsBounds", fn := fun _ => fun
  | [d1, d2, d3] => { results := [.lit (.bool true)], args := [d1, d2, d3] }
  | _ => none }
def termsBoundsRow : OpenClaim := { program := "ytcdpjodnbegepaa", sum := "3ec1411c81b2616c30ed82a17a407eca5f8df06747f3b0de056ce22c9a9ff819", func := "voussoir/voussoirlaw30.TermsBounds", spec := "termsBounds", unfollowed := true, recurses := true, apart := false }
def TermsBoundsSaid : Prop := termsBoundsRow.holds Try.pinned (OpenSpec.ofChange termsBoundsSpec)

/-- ITS FALSE NEIGHBOUR: 'it returns false'. Refute it at one input. -/
def termsBoundsWrong : ChangeSpec := { name := "termsBounds", fn := fun _ => fun
  | [d1, d2, d3] => { results := [.lit (.bool false)], args := [d1, d2, d3] }
  | _ => none }
def TermsBoundsWrongFalsely : Prop := termsBoundsRow.holds Try.pinned (OpenSpec.ofChange termsBoundsWrong)

/-- 'voussoirlaw30.TermsWithin': WHATEVER THE INPUT: true; the input reads as it did. -/
def termsWithinSpec : ChangeSpec := { name := "termsWithin", fn := fun _ => fun
  | [d1, d2, d3, d4, d5] => { results := [.lit (.bool true)], args := [d1, d2, d3, d4, d5] }
  | _ => none }
def termsWithinRow : OpenClaim := { program := "ytcdpjodnbegepaa", sum := "3ec1411c81b2616c30ed82a17a407eca5f8df06747f3b0de056ce22c9a9ff819", func := "voussoir/voussoirlaw30.TermsWithin", spec := "termsWithin", unfollowed := true, recurses := true, loops := true, apart := false }
def TermsWithinSaid : Prop := termsWithinRow.holds Try.pinned (OpenSpec.ofChange termsWithinSpec)

/-- ITS FALSE NEIGHBOUR: 'it returns false'. Refute it at one input. -/
def termsWithinWrong : ChangeSpec := { name := "termsWithin", fn := fun _ => fun
  | [d1, d2, d3, d4, d5] => { results := [.lit (.bool false)], args := [d1, d2, d3, d4, d5] }
  | _ => none }
def TermsWithinWrongFalsely : Prop := termsWithinRow.holds Try.pinned (OpenSpec.ofChange termsWithinWrong)

/- THE SECOND FORM. 'bulk': how many values and letters a reading holds, each counted each time it is reached (what is shared counts as often as it is met; a slice's spare places count too). A statement '..UptoSaid' is the law's where the arguments, and the package variables that the reading takes, are together of bulk at most 1048576: NARROWER than '..Said'. Prove '..Said' where nothing that the law and all that it calls make is longer than what came in: it says more and counts as full. Else prove '..UptoSaid'. A law counts once. -/
mutual
def uptoBulk {H : Type} : DataW H → Nat
  | .lit (.string bytes) => bytes.length + 1
  | .lit _ => 1
  | .nil => 1
  | .ptr d => uptoBulk d + 1
  | .slice elems spare => uptoBulkAll elems + uptoBulkAll spare + 1
  | .agg parts => uptoBulkAll parts + 1
  | .iface _ d => uptoBulk d + 1
  | .map entries => uptoBulkEntries entries + 1
  | .held _ => 1
def uptoBulkAll {H : Type} : List (DataW H) → Nat
  | [] => 0
  | d :: r => uptoBulk d + uptoBulkAll r
def uptoBulkEntries {H : Type} : List (Lit × DataW H) → Nat
  | [] => 0
  | x :: r => uptoBulkEntry x + uptoBulkEntries r
def uptoBulkEntry {H : Type} : Lit × DataW H → Nat
  | (.string bytes, d) => bytes.length + uptoBulk d + 1
  | (_, d) => uptoBulk d + 1
 end
def uptoSmall : (H : Type) → List (DataW H) → Bool := fun _ ds => decide (uptoBulkAll ds ≤ 1048576)
def OpenSpec.upto (s : _root_.Go.ChangeSpec) : _root_.Go.OpenSpec := { _root_.Go.OpenSpec.ofChange s with cond := some uptoSmall }

/-- 'voussoirlaw30.TermsChecks', WHERE WHAT IT READS IS OF BULK AT MOST 1048576: true; the input reads as it did. -/
def termsChecksUptoRow : OpenClaim := { program := "ytcdpjodnbegepaa", sum := "3ec1411c81b2616c30ed82a17a407eca5f8df06747f3b0de056ce22c9a9ff819", func := "voussoir/voussoirlaw30.TermsChecks", spec := "termsChecks", unfollowed := true, recurses := true, loops := true, apart := false, narrowed := true }
def TermsChecksUptoSaid : Prop := termsChecksUptoRow.holds Try.pinned (OpenSpec.upto termsChecksSpec)

/-- 'voussoirlaw30.TermsTypes', WHERE WHAT IT READS IS OF BULK AT MOST 1048576: true; the input reads as it did. -/
def termsTypesUptoRow : OpenClaim := { program := "ytcdpjodnbegepaa", sum := "3ec1411c81b2616c30ed82a17a407eca5f8df06747f3b0de056ce22c9a9ff819", func := "voussoir/voussoirlaw30.TermsTypes", spec := "termsTypes", unfollowed := true, recurses := true, loops := true, apart := false, narrowed := true }
def TermsTypesUptoSaid : Prop := termsTypesUptoRow.holds Try.pinned (OpenSpec.upto termsTypesSpec)

/-- 'voussoirlaw30.TermsEvals', WHERE WHAT IT READS IS OF BULK AT MOST 1048576: true; the input reads as it did. -/
def termsEvalsUptoRow : OpenClaim := { program := "ytcdpjodnbegepaa", sum := "3ec1411c81b2616c30ed82a17a407eca5f8df06747f3b0de056ce22c9a9ff819", func := "voussoir/voussoirlaw30.TermsEvals", spec := "termsEvals", unfollowed := true, recurses := true, loops := true, apart := false, narrowed := true }
def TermsEvalsUptoSaid : Prop := termsEvalsUptoRow.holds Try.pinned (OpenSpec.upto termsEvalsSpec)

/-- 'voussoirlaw30.TermsPuts', WHERE WHAT IT READS IS OF BULK AT MOST 1048576: true; the input reads as it did. -/
def termsPutsUptoRow : OpenClaim := { program := "ytcdpjodnbegepaa", sum := "3ec1411c81b2616c30ed82a17a407eca5f8df06747f3b0de056ce22c9a9ff819", func := "voussoir/voussoirlaw30.TermsPuts", spec := "termsPuts", unfollowed := true, recurses := true, loops := true, apart := false, narrowed := true }
def TermsPutsUptoSaid : Prop := termsPutsUptoRow.holds Try.pinned (OpenSpec.upto termsPutsSpec)

/-- 'voussoirlaw30.TermsBounds', WHERE WHAT IT READS IS OF BULK AT MOST 1048576: true; the input reads as it did. -/
def termsBoundsUptoRow : OpenClaim := { program := "ytcdpjodnbegepaa", sum := "3ec1411c81b2616c30ed82a17a407eca5f8df06747f3b0de056ce22c9a9ff819", func := "voussoir/voussoirlaw30.TermsBounds", spec := "termsBounds", unfollowed := true, recurses := true, apart := false, narrowed := true }
def TermsBoundsUptoSaid : Prop := termsBoundsUptoRow.holds Try.pinned (OpenSpec.upto termsBoundsSpec)

/-- 'voussoirlaw30.TermsWithin', WHERE WHAT IT READS IS OF BULK AT MOST 1048576: true; the input reads as it did. -/
def termsWithinUptoRow : OpenClaim := { program := "ytcdpjodnbegepaa", sum := "3ec1411c81b2616c30ed82a17a407eca5f8df06747f3b0de056ce22c9a9ff819", func := "voussoir/voussoirlaw30.TermsWithin", spec := "termsWithin", unfollowed := true, recurses := true, loops := true, apart := false, narrowed := true }
def TermsWithinUptoSaid : Prop := termsWithinUptoRow.holds Try.pinned (OpenSpec.upto termsWithinSpec)

end Rows
end Go.Proofs.Ytcdpjodnbegepaa
