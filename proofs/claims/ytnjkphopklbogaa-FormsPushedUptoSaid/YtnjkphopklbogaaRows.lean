/-
  NARROWER THAN 'FOR EVERY INPUT', by the rows' own cells (each row's printed sentence says how): FormsTells: loops · FormsDeep: loops · FormsPushes: loops · FormsPushed: loops.
  DERIVED. THE GIVEN ROWS OF THIS SEAT. 4 by the template 'for every input the law returns true; each argument reads behind the call as it read before'; 0 by the template 'total and deterministic' (their statements: YtnjkphopklbogaaTotals.lean).
  GIVEN WITH THE SEED: the statements are not yours to turn. If you find one false, say at which input.
  Laid BY PROGRAM, IN A SANDBOX (cutbox-rows.mjs): the forced cells as the released guide's own fill.sh prints them over the translation 39fe19fa7e2ae2cd… (all of the seat's roots in one cut). By AI agents, Wed Nov 11 2026. No macro, syntax, notation, axiom, sorry.
-/
import Derived.Test.YtnjkphopklbogaaChecked
import GoSem.Claim
import GoSem.ClaimJoined
import GoSem.ClaimMapViews
import Derived.JoinedTies
import Derived.KernelRfl
namespace Go.Proofs.Ytnjkphopklbogaa
/- THE CELL 'sum', in the pinned program and in every row, IS THE sha256 OF THE DUMP (.gsa) THAT YtnjkphopklbogaaProg.lean LOADS. Nothing in Lean hashes anything: it is a label: what it is worth is what the hold of that sum in a sandbox is worth. -/
noncomputable def Try.pinned : Pinned := { name := "ytnjkphopklbogaa", sum := "39fe19fa7e2ae2cd9993b6ccd77d81bfc6c2bcd90d0ab6fe5cccca96a9195ecb", checked := Try.checked }
namespace Rows
def none {H : Type} : Left H := { results := [], args := [] }

/-- 'voussoirlaw32.FormsTells': WHATEVER THE INPUT: true; the input reads as it did. -/
def formsTellsSpec : ChangeSpec := { name := "formsTells", fn := fun _ => fun
  | [d] => { results := [.lit (.bool true)], args := [d] }
  | _ => none }
def formsTellsRow : OpenClaim := { program := "ytnjkphopklbogaa", sum := "39fe19fa7e2ae2cd9993b6ccd77d81bfc6c2bcd90d0ab6fe5cccca96a9195ecb", func := "voussoir/voussoirlaw32.FormsTells", spec := "formsTells", unfollowed := true, recurses := true, loops := true, apart := false }
def FormsTellsSaid : Prop := formsTellsRow.holds Try.pinned (OpenSpec.ofChange formsTellsSpec)

/-- ITS FALSE NEIGHBOUR: 'it returns false'. Refute it at one input. -/
def formsTellsWrong : ChangeSpec := { name := "formsTells", fn := fun _ => fun
  | [d] => { results := [.lit (.bool false)], args := [d] }
  | _ => none }
def FormsTellsWrongFalsely : Prop := formsTellsRow.holds Try.pinned (OpenSpec.ofChange formsTellsWrong)

/-- 'voussoirlaw32.FormsDeep': WHATEVER THE INPUT: true; the input reads as it did. -/
def formsDeepSpec : ChangeSpec := { name := "formsDeep", fn := fun _ => fun
  | [d1, d2, d3] => { results := [.lit (.bool true)], args := [d1, d2, d3] }
  | _ => none }
def formsDeepRow : OpenClaim := { program := "ytnjkphopklbogaa", sum := "39fe19fa7e2ae2cd9993b6ccd77d81bfc6c2bcd90d0ab6fe5cccca96a9195ecb", func := "voussoir/voussoirlaw32.FormsDeep", spec := "formsDeep", unfollowed := true, recurses := true, loops := true, apart := false }
def FormsDeepSaid : Prop := formsDeepRow.holds Try.pinned (OpenSpec.ofChange formsDeepSpec)

/-- ITS FALSE NEIGHBOUR: 'it returns false'. Refute it at one input. -/
def formsDeepWrong : ChangeSpec := { name := "formsDeep", fn := fun _ => fun
  | [d1, d2, d3] => { results := [.lit (.bool false)], args := [d1, d2, d3] }
  | _ => none }
def FormsDeepWrongFalsely : Prop := formsDeepRow.holds Try.pinned (OpenSpec.ofChange formsDeepWrong)

/-- 'voussoirlaw32.FormsPushes': WHATEVER THE INPUT: true; the input reads as it did. -/
def formsPushesSpec : ChangeSpec := { name := "formsPushes", fn := fun _ => fun
  | [d1, d2, d3] => { results := [.lit (.bool true)], args := [d1, d2, d3] }
  | _ => none }
def formsPushesRow : OpenClaim := { program := "ytnjkphopklbogaa", sum := "39fe19fa7e2ae2cd9993b6ccd77d81bfc6c2bcd90d0ab6fe5cccca96a9195ecb", func := "voussoir/voussoirlaw32.FormsPushes", spec := "formsPushes", unfollowed := true, recurses := true, loops := true, apart := false }
def FormsPushesSaid : Prop := formsPushesRow.holds Try.pinned (OpenSpec.ofChange formsPushesSpec)

/-- ITS FALSE NEIGHBOUR: 'it returns false'. Refute it at one input. -/
def formsPushesWrong : ChangeSpec := { name := "formsPushes", fn := fun _ => fun
  | [d1, d2, d3] => { results := [.lit (.bool false)], args := [d1, d2, d3] }
  | _ => none }
def FormsPushesWrongFalsely : Prop := formsPushesRow.holds Try.pinned (OpenSpec.ofChange formsPushesWrong)

/-- 'voussoirlaw32.FormsPushed': WHATEVER THE INPUT: true; the input reads as it did. -/
def formsPushedSpec : ChangeSpec := { name := "formsPushed", fn := fun _ => fun
  | [d1, d2] => { results := [.lit (.bool true)], args := [d1, d2] }
  | _ => none }
def formsPushedRow : OpenClaim := { program := "ytnjkphopklbogaa", sum := "39fe19fa7e2ae2cd9993b6ccd77d81bfc6c2bcd90d0ab6fe5cccca96a9195ecb", func := "voussoir/voussoirlaw32.FormsPushed", spec := "formsPushed", unfollowed := true, recurses := true, loops := true, apart := false }
def FormsPushedSaid : Prop := formsPushedRow.holds Try.pinned (OpenSpec.ofChange formsPushedSpec)

/-- ITS FALSE NEIGHBOUR: 'it returns false'. Refute it at one input. -/
def formsPushedWrong : ChangeSpec := { name := "formsPushed", fn := fun _ => fun
  | [d1, d2] => { results := [.lit (.bool false)], args := [d1, d2] }
  | _ => none }
def FormsPushedWrongFalsely : Prop := formsPushedRow.holds Try.pinned (OpenSpec.ofChange formsPushedWrong)

/- THE SECOND FORM. 'bulk': how many values and letters a reading holds, each counted each time it is reached (what is shared counts as often as it is met; a slice's spare places count too). A statement '..UptoSaid' is the law's where the arguments, and the package variables that the reading takes, are together of bulk at most 1048576: NARROWER than '..Said'. Prove '..Said' where nothing that the law and all that it calls make is longer than what came in: it says more and counts as full. Else prove '..UptoSaid'. A law counts once. -/
mutual
def uptoBulk {H : Type} : DataW H → Nat
  | .lit (.string bytes) => bytes.length + 1
  | .lit _ => 1
  | .nil => 1
  | .ptr d => uptoBulk d + 1
  | .slice elems spare => uptoBulkAll elems + uptoBulkAll spare + 1
  | .agg parts => uptoBulkAll parts + 1
  | .iface _ d => uptoBulk d + 1
  | .map entries => uptoBulkEntries entries + 1
  | .held _ => 1
def uptoBulkAll {H : Type} : List (DataW H) → Nat
  | [] => 0
  | d :: r => uptoBulk d + uptoBulkAll r
def uptoBulkEntries {H : Type} : List (Lit × DataW H) → Nat
  | [] => 0
  | x :: r => uptoBulkEntry x + uptoBulkEntries r
def uptoBulkEntry {H : Type} : Lit × DataW H → Nat
  | (.string bytes, d) => bytes.length + uptoBulk d + 1
  | (_, d) => uptoBulk d + 1
 end
def uptoSmall : (H : Type) → List (DataW H) → Bool := fun _ ds => decide (uptoBulkAll ds ≤ 1048576)
def OpenSpec.upto (s : _root_.Go.ChangeSpec) : _root_.Go.OpenSpec := { _root_.Go.OpenSpec.ofChange s with cond := some uptoSmall }

/-- 'voussoirlaw32.FormsTells', WHERE WHAT IT READS IS OF BULK AT MOST 1048576: true; the input reads as it did. -/
def formsTellsUptoRow : OpenClaim := { program := "ytnjkphopklbogaa", sum := "39fe19fa7e2ae2cd9993b6ccd77d81bfc6c2bcd90d0ab6fe5cccca96a9195ecb", func := "voussoir/voussoirlaw32.FormsTells", spec := "formsTells", unfollowed := true, recurses := true, loops := true, apart := false, narrowed := true }
def FormsTellsUptoSaid : Prop := formsTellsUptoRow.holds Try.pinned (OpenSpec.upto formsTellsSpec)

/-- 'voussoirlaw32.FormsDeep', WHERE WHAT IT READS IS OF BULK AT MOST 1048576: true; the input reads as it did. -/
def formsDeepUptoRow : OpenClaim := { program := "ytnjkphopklbogaa", sum := "39fe19fa7e2ae2cd9993b6ccd77d81bfc6c2bcd90d0ab6fe5cccca96a9195ecb", func := "voussoir/voussoirlaw32.FormsDeep", spec := "formsDeep", unfollowed := true, recurses := true, loops := true, apart := false, narrowed := true }
def FormsDeepUptoSaid : Prop := formsDeepUptoRow.holds Try.pinned (OpenSpec.upto formsDeepSpec)

/-- 'voussoirlaw32.FormsPushes', WHERE WHAT IT READS IS OF BULK AT MOST 1048576: true; the input reads as it did. -/
def formsPushesUptoRow : OpenClaim := { program := "ytnjkphopklbogaa", sum := "39fe19fa7e2ae2cd9993b6ccd77d81bfc6c2bcd90d0ab6fe5cccca96a9195ecb", func := "voussoir/voussoirlaw32.FormsPushes", spec := "formsPushes", unfollowed := true, recurses := true, loops := true, apart := false, narrowed := true }
def FormsPushesUptoSaid : Prop := formsPushesUptoRow.holds Try.pinned (OpenSpec.upto formsPushesSpec)

/-- 'voussoirlaw32.FormsPushed', WHERE WHAT IT READS IS OF BULK AT MOST 1048576: true; the input reads as it did. -/
def formsPushedUptoRow : OpenClaim := { program := "ytnjkphopklbogaa", sum := "39fe19fa7e2ae2cd9993b6ccd77d81bfc6c2bcd90d0ab6fe5cccca96a9195ecb", func := "voussoir/voussoirlaw32.FormsPushed", spec := "formsPushed", unfollowed := true, recurses := true, loops := true, apart := false, narrowed := true }
def FormsPushedUptoSaid : Prop := formsPushedUptoRow.holds Try.pinned (OpenSpec.upto formsPushedSpec)

end Rows
end Go.Proofs.Ytnjkphopklbogaa
