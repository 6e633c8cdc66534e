/-
  No cell of these rows narrows 'for every input' (looked for: loops, veiled, ifaces, maps, wideKeys, modest, calm, conditions, laid).
  DERIVED. THE GIVEN ROWS OF THIS SEAT. 3 by the template 'for every input the law returns true; each argument reads behind the call as it read before'; 0 by the template 'total and deterministic' (their statements: YtmpcfplpdbdmmaaTotals.lean).
  GIVEN WITH THE SEED: the statements are not yours to turn. If you find one false, say at which input.
  Laid BY PROGRAM, IN A SANDBOX (cutbox-rows.mjs): the forced cells as the released guide's own fill.sh prints them over the translation b9db750ff7623e34… (all of the seat's roots in one cut). By AI agents, Wed Nov 11 2026. No macro, syntax, notation, axiom, sorry.
-/
import Derived.Test.YtmpcfplpdbdmmaaChecked
import GoSem.Claim
import GoSem.ClaimJoined
import GoSem.ClaimMapViews
import Derived.JoinedTies
import Derived.KernelRfl
namespace Go.Proofs.Ytmpcfplpdbdmmaa
/- THE CELL 'sum', in the pinned program and in every row, IS THE sha256 OF THE DUMP (.gsa) THAT YtmpcfplpdbdmmaaProg.lean LOADS. Nothing in Lean hashes anything: it is a label: what it is worth is what the hold of that sum in a sandbox is worth. -/
noncomputable def Try.pinned : Pinned := { name := "ytmpcfplpdbdmmaa", sum := "b9db750ff7623e3436c92b09d0127db5161a76cc3283909d455f8786dc93d074", checked := Try.checked }
namespace Rows
def none {H : Type} : Left H := { results := [], args := [] }

/-- 'voussoirlaw25.DdauditFinds': WHATEVER THE INPUT: true; the input reads as it did. -/
def ddauditFindsSpec : ChangeSpec := { name := "ddauditFinds", fn := fun _ => fun
  | [d1, d2] => { results := [.lit (.bool true)], args := [d1, d2] }
  | _ => none }
def ddauditFindsRow : OpenClaim := { program := "ytmpcfplpdbdmmaa", sum := "b9db750ff7623e3436c92b09d0127db5161a76cc3283909d455f8786dc93d074", func := "voussoir/voussoirlaw25.DdauditFinds", spec := "ddauditFinds", plainKeys := false, apart := false }
def DdauditFindsSaid : Prop := ddauditFindsRow.holds Try.pinned (OpenSpec.ofChange ddauditFindsSpec)

/-- ITS FALSE NEIGHBOUR: 'it returns false'. Refute it at one input. -/
def ddauditFindsWrong : ChangeSpec := { name := "ddauditFinds", fn := fun _ => fun
  | [d1, d2] => { results := [.lit (.bool false)], args := [d1, d2] }
  | _ => none }
def DdauditFindsWrongFalsely : Prop := ddauditFindsRow.holds Try.pinned (OpenSpec.ofChange ddauditFindsWrong)

/-- 'voussoirlaw25.DdauditDead': WHATEVER THE INPUT: true; the input reads as it did. -/
def ddauditDeadSpec : ChangeSpec := { name := "ddauditDead", fn := fun _ => fun
  | [d] => { results := [.lit (.bool true)], args := [d] }
  | _ => none }
def ddauditDeadRow : OpenClaim := { program := "ytmpcfplpdbdmmaa", sum := "b9db750ff7623e3436c92b09d0127db5161a76cc3283909d455f8786dc93d074", func := "voussoir/voussoirlaw25.DdauditDead", spec := "ddauditDead", unfollowed := true, recurses := true, plainKeys := false, apart := false }
def DdauditDeadSaid : Prop := ddauditDeadRow.holds Try.pinned (OpenSpec.ofChange ddauditDeadSpec)

/-- ITS FALSE NEIGHBOUR: 'it returns false'. Refute it at one input. -/
def ddauditDeadWrong : ChangeSpec := { name := "ddauditDead", fn := fun _ => fun
  | [d] => { results := [.lit (.bool false)], args := [d] }
  | _ => none }
def DdauditDeadWrongFalsely : Prop := ddauditDeadRow.holds Try.pinned (OpenSpec.ofChange ddauditDeadWrong)

/-- 'voussoirlaw25.DdauditBroken': WHATEVER THE INPUT: true; the input reads as it did. -/
def ddauditBrokenSpec : ChangeSpec := { name := "ddauditBroken", fn := fun _ => fun
  | [d1, d2, d3] => { results := [.lit (.bool true)], args := [d1, d2, d3] }
  | _ => none }
def ddauditBrokenRow : OpenClaim := { program := "ytmpcfplpdbdmmaa", sum := "b9db750ff7623e3436c92b09d0127db5161a76cc3283909d455f8786dc93d074", func := "voussoir/voussoirlaw25.DdauditBroken", spec := "ddauditBroken", plainKeys := false, apart := false }
def DdauditBrokenSaid : Prop := ddauditBrokenRow.holds Try.pinned (OpenSpec.ofChange ddauditBrokenSpec)

/-- ITS FALSE NEIGHBOUR: 'it returns false'. Refute it at one input. -/
def ddauditBrokenWrong : ChangeSpec := { name := "ddauditBroken", fn := fun _ => fun
  | [d1, d2, d3] => { results := [.lit (.bool false)], args := [d1, d2, d3] }
  | _ => none }
def DdauditBrokenWrongFalsely : Prop := ddauditBrokenRow.holds Try.pinned (OpenSpec.ofChange ddauditBrokenWrong)

/- THE SECOND FORM. 'bulk': how many values and letters a reading holds, each counted each time it is reached (what is shared counts as often as it is met; a slice's spare places count too). A statement '..UptoSaid' is the law's where the arguments, and the package variables that the reading takes, are together of bulk at most 1048576: NARROWER than '..Said'. Prove '..Said' where nothing that the law and all that it calls make is longer than what came in: it says more and counts as full. Else prove '..UptoSaid'. A law counts once. -/
mutual
def uptoBulk {H : Type} : DataW H → Nat
  | .lit (.string bytes) => bytes.length + 1
  | .lit _ => 1
  | .nil => 1
  | .ptr d => uptoBulk d + 1
  | .slice elems spare => uptoBulkAll elems + uptoBulkAll spare + 1
  | .agg parts => uptoBulkAll parts + 1
  | .iface _ d => uptoBulk d + 1
  | .map entries => uptoBulkEntries entries + 1
  | .held _ => 1
def uptoBulkAll {H : Type} : List (DataW H) → Nat
  | [] => 0
  | d :: r => uptoBulk d + uptoBulkAll r
def uptoBulkEntries {H : Type} : List (Lit × DataW H) → Nat
  | [] => 0
  | x :: r => uptoBulkEntry x + uptoBulkEntries r
def uptoBulkEntry {H : Type} : Lit × DataW H → Nat
  | (.string bytes, d) => bytes.length + uptoBulk d + 1
  | (_, d) => uptoBulk d + 1
 end
def uptoSmall : (H : Type) → List (DataW H) → Bool := fun _ ds => decide (uptoBulkAll ds ≤ 1048576)
def OpenSpec.upto (s : _root_.Go.ChangeSpec) : _root_.Go.OpenSpec := { _root_.Go.OpenSpec.ofChange s with cond := some uptoSmall }

/-- 'voussoirlaw25.DdauditFinds', WHERE WHAT IT READS IS OF BULK AT MOST 1048576: true; the input reads as it did. -/
def ddauditFindsUptoRow : OpenClaim := { program := "ytmpcfplpdbdmmaa", sum := "b9db750ff7623e3436c92b09d0127db5161a76cc3283909d455f8786dc93d074", func := "voussoir/voussoirlaw25.DdauditFinds", spec := "ddauditFinds", plainKeys := false, apart := false, narrowed := true }
def DdauditFindsUptoSaid : Prop := ddauditFindsUptoRow.holds Try.pinned (OpenSpec.upto ddauditFindsSpec)

/-- 'voussoirlaw25.DdauditDead', WHERE WHAT IT READS IS OF BULK AT MOST 1048576: true; the input reads as it did. -/
def ddauditDeadUptoRow : OpenClaim := { program := "ytmpcfplpdbdmmaa", sum := "b9db750ff7623e3436c92b09d0127db5161a76cc3283909d455f8786dc93d074", func := "voussoir/voussoirlaw25.DdauditDead", spec := "ddauditDead", unfollowed := true, recurses := true, plainKeys := false, apart := false, narrowed := true }
def DdauditDeadUptoSaid : Prop := ddauditDeadUptoRow.holds Try.pinned (OpenSpec.upto ddauditDeadSpec)

/-- 'voussoirlaw25.DdauditBroken', WHERE WHAT IT READS IS OF BULK AT MOST 1048576: true; the input reads as it did. -/
def ddauditBrokenUptoRow : OpenClaim := { program := "ytmpcfplpdbdmmaa", sum := "b9db750ff7623e3436c92b09d0127db5161a76cc3283909d455f8786dc93d074", func := "voussoir/voussoirlaw25.DdauditBroken", spec := "ddauditBroken", plainKeys := false, apart := false, narrowed := true }
def DdauditBrokenUptoSaid : Prop := ddauditBrokenUptoRow.holds Try.pinned (OpenSpec.upto ddauditBrokenSpec)

end Rows
end Go.Proofs.Ytmpcfplpdbdmmaa
