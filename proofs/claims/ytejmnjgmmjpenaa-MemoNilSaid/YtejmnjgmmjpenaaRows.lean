/-
  No cell of these rows narrows 'for every input' (looked for: loops, veiled, ifaces, maps, wideKeys, modest, calm, conditions, laid).
  DERIVED. THE GIVEN ROWS OF THIS SEAT. 4 by the template 'for every input the law returns true; each argument reads behind the call as it read before'; 0 by the template 'total and deterministic' (their statements: YtejmnjgmmjpenaaTotals.lean).
  GIVEN WITH THE SEED: the statements are not yours to turn. If you find one false, say at which input.
  Laid BY PROGRAM, IN A SANDBOX (cutbox-rows.mjs): the forced cells as the released guide's own fill.sh prints them over the translation 366df266905f4655… (all of the seat's roots in one cut). By AI agents, Wed Nov 11 2026. No macro, syntax, notation, axiom, sorry.
-/
import Derived.Test.YtejmnjgmmjpenaaChecked
import GoSem.Claim
import GoSem.ClaimJoined
import GoSem.ClaimMapViews
import Derived.JoinedTies
import Derived.KernelRfl
namespace Go.Proofs.Ytejmnjgmmjpenaa
/- THE CELL 'sum', in the pinned program and in every row, IS THE sha256 OF THE DUMP (.gsa) THAT YtejmnjgmmjpenaaProg.lean LOADS. Nothing in Lean hashes anything: it is a label: what it is worth is what the hold of that sum in a sandbox is worth. -/
noncomputable def Try.pinned : Pinned := { name := "ytejmnjgmmjpenaa", sum := "366df266905f4655f550193088ffeb0c622dc8035bbba0af5d391af475c9d0d7", checked := Try.checked }
namespace Rows
def none {H : Type} : Left H := { results := [], args := [] }

/-- 'voussoirlaw11.MemoKeeps': WHATEVER THE INPUT: true; the input reads as it did. -/
def memoKeepsSpec : ChangeSpec := { name := "memoKeeps", fn := fun _ => fun
  | [d1, d2] => { results := [.lit (.bool true)], args := [d1, d2] }
  | _ => none }
def memoKeepsRow : OpenClaim := { program := "ytejmnjgmmjpenaa", sum := "366df266905f4655f550193088ffeb0c622dc8035bbba0af5d391af475c9d0d7", func := "voussoir/voussoirlaw11.MemoKeeps", spec := "memoKeeps", apart := false }
def MemoKeepsSaid : Prop := memoKeepsRow.holds Try.pinned (OpenSpec.ofChange memoKeepsSpec)

/-- ITS FALSE NEIGHBOUR: 'it returns false'. Refute it at one input. -/
def memoKeepsWrong : ChangeSpec := { name := "memoKeeps", fn := fun _ => fun
  | [d1, d2] => { results := [.lit (.bool false)], args := [d1, d2] }
  | _ => none }
def MemoKeepsWrongFalsely : Prop := memoKeepsRow.holds Try.pinned (OpenSpec.ofChange memoKeepsWrong)

/-- 'voussoirlaw11.MemoRoom': WHATEVER THE INPUT: true; the input reads as it did. -/
def memoRoomSpec : ChangeSpec := { name := "memoRoom", fn := fun _ => fun
  | [d1, d2] => { results := [.lit (.bool true)], args := [d1, d2] }
  | _ => none }
def memoRoomRow : OpenClaim := { program := "ytejmnjgmmjpenaa", sum := "366df266905f4655f550193088ffeb0c622dc8035bbba0af5d391af475c9d0d7", func := "voussoir/voussoirlaw11.MemoRoom", spec := "memoRoom", apart := false }
def MemoRoomSaid : Prop := memoRoomRow.holds Try.pinned (OpenSpec.ofChange memoRoomSpec)

/-- ITS FALSE NEIGHBOUR: 'it returns false'. Refute it at one input. -/
def memoRoomWrong : ChangeSpec := { name := "memoRoom", fn := fun _ => fun
  | [d1, d2] => { results := [.lit (.bool false)], args := [d1, d2] }
  | _ => none }
def MemoRoomWrongFalsely : Prop := memoRoomRow.holds Try.pinned (OpenSpec.ofChange memoRoomWrong)

/-- 'voussoirlaw11.MemoClears': WHATEVER THE INPUT: true; the input reads as it did. -/
def memoClearsSpec : ChangeSpec := { name := "memoClears", fn := fun _ => fun
  | [d1, d2, d3] => { results := [.lit (.bool true)], args := [d1, d2, d3] }
  | _ => none }
def memoClearsRow : OpenClaim := { program := "ytejmnjgmmjpenaa", sum := "366df266905f4655f550193088ffeb0c622dc8035bbba0af5d391af475c9d0d7", func := "voussoir/voussoirlaw11.MemoClears", spec := "memoClears", apart := false }
def MemoClearsSaid : Prop := memoClearsRow.holds Try.pinned (OpenSpec.ofChange memoClearsSpec)

/-- ITS FALSE NEIGHBOUR: 'it returns false'. Refute it at one input. -/
def memoClearsWrong : ChangeSpec := { name := "memoClears", fn := fun _ => fun
  | [d1, d2, d3] => { results := [.lit (.bool false)], args := [d1, d2, d3] }
  | _ => none }
def MemoClearsWrongFalsely : Prop := memoClearsRow.holds Try.pinned (OpenSpec.ofChange memoClearsWrong)

/-- 'voussoirlaw11.MemoNil': WHATEVER THE INPUT: true; the input reads as it did. -/
def memoNilSpec : ChangeSpec := { name := "memoNil", fn := fun _ => fun
  | [d] => { results := [.lit (.bool true)], args := [d] }
  | _ => none }
def memoNilRow : OpenClaim := { program := "ytejmnjgmmjpenaa", sum := "366df266905f4655f550193088ffeb0c622dc8035bbba0af5d391af475c9d0d7", func := "voussoir/voussoirlaw11.MemoNil", spec := "memoNil", apart := false }
def MemoNilSaid : Prop := memoNilRow.holds Try.pinned (OpenSpec.ofChange memoNilSpec)

/-- ITS FALSE NEIGHBOUR: 'it returns false'. Refute it at one input. -/
def memoNilWrong : ChangeSpec := { name := "memoNil", fn := fun _ => fun
  | [d] => { results := [.lit (.bool false)], args := [d] }
  | _ => none }
def MemoNilWrongFalsely : Prop := memoNilRow.holds Try.pinned (OpenSpec.ofChange memoNilWrong)

/- THE SECOND FORM. 'bulk': how many values and letters a reading holds, each counted each time it is reached (what is shared counts as often as it is met; a slice's spare places count too). A statement '..UptoSaid' is the law's where the arguments, and the package variables that the reading takes, are together of bulk at most 1048576: NARROWER than '..Said'. Prove '..Said' where nothing that the law and all that it calls make is longer than what came in: it says more and counts as full. Else prove '..UptoSaid'. A law counts once. -/
mutual
def uptoBulk {H : Type} : DataW H → Nat
  | .lit (.string bytes) => bytes.length + 1
  | .lit _ => 1
  | .nil => 1
  | .ptr d => uptoBulk d + 1
  | .slice elems spare => uptoBulkAll elems + uptoBulkAll spare + 1
  | .agg parts => uptoBulkAll parts + 1
  | .iface _ d => uptoBulk d + 1
  | .map entries => uptoBulkEntries entries + 1
  | .held _ => 1
def uptoBulkAll {H : Type} : List (DataW H) → Nat
  | [] => 0
  | d :: r => uptoBulk d + uptoBulkAll r
def uptoBulkEntries {H : Type} : List (Lit × DataW H) → Nat
  | [] => 0
  | x :: r => uptoBulkEntry x + uptoBulkEntries r
def uptoBulkEntry {H : Type} : Lit × DataW H → Nat
  | (.string bytes, d) => bytes.length + uptoBulk d + 1
  | (_, d) => uptoBulk d + 1
 end
def uptoSmall : (H : Type) → List (DataW H) → Bool := fun _ ds => decide (uptoBulkAll ds ≤ 1048576)
def OpenSpec.upto (s : _root_.Go.ChangeSpec) : _root_.Go.OpenSpec := { _root_.Go.OpenSpec.ofChange s with cond := some uptoSmall }

/-- 'voussoirlaw11.MemoKeeps', WHERE WHAT IT READS IS OF BULK AT MOST 1048576: true; the input reads as it did. -/
def memoKeepsUptoRow : OpenClaim := { program := "ytejmnjgmmjpenaa", sum := "366df266905f4655f550193088ffeb0c622dc8035bbba0af5d391af475c9d0d7", func := "voussoir/voussoirlaw11.MemoKeeps", spec := "memoKeeps", apart := false, narrowed := true }
def MemoKeepsUptoSaid : Prop := memoKeepsUptoRow.holds Try.pinned (OpenSpec.upto memoKeepsSpec)

/-- 'voussoirlaw11.MemoRoom', WHERE WHAT IT READS IS OF BULK AT MOST 1048576: true; the input reads as it did. -/
def memoRoomUptoRow : OpenClaim := { program := "ytejmnjgmmjpenaa", sum := "366df266905f4655f550193088ffeb0c622dc8035bbba0af5d391af475c9d0d7", func := "voussoir/voussoirlaw11.MemoRoom", spec := "memoRoom", apart := false, narrowed := true }
def MemoRoomUptoSaid : Prop := memoRoomUptoRow.holds Try.pinned (OpenSpec.upto memoRoomSpec)

/-- 'voussoirlaw11.MemoClears', WHERE WHAT IT READS IS OF BULK AT MOST 1048576: true; the input reads as it did. -/
def memoClearsUptoRow : OpenClaim := { program := "ytejmnjgmmjpenaa", sum := "366df266905f4655f550193088ffeb0c622dc8035bbba0af5d391af475c9d0d7", func := "voussoir/voussoirlaw11.MemoClears", spec := "memoClears", apart := false, narrowed := true }
def MemoClearsUptoSaid : Prop := memoClearsUptoRow.holds Try.pinned (OpenSpec.upto memoClearsSpec)

/-- 'voussoirlaw11.MemoNil', WHERE WHAT IT READS IS OF BULK AT MOST 1048576: true; the input reads as it did. -/
def memoNilUptoRow : OpenClaim := { program := "ytejmnjgmmjpenaa", sum := "366df266905f4655f550193088ffeb0c622dc8035bbba0af5d391af475c9d0d7", func := "voussoir/voussoirlaw11.MemoNil", spec := "memoNil", apart := false, narrowed := true }
def MemoNilUptoSaid : Prop := memoNilUptoRow.holds Try.pinned (OpenSpec.upto memoNilSpec)

end Rows
end Go.Proofs.Ytejmnjgmmjpenaa
