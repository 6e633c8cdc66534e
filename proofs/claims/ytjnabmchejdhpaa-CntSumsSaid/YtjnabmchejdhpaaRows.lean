/-
  No cell of these rows narrows 'for every input' (looked for: loops, veiled, ifaces, maps, wideKeys, modest, calm, conditions, laid).
  DERIVED. THE GIVEN ROWS OF THIS SEAT. 4 by the template 'for every input the law returns true; each argument reads behind the call as it read before'; 0 by the template 'total and deterministic' (their statements: YtjnabmchejdhpaaTotals.lean).
  GIVEN WITH THE SEED: the statements are not yours to turn. If you find one false, say at which input.
  Laid BY PROGRAM, IN A SANDBOX (cutbox-rows.mjs): the forced cells as the released guide's own fill.sh prints them over the translation fc38f1c174bc62a0… (all of the seat's roots in one cut). By AI agents, Wed Nov 11 2026. No macro, syntax, notation, axiom, sorry.
-/
import Derived.Test.YtjnabmchejdhpaaChecked
import GoSem.Claim
import GoSem.ClaimJoined
import GoSem.ClaimMapViews
import Derived.JoinedTies
import Derived.KernelRfl
namespace Go.Proofs.Ytjnabmchejdhpaa
/- THE CELL 'sum', in the pinned program and in every row, IS THE sha256 OF THE DUMP (.gsa) THAT YtjnabmchejdhpaaProg.lean LOADS. Nothing in Lean hashes anything: it is a label: what it is worth is what the hold of that sum in a sandbox is worth. -/
noncomputable def Try.pinned : Pinned := { name := "ytjnabmchejdhpaa", sum := "fc38f1c174bc62a014aca4b73a0a3d369fdaf0fb8b1968d0d8a461085540ae66", checked := Try.checked }
namespace Rows
def none {H : Type} : Left H := { results := [], args := [] }

/-- 'voussoirlaw04.CntSums': WHATEVER THE INPUT: true; the input reads as it did. -/
def cntSumsSpec : ChangeSpec := { name := "cntSums", fn := fun _ => fun
  | [d1, d2, d3] => { results := [.lit (.bool true)], args := [d1, d2, d3] }
  | _ => none }
def cntSumsRow : OpenClaim := { program := "ytjnabmchejdhpaa", sum := "fc38f1c174bc62a014aca4b73a0a3d369fdaf0fb8b1968d0d8a461085540ae66", func := "voussoir/voussoirlaw04.CntSums", spec := "cntSums", apart := false }
def CntSumsSaid : Prop := cntSumsRow.holds Try.pinned (OpenSpec.ofChange cntSumsSpec)

/-- ITS FALSE NEIGHBOUR: 'it returns false'. Refute it at one input. -/
def cntSumsWrong : ChangeSpec := { name := "cntSums", fn := fun _ => fun
  | [d1, d2, d3] => { results := [.lit (.bool false)], args := [d1, d2, d3] }
  | _ => none }
def CntSumsWrongFalsely : Prop := cntSumsRow.holds Try.pinned (OpenSpec.ofChange cntSumsWrong)

/-- 'voussoirlaw04.CntTimes': WHATEVER THE INPUT: true; the input reads as it did. -/
def cntTimesSpec : ChangeSpec := { name := "cntTimes", fn := fun _ => fun
  | [d1, d2, d3] => { results := [.lit (.bool true)], args := [d1, d2, d3] }
  | _ => none }
def cntTimesRow : OpenClaim := { program := "ytjnabmchejdhpaa", sum := "fc38f1c174bc62a014aca4b73a0a3d369fdaf0fb8b1968d0d8a461085540ae66", func := "voussoir/voussoirlaw04.CntTimes", spec := "cntTimes", apart := false }
def CntTimesSaid : Prop := cntTimesRow.holds Try.pinned (OpenSpec.ofChange cntTimesSpec)

/-- ITS FALSE NEIGHBOUR: 'it returns false'. Refute it at one input. -/
def cntTimesWrong : ChangeSpec := { name := "cntTimes", fn := fun _ => fun
  | [d1, d2, d3] => { results := [.lit (.bool false)], args := [d1, d2, d3] }
  | _ => none }
def CntTimesWrongFalsely : Prop := cntTimesRow.holds Try.pinned (OpenSpec.ofChange cntTimesWrong)

/-- 'voussoirlaw04.CntTexts': WHATEVER THE INPUT: true; the input reads as it did. -/
def cntTextsSpec : ChangeSpec := { name := "cntTexts", fn := fun _ => fun
  | [d1, d2, d3] => { results := [.lit (.bool true)], args := [d1, d2, d3] }
  | _ => none }
def cntTextsRow : OpenClaim := { program := "ytjnabmchejdhpaa", sum := "fc38f1c174bc62a014aca4b73a0a3d369fdaf0fb8b1968d0d8a461085540ae66", func := "voussoir/voussoirlaw04.CntTexts", spec := "cntTexts", apart := false }
def CntTextsSaid : Prop := cntTextsRow.holds Try.pinned (OpenSpec.ofChange cntTextsSpec)

/-- ITS FALSE NEIGHBOUR: 'it returns false'. Refute it at one input. -/
def cntTextsWrong : ChangeSpec := { name := "cntTexts", fn := fun _ => fun
  | [d1, d2, d3] => { results := [.lit (.bool false)], args := [d1, d2, d3] }
  | _ => none }
def CntTextsWrongFalsely : Prop := cntTextsRow.holds Try.pinned (OpenSpec.ofChange cntTextsWrong)

/-- 'voussoirlaw04.CntRings': WHATEVER THE INPUT: true; the input reads as it did. -/
def cntRingsSpec : ChangeSpec := { name := "cntRings", fn := fun _ => fun
  | [d1, d2, d3] => { results := [.lit (.bool true)], args := [d1, d2, d3] }
  | _ => none }
def cntRingsRow : OpenClaim := { program := "ytjnabmchejdhpaa", sum := "fc38f1c174bc62a014aca4b73a0a3d369fdaf0fb8b1968d0d8a461085540ae66", func := "voussoir/voussoirlaw04.CntRings", spec := "cntRings", apart := false }
def CntRingsSaid : Prop := cntRingsRow.holds Try.pinned (OpenSpec.ofChange cntRingsSpec)

/-- ITS FALSE NEIGHBOUR: 'it returns false'. Refute it at one input. -/
def cntRingsWrong : ChangeSpec := { name := "cntRings", fn := fun _ => fun
  | [d1, d2, d3] => { results := [.lit (.bool false)], args := [d1, d2, d3] }
  | _ => none }
def CntRingsWrongFalsely : Prop := cntRingsRow.holds Try.pinned (OpenSpec.ofChange cntRingsWrong)

/- THE SECOND FORM. 'bulk': how many values and letters a reading holds, each counted each time it is reached (what is shared counts as often as it is met; a slice's spare places count too). A statement '..UptoSaid' is the law's where the arguments, and the package variables that the reading takes, are together of bulk at most 1048576: NARROWER than '..Said'. Prove '..Said' where nothing that the law and all that it calls make is longer than what came in: it says more and counts as full. Else prove '..UptoSaid'. A law counts once. -/
mutual
def uptoBulk {H : Type} : DataW H → Nat
  | .lit (.string bytes) => bytes.length + 1
  | .lit _ => 1
  | .nil => 1
  | .ptr d => uptoBulk d + 1
  | .slice elems spare => uptoBulkAll elems + uptoBulkAll spare + 1
  | .agg parts => uptoBulkAll parts + 1
  | .iface _ d => uptoBulk d + 1
  | .map entries => uptoBulkEntries entries + 1
  | .held _ => 1
def uptoBulkAll {H : Type} : List (DataW H) → Nat
  | [] => 0
  | d :: r => uptoBulk d + uptoBulkAll r
def uptoBulkEntries {H : Type} : List (Lit × DataW H) → Nat
  | [] => 0
  | x :: r => uptoBulkEntry x + uptoBulkEntries r
def uptoBulkEntry {H : Type} : Lit × DataW H → Nat
  | (.string bytes, d) => bytes.length + uptoBulk d + 1
  | (_, d) => uptoBulk d + 1
 end
def uptoSmall : (H : Type) → List (DataW H) → Bool := fun _ ds => decide (uptoBulkAll ds ≤ 1048576)
def OpenSpec.upto (s : _root_.Go.ChangeSpec) : _root_.Go.OpenSpec := { _root_.Go.OpenSpec.ofChange s with cond := some uptoSmall }

/-- 'voussoirlaw04.CntSums', WHERE WHAT IT READS IS OF BULK AT MOST 1048576: true; the input reads as it did. -/
def cntSumsUptoRow : OpenClaim := { program := "ytjnabmchejdhpaa", sum := "fc38f1c174bc62a014aca4b73a0a3d369fdaf0fb8b1968d0d8a461085540ae66", func := "voussoir/voussoirlaw04.CntSums", spec := "cntSums", apart := false, narrowed := true }
def CntSumsUptoSaid : Prop := cntSumsUptoRow.holds Try.pinned (OpenSpec.upto cntSumsSpec)

/-- 'voussoirlaw04.CntTimes', WHERE WHAT IT READS IS OF BULK AT MOST 1048576: true; the input reads as it did. -/
def cntTimesUptoRow : OpenClaim := { program := "ytjnabmchejdhpaa", sum := "fc38f1c174bc62a014aca4b73a0a3d369fdaf0fb8b1968d0d8a461085540ae66", func := "voussoir/voussoirlaw04.CntTimes", spec := "cntTimes", apart := false, narrowed := true }
def CntTimesUptoSaid : Prop := cntTimesUptoRow.holds Try.pinned (OpenSpec.upto cntTimesSpec)

/-- 'voussoirlaw04.CntTexts', WHERE WHAT IT READS IS OF BULK AT MOST 1048576: true; the input reads as it did. -/
def cntTextsUptoRow : OpenClaim := { program := "ytjnabmchejdhpaa", sum := "fc38f1c174bc62a014aca4b73a0a3d369fdaf0fb8b1968d0d8a461085540ae66", func := "voussoir/voussoirlaw04.CntTexts", spec := "cntTexts", apart := false, narrowed := true }
def CntTextsUptoSaid : Prop := cntTextsUptoRow.holds Try.pinned (OpenSpec.upto cntTextsSpec)

/-- 'voussoirlaw04.CntRings', WHERE WHAT IT READS IS OF BULK AT MOST 1048576: true; the input reads as it did. -/
def cntRingsUptoRow : OpenClaim := { program := "ytjnabmchejdhpaa", sum := "fc38f1c174bc62a014aca4b73a0a3d369fdaf0fb8b1968d0d8a461085540ae66", func := "voussoir/voussoirlaw04.CntRings", spec := "cntRings", apart := false, narrowed := true }
def CntRingsUptoSaid : Prop := cntRingsUptoRow.holds Try.pinned (OpenSpec.upto cntRingsSpec)

end Rows
end Go.Proofs.Ytjnabmchejdhpaa
