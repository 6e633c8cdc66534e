/-
  NARROWER THAN 'FOR EVERY INPUT', by the rows' own cells (each row's printed sentence says how): LexiNext: laid · LexiAll: laid · LexiNames: laid · LexiStands: laid · LexiBlanks: laid.
  DERIVED. THE GIVEN ROWS OF THIS SEAT. 5 by the template 'for every input the law returns true; each argument reads behind the call as it read before'; 0 by the template 'total and deterministic' (their statements: YtnmofkngengoeaaDoorTotals.lean).
  GIVEN WITH THE SEED: the statements are not yours to turn. If you find one false, say at which input.
  Laid BY PROGRAM, IN A SANDBOX (cutbox-rows.mjs): the forced cells as the released guide's own fill.sh prints them over the translation 39731d538c118bd9… (all of the seat's roots in one cut). By AI agents, Wed Nov 11 2026. No macro, syntax, notation, axiom, sorry.
-/
import Derived.Test.YtnmofkngengoeaaDoorChecked
import GoSem.Claim
import GoSem.ClaimJoined
import GoSem.ClaimMapViews
import Derived.JoinedTies
import Derived.KernelRfl
namespace Go.Proofs.YtnmofkngengoeaaDoor
/- THE CELL 'sum', in the pinned program and in every row, IS THE sha256 OF THE DUMP (.gsa) THAT YtnmofkngengoeaaDoorProg.lean LOADS. Nothing in Lean hashes anything: it is a label: what it is worth is what the hold of that sum in a sandbox is worth. -/
noncomputable def Tryd.pinned : Pinned := { name := "ytnmofkngengoeaadoor", sum := "39731d538c118bd94a87786c340a61edb7a1b4fe6194963db265ae5d2df681bc", checked := Tryd.checked }
namespace Rows
def none {H : Type} : Left H := { results := [], args := [] }

/- WHAT THE LISTED PACKAGE-LEVEL VARIABLES READ AS WHEN THE CALL BEGINS. Each datum BY PROGRAM (the guide's laid-datum.mjs) off the statement by which the dump's own 'gosem.cut.vars' lays the variable. In a bare row this is a premise. The card (YtnmofkngengoeaaDoorCards.lean) ties it to the program's text. -/
def laid_voussoir_lexi_words {H : Type} : DataW H := .agg [.lit (.string [65]), .lit (.string [65, 70]), .lit (.string [65, 71]), .lit (.string [65, 88]), .lit (.string [69]), .lit (.string [69, 70]), .lit (.string [69, 71]), .lit (.string [69, 88]), .lit (.string [85]), .lit (.string [98, 111, 111, 108]), .lit (.string [100, 101, 102]), .lit (.string [101, 108, 115, 101]), .lit (.string [102, 97, 105, 114]), .lit (.string [102, 97, 108, 115, 101]), .lit (.string [105, 102]), .lit (.string [105, 110, 105, 116]), .lit (.string [105, 110, 118, 97, 114]), .lit (.string [109, 111, 100]), .lit (.string [110, 101, 120, 116]), .lit (.string [115, 112, 101, 99]), .lit (.string [116, 104, 101, 110]), .lit (.string [116, 114, 97, 110, 115]), .lit (.string [116, 114, 117, 101]), .lit (.string [118, 97, 114])]
def laid_voussoir_lexi_signs {H : Type} : DataW H := .agg [.lit (.string [60, 45, 62]), .lit (.string [58, 61]), .lit (.string [45, 62]), .lit (.string [46, 46]), .lit (.string [60, 61]), .lit (.string [33, 61]), .lit (.string [61]), .lit (.string [60]), .lit (.string [38]), .lit (.string [124]), .lit (.string [33]), .lit (.string [40]), .lit (.string [41]), .lit (.string [91]), .lit (.string [93]), .lit (.string [59]), .lit (.string [58]), .lit (.string [44]), .lit (.string [43]), .lit (.string [45]), .lit (.string [42])]

/-- 'voussoirlaw29.LexiNext': WHATEVER THE INPUT: true; the input reads as it did. -/
def lexiNextSpec : ChangeSpec := { name := "lexiNext", fn := fun _ => fun
  | [d1, d2] => { results := [.lit (.bool true)], args := [d1, d2] }
  | _ => none }
def lexiNextRow : OpenClaim := { program := "ytnmofkngengoeaadoor", sum := "39731d538c118bd94a87786c340a61edb7a1b4fe6194963db265ae5d2df681bc", func := "voussoir/voussoirlaw29.LexiNext", spec := "lexiNext", unfollowed := true, recurses := true, named := ["voussoir/lexi.words", "voussoir/lexi.signs"], apart := false, laid := [("voussoir/lexi.words", laid_voussoir_lexi_words), ("voussoir/lexi.signs", laid_voussoir_lexi_signs)] }
def LexiNextSaid : Prop := lexiNextRow.holds Tryd.pinned (OpenSpec.ofChange lexiNextSpec)

/-- ITS FALSE NEIGHBOUR: 'it returns false'. Refute it at one input. -/
def lexiNextWrong : ChangeSpec := { name := "lexiNext", fn := fun _ => fun
  | [d1, d2] => { results := [.lit (.bool false)], args := [d1, d2] }
  | _ => none }
def LexiNextWrongFalsely : Prop := lexiNextRow.holds Tryd.pinned (OpenSpec.ofChange lexiNextWrong)

/-- 'voussoirlaw29.LexiAll': WHATEVER THE INPUT: true; the input reads as it did. -/
def lexiAllSpec : ChangeSpec := { name := "lexiAll", fn := fun _ => fun
  | [d] => { results := [.lit (.bool true)], args := [d] }
  | _ => none }
def lexiAllRow : OpenClaim := { program := "ytnmofkngengoeaadoor", sum := "39731d538c118bd94a87786c340a61edb7a1b4fe6194963db265ae5d2df681bc", func := "voussoir/voussoirlaw29.LexiAll", spec := "lexiAll", unfollowed := true, recurses := true, named := ["voussoir/lexi.words", "voussoir/lexi.signs"], apart := false, laid := [("voussoir/lexi.words", laid_voussoir_lexi_words), ("voussoir/lexi.signs", laid_voussoir_lexi_signs)] }
def LexiAllSaid : Prop := lexiAllRow.holds Tryd.pinned (OpenSpec.ofChange lexiAllSpec)

/-- ITS FALSE NEIGHBOUR: 'it returns false'. Refute it at one input. -/
def lexiAllWrong : ChangeSpec := { name := "lexiAll", fn := fun _ => fun
  | [d] => { results := [.lit (.bool false)], args := [d] }
  | _ => none }
def LexiAllWrongFalsely : Prop := lexiAllRow.holds Tryd.pinned (OpenSpec.ofChange lexiAllWrong)

/-- 'voussoirlaw29.LexiNames': WHATEVER THE INPUT: true; the input reads as it did. -/
def lexiNamesSpec : ChangeSpec := { name := "lexiNames", fn := fun _ => fun
  | [d] => { results := [.lit (.bool true)], args := [d] }
  | _ => none }
def lexiNamesRow : OpenClaim := { program := "ytnmofkngengoeaadoor", sum := "39731d538c118bd94a87786c340a61edb7a1b4fe6194963db265ae5d2df681bc", func := "voussoir/voussoirlaw29.LexiNames", spec := "lexiNames", unfollowed := true, recurses := true, named := ["voussoir/lexi.words", "voussoir/lexi.signs"], apart := false, laid := [("voussoir/lexi.words", laid_voussoir_lexi_words), ("voussoir/lexi.signs", laid_voussoir_lexi_signs)] }
def LexiNamesSaid : Prop := lexiNamesRow.holds Tryd.pinned (OpenSpec.ofChange lexiNamesSpec)

/-- ITS FALSE NEIGHBOUR: 'it returns false'. Refute it at one input. -/
def lexiNamesWrong : ChangeSpec := { name := "lexiNames", fn := fun _ => fun
  | [d] => { results := [.lit (.bool false)], args := [d] }
  | _ => none }
def LexiNamesWrongFalsely : Prop := lexiNamesRow.holds Tryd.pinned (OpenSpec.ofChange lexiNamesWrong)

/-- 'voussoirlaw29.LexiStands': WHATEVER THE INPUT: true; the input reads as it did. -/
def lexiStandsSpec : ChangeSpec := { name := "lexiStands", fn := fun _ => fun
  | [d] => { results := [.lit (.bool true)], args := [d] }
  | _ => none }
def lexiStandsRow : OpenClaim := { program := "ytnmofkngengoeaadoor", sum := "39731d538c118bd94a87786c340a61edb7a1b4fe6194963db265ae5d2df681bc", func := "voussoir/voussoirlaw29.LexiStands", spec := "lexiStands", unfollowed := true, recurses := true, named := ["voussoir/lexi.words", "voussoir/lexi.signs"], apart := false, laid := [("voussoir/lexi.words", laid_voussoir_lexi_words), ("voussoir/lexi.signs", laid_voussoir_lexi_signs)] }
def LexiStandsSaid : Prop := lexiStandsRow.holds Tryd.pinned (OpenSpec.ofChange lexiStandsSpec)

/-- ITS FALSE NEIGHBOUR: 'it returns false'. Refute it at one input. -/
def lexiStandsWrong : ChangeSpec := { name := "lexiStands", fn := fun _ => fun
  | [d] => { results := [.lit (.bool false)], args := [d] }
  | _ => none }
def LexiStandsWrongFalsely : Prop := lexiStandsRow.holds Tryd.pinned (OpenSpec.ofChange lexiStandsWrong)

/-- 'voussoirlaw29.LexiBlanks': WHATEVER THE INPUT: true; the input reads as it did. -/
def lexiBlanksSpec : ChangeSpec := { name := "lexiBlanks", fn := fun _ => fun
  | [d1, d2] => { results := [.lit (.bool true)], args := [d1, d2] }
  | _ => none }
def lexiBlanksRow : OpenClaim := { program := "ytnmofkngengoeaadoor", sum := "39731d538c118bd94a87786c340a61edb7a1b4fe6194963db265ae5d2df681bc", func := "voussoir/voussoirlaw29.LexiBlanks", spec := "lexiBlanks", unfollowed := true, recurses := true, named := ["voussoir/lexi.words", "voussoir/lexi.signs"], apart := false, laid := [("voussoir/lexi.words", laid_voussoir_lexi_words), ("voussoir/lexi.signs", laid_voussoir_lexi_signs)] }
def LexiBlanksSaid : Prop := lexiBlanksRow.holds Tryd.pinned (OpenSpec.ofChange lexiBlanksSpec)

/-- ITS FALSE NEIGHBOUR: 'it returns false'. Refute it at one input. -/
def lexiBlanksWrong : ChangeSpec := { name := "lexiBlanks", fn := fun _ => fun
  | [d1, d2] => { results := [.lit (.bool false)], args := [d1, d2] }
  | _ => none }
def LexiBlanksWrongFalsely : Prop := lexiBlanksRow.holds Tryd.pinned (OpenSpec.ofChange lexiBlanksWrong)

/- THE SECOND FORM. 'bulk': how many values and letters a reading holds, each counted each time it is reached (what is shared counts as often as it is met; a slice's spare places count too). A statement '..UptoSaid' is the law's where the arguments, and the package variables that the reading takes, are together of bulk at most 1048576: NARROWER than '..Said'. Prove '..Said' where nothing that the law and all that it calls make is longer than what came in: it says more and counts as full. Else prove '..UptoSaid'. A law counts once. -/
mutual
def uptoBulk {H : Type} : DataW H → Nat
  | .lit (.string bytes) => bytes.length + 1
  | .lit _ => 1
  | .nil => 1
  | .ptr d => uptoBulk d + 1
  | .slice elems spare => uptoBulkAll elems + uptoBulkAll spare + 1
  | .agg parts => uptoBulkAll parts + 1
  | .iface _ d => uptoBulk d + 1
  | .map entries => uptoBulkEntries entries + 1
  | .held _ => 1
def uptoBulkAll {H : Type} : List (DataW H) → Nat
  | [] => 0
  | d :: r => uptoBulk d + uptoBulkAll r
def uptoBulkEntries {H : Type} : List (Lit × DataW H) → Nat
  | [] => 0
  | x :: r => uptoBulkEntry x + uptoBulkEntries r
def uptoBulkEntry {H : Type} : Lit × DataW H → Nat
  | (.string bytes, d) => bytes.length + uptoBulk d + 1
  | (_, d) => uptoBulk d + 1
 end
def uptoSmall : (H : Type) → List (DataW H) → Bool := fun _ ds => decide (uptoBulkAll ds ≤ 1048576)
def OpenSpec.upto (s : _root_.Go.ChangeSpec) : _root_.Go.OpenSpec := { _root_.Go.OpenSpec.ofChange s with cond := some uptoSmall }

/-- 'voussoirlaw29.LexiNext', WHERE WHAT IT READS IS OF BULK AT MOST 1048576: true; the input reads as it did. -/
def lexiNextUptoRow : OpenClaim := { program := "ytnmofkngengoeaadoor", sum := "39731d538c118bd94a87786c340a61edb7a1b4fe6194963db265ae5d2df681bc", func := "voussoir/voussoirlaw29.LexiNext", spec := "lexiNext", unfollowed := true, recurses := true, named := ["voussoir/lexi.words", "voussoir/lexi.signs"], apart := false, laid := [("voussoir/lexi.words", laid_voussoir_lexi_words), ("voussoir/lexi.signs", laid_voussoir_lexi_signs)], narrowed := true }
def LexiNextUptoSaid : Prop := lexiNextUptoRow.holds Tryd.pinned (OpenSpec.upto lexiNextSpec)

/-- 'voussoirlaw29.LexiAll', WHERE WHAT IT READS IS OF BULK AT MOST 1048576: true; the input reads as it did. -/
def lexiAllUptoRow : OpenClaim := { program := "ytnmofkngengoeaadoor", sum := "39731d538c118bd94a87786c340a61edb7a1b4fe6194963db265ae5d2df681bc", func := "voussoir/voussoirlaw29.LexiAll", spec := "lexiAll", unfollowed := true, recurses := true, named := ["voussoir/lexi.words", "voussoir/lexi.signs"], apart := false, laid := [("voussoir/lexi.words", laid_voussoir_lexi_words), ("voussoir/lexi.signs", laid_voussoir_lexi_signs)], narrowed := true }
def LexiAllUptoSaid : Prop := lexiAllUptoRow.holds Tryd.pinned (OpenSpec.upto lexiAllSpec)

/-- 'voussoirlaw29.LexiNames', WHERE WHAT IT READS IS OF BULK AT MOST 1048576: true; the input reads as it did. -/
def lexiNamesUptoRow : OpenClaim := { program := "ytnmofkngengoeaadoor", sum := "39731d538c118bd94a87786c340a61edb7a1b4fe6194963db265ae5d2df681bc", func := "voussoir/voussoirlaw29.LexiNames", spec := "lexiNames", unfollowed := true, recurses := true, named := ["voussoir/lexi.words", "voussoir/lexi.signs"], apart := false, laid := [("voussoir/lexi.words", laid_voussoir_lexi_words), ("voussoir/lexi.signs", laid_voussoir_lexi_signs)], narrowed := true }
def LexiNamesUptoSaid : Prop := lexiNamesUptoRow.holds Tryd.pinned (OpenSpec.upto lexiNamesSpec)

/-- 'voussoirlaw29.LexiStands', WHERE WHAT IT READS IS OF BULK AT MOST 1048576: true; the input reads as it did. -/
def lexiStandsUptoRow : OpenClaim := { program := "ytnmofkngengoeaadoor", sum := "39731d538c118bd94a87786c340a61edb7a1b4fe6194963db265ae5d2df681bc", func := "voussoir/voussoirlaw29.LexiStands", spec := "lexiStands", unfollowed := true, recurses := true, named := ["voussoir/lexi.words", "voussoir/lexi.signs"], apart := false, laid := [("voussoir/lexi.words", laid_voussoir_lexi_words), ("voussoir/lexi.signs", laid_voussoir_lexi_signs)], narrowed := true }
def LexiStandsUptoSaid : Prop := lexiStandsUptoRow.holds Tryd.pinned (OpenSpec.upto lexiStandsSpec)

/-- 'voussoirlaw29.LexiBlanks', WHERE WHAT IT READS IS OF BULK AT MOST 1048576: true; the input reads as it did. -/
def lexiBlanksUptoRow : OpenClaim := { program := "ytnmofkngengoeaadoor", sum := "39731d538c118bd94a87786c340a61edb7a1b4fe6194963db265ae5d2df681bc", func := "voussoir/voussoirlaw29.LexiBlanks", spec := "lexiBlanks", unfollowed := true, recurses := true, named := ["voussoir/lexi.words", "voussoir/lexi.signs"], apart := false, laid := [("voussoir/lexi.words", laid_voussoir_lexi_words), ("voussoir/lexi.signs", laid_voussoir_lexi_signs)], narrowed := true }
def LexiBlanksUptoSaid : Prop := lexiBlanksUptoRow.holds Tryd.pinned (OpenSpec.upto lexiBlanksSpec)

end Rows
end Go.Proofs.YtnmofkngengoeaaDoor
