/-
  NARROWER THAN 'FOR EVERY INPUT', by the rows' own cells (each row's printed sentence says how): PtextShows: loops · PtextBack: loops.
  DERIVED. THE GIVEN ROWS OF THIS SEAT. 4 by the template 'for every input the law returns true; each argument reads behind the call as it read before'; 0 by the template 'total and deterministic' (their statements: YtipapemcedkinaaTotals.lean).
  GIVEN WITH THE SEED: the statements are not yours to turn. If you find one false, say at which input.
  Laid BY PROGRAM, IN A SANDBOX (cutbox-rows.mjs): the forced cells as the released guide's own fill.sh prints them over the translation 8dcab7112eec7444… (all of the seat's roots in one cut). By AI agents, Wed Nov 11 2026. No macro, syntax, notation, axiom, sorry.
-/
import Derived.Test.YtipapemcedkinaaChecked
import GoSem.Claim
import GoSem.ClaimJoined
import GoSem.ClaimMapViews
import Derived.JoinedTies
import Derived.KernelRfl
namespace Go.Proofs.Ytipapemcedkinaa
/- THE CELL 'sum', in the pinned program and in every row, IS THE sha256 OF THE DUMP (.gsa) THAT YtipapemcedkinaaProg.lean LOADS. Nothing in Lean hashes anything: it is a label: what it is worth is what the hold of that sum in a sandbox is worth. -/
noncomputable def Try.pinned : Pinned := { name := "ytipapemcedkinaa", sum := "8dcab7112eec7444ff8873762bc05d63892e9d9336c040bdd699af96b9885789", checked := Try.checked }
namespace Rows
def none {H : Type} : Left H := { results := [], args := [] }

/-- 'voussoirlaw07.PtextReads': WHATEVER THE INPUT: true; the input reads as it did. -/
def ptextReadsSpec : ChangeSpec := { name := "ptextReads", fn := fun _ => fun
  | [d] => { results := [.lit (.bool true)], args := [d] }
  | _ => none }
def ptextReadsRow : OpenClaim := { program := "ytipapemcedkinaa", sum := "8dcab7112eec7444ff8873762bc05d63892e9d9336c040bdd699af96b9885789", func := "voussoir/voussoirlaw07.PtextReads", spec := "ptextReads", inPlace := ["internal/bytealg.IndexByteString", "internal/abi.NoEscape"], unfollowed := true, recurses := true, apart := false }
def PtextReadsSaid : Prop := ptextReadsRow.holds Try.pinned (OpenSpec.ofChange ptextReadsSpec)

/-- ITS FALSE NEIGHBOUR: 'it returns false'. Refute it at one input. -/
def ptextReadsWrong : ChangeSpec := { name := "ptextReads", fn := fun _ => fun
  | [d] => { results := [.lit (.bool false)], args := [d] }
  | _ => none }
def PtextReadsWrongFalsely : Prop := ptextReadsRow.holds Try.pinned (OpenSpec.ofChange ptextReadsWrong)

/-- 'voussoirlaw07.PtextShows': WHATEVER THE INPUT: true; the input reads as it did. -/
def ptextShowsSpec : ChangeSpec := { name := "ptextShows", fn := fun _ => fun
  | [d] => { results := [.lit (.bool true)], args := [d] }
  | _ => none }
def ptextShowsRow : OpenClaim := { program := "ytipapemcedkinaa", sum := "8dcab7112eec7444ff8873762bc05d63892e9d9336c040bdd699af96b9885789", func := "voussoir/voussoirlaw07.PtextShows", spec := "ptextShows", inPlace := ["internal/bytealg.IndexByteString", "internal/abi.NoEscape"], unfollowed := true, recurses := true, loops := true, apart := false }
def PtextShowsSaid : Prop := ptextShowsRow.holds Try.pinned (OpenSpec.ofChange ptextShowsSpec)

/-- ITS FALSE NEIGHBOUR: 'it returns false'. Refute it at one input. -/
def ptextShowsWrong : ChangeSpec := { name := "ptextShows", fn := fun _ => fun
  | [d] => { results := [.lit (.bool false)], args := [d] }
  | _ => none }
def PtextShowsWrongFalsely : Prop := ptextShowsRow.holds Try.pinned (OpenSpec.ofChange ptextShowsWrong)

/-- 'voussoirlaw07.PtextBack': WHATEVER THE INPUT: true; the input reads as it did. -/
def ptextBackSpec : ChangeSpec := { name := "ptextBack", fn := fun _ => fun
  | [d1, d2] => { results := [.lit (.bool true)], args := [d1, d2] }
  | _ => none }
def ptextBackRow : OpenClaim := { program := "ytipapemcedkinaa", sum := "8dcab7112eec7444ff8873762bc05d63892e9d9336c040bdd699af96b9885789", func := "voussoir/voussoirlaw07.PtextBack", spec := "ptextBack", inPlace := ["internal/bytealg.IndexByteString", "internal/abi.NoEscape"], unfollowed := true, recurses := true, loops := true, apart := false }
def PtextBackSaid : Prop := ptextBackRow.holds Try.pinned (OpenSpec.ofChange ptextBackSpec)

/-- ITS FALSE NEIGHBOUR: 'it returns false'. Refute it at one input. -/
def ptextBackWrong : ChangeSpec := { name := "ptextBack", fn := fun _ => fun
  | [d1, d2] => { results := [.lit (.bool false)], args := [d1, d2] }
  | _ => none }
def PtextBackWrongFalsely : Prop := ptextBackRow.holds Try.pinned (OpenSpec.ofChange ptextBackWrong)

/-- 'voussoirlaw07.PtextPlace': WHATEVER THE INPUT: true; the input reads as it did. -/
def ptextPlaceSpec : ChangeSpec := { name := "ptextPlace", fn := fun _ => fun
  | [d1, d2] => { results := [.lit (.bool true)], args := [d1, d2] }
  | _ => none }
def ptextPlaceRow : OpenClaim := { program := "ytipapemcedkinaa", sum := "8dcab7112eec7444ff8873762bc05d63892e9d9336c040bdd699af96b9885789", func := "voussoir/voussoirlaw07.PtextPlace", spec := "ptextPlace", inPlace := ["internal/bytealg.IndexByteString", "internal/abi.NoEscape"], unfollowed := true, recurses := true, apart := false }
def PtextPlaceSaid : Prop := ptextPlaceRow.holds Try.pinned (OpenSpec.ofChange ptextPlaceSpec)

/-- ITS FALSE NEIGHBOUR: 'it returns false'. Refute it at one input. -/
def ptextPlaceWrong : ChangeSpec := { name := "ptextPlace", fn := fun _ => fun
  | [d1, d2] => { results := [.lit (.bool false)], args := [d1, d2] }
  | _ => none }
def PtextPlaceWrongFalsely : Prop := ptextPlaceRow.holds Try.pinned (OpenSpec.ofChange ptextPlaceWrong)

/- THE SECOND FORM. 'bulk': how many values and letters a reading holds, each counted each time it is reached (what is shared counts as often as it is met; a slice's spare places count too). A statement '..UptoSaid' is the law's where the arguments, and the package variables that the reading takes, are together of bulk at most 1048576: NARROWER than '..Said'. Prove '..Said' where nothing that the law and all that it calls make is longer than what came in: it says more and counts as full. Else prove '..UptoSaid'. A law counts once. -/
mutual
def uptoBulk {H : Type} : DataW H → Nat
  | .lit (.string bytes) => bytes.length + 1
  | .lit _ => 1
  | .nil => 1
  | .ptr d => uptoBulk d + 1
  | .slice elems spare => uptoBulkAll elems + uptoBulkAll spare + 1
  | .agg parts => uptoBulkAll parts + 1
  | .iface _ d => uptoBulk d + 1
  | .map entries => uptoBulkEntries entries + 1
  | .held _ => 1
def uptoBulkAll {H : Type} : List (DataW H) → Nat
  | [] => 0
  | d :: r => uptoBulk d + uptoBulkAll r
def uptoBulkEntries {H : Type} : List (Lit × DataW H) → Nat
  | [] => 0
  | x :: r => uptoBulkEntry x + uptoBulkEntries r
def uptoBulkEntry {H : Type} : Lit × DataW H → Nat
  | (.string bytes, d) => bytes.length + uptoBulk d + 1
  | (_, d) => uptoBulk d + 1
 end
def uptoSmall : (H : Type) → List (DataW H) → Bool := fun _ ds => decide (uptoBulkAll ds ≤ 1048576)
def OpenSpec.upto (s : _root_.Go.ChangeSpec) : _root_.Go.OpenSpec := { _root_.Go.OpenSpec.ofChange s with cond := some uptoSmall }

/-- 'voussoirlaw07.PtextReads', WHERE WHAT IT READS IS OF BULK AT MOST 1048576: true; the input reads as it did. -/
def ptextReadsUptoRow : OpenClaim := { program := "ytipapemcedkinaa", sum := "8dcab7112eec7444ff8873762bc05d63892e9d9336c040bdd699af96b9885789", func := "voussoir/voussoirlaw07.PtextReads", spec := "ptextReads", inPlace := ["internal/bytealg.IndexByteString", "internal/abi.NoEscape"], unfollowed := true, recurses := true, apart := false, narrowed := true }
def PtextReadsUptoSaid : Prop := ptextReadsUptoRow.holds Try.pinned (OpenSpec.upto ptextReadsSpec)

/-- 'voussoirlaw07.PtextShows', WHERE WHAT IT READS IS OF BULK AT MOST 1048576: true; the input reads as it did. -/
def ptextShowsUptoRow : OpenClaim := { program := "ytipapemcedkinaa", sum := "8dcab7112eec7444ff8873762bc05d63892e9d9336c040bdd699af96b9885789", func := "voussoir/voussoirlaw07.PtextShows", spec := "ptextShows", inPlace := ["internal/bytealg.IndexByteString", "internal/abi.NoEscape"], unfollowed := true, recurses := true, loops := true, apart := false, narrowed := true }
def PtextShowsUptoSaid : Prop := ptextShowsUptoRow.holds Try.pinned (OpenSpec.upto ptextShowsSpec)

/-- 'voussoirlaw07.PtextBack', WHERE WHAT IT READS IS OF BULK AT MOST 1048576: true; the input reads as it did. -/
def ptextBackUptoRow : OpenClaim := { program := "ytipapemcedkinaa", sum := "8dcab7112eec7444ff8873762bc05d63892e9d9336c040bdd699af96b9885789", func := "voussoir/voussoirlaw07.PtextBack", spec := "ptextBack", inPlace := ["internal/bytealg.IndexByteString", "internal/abi.NoEscape"], unfollowed := true, recurses := true, loops := true, apart := false, narrowed := true }
def PtextBackUptoSaid : Prop := ptextBackUptoRow.holds Try.pinned (OpenSpec.upto ptextBackSpec)

/-- 'voussoirlaw07.PtextPlace', WHERE WHAT IT READS IS OF BULK AT MOST 1048576: true; the input reads as it did. -/
def ptextPlaceUptoRow : OpenClaim := { program := "ytipapemcedkinaa", sum := "8dcab7112eec7444ff8873762bc05d63892e9d9336c040bdd699af96b9885789", func := "voussoir/voussoirlaw07.PtextPlace", spec := "ptextPlace", inPlace := ["internal/bytealg.IndexByteString", "internal/abi.NoEscape"], unfollowed := true, recurses := true, apart := false, narrowed := true }
def PtextPlaceUptoSaid : Prop := ptextPlaceUptoRow.holds Try.pinned (OpenSpec.upto ptextPlaceSpec)

end Rows
end Go.Proofs.Ytipapemcedkinaa
