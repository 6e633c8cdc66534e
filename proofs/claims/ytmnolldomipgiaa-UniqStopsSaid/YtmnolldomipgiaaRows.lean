/-
  No cell of these rows narrows 'for every input' (looked for: loops, veiled, ifaces, maps, wideKeys, modest, calm, conditions, laid).
  DERIVED. THE GIVEN ROWS OF THIS SEAT. 3 by the template 'for every input the law returns true; each argument reads behind the call as it read before'; 0 by the template 'total and deterministic' (their statements: YtmnolldomipgiaaTotals.lean).
  GIVEN WITH THE SEED: the statements are not yours to turn. If you find one false, say at which input.
  Laid BY PROGRAM, IN A SANDBOX (cutbox-rows.mjs): the forced cells as the released guide's own fill.sh prints them over the translation d5432548c633de8c… (all of the seat's roots in one cut). By AI agents, Wed Nov 11 2026. No macro, syntax, notation, axiom, sorry.
-/
import Derived.Test.YtmnolldomipgiaaChecked
import GoSem.Claim
import GoSem.ClaimJoined
import GoSem.ClaimMapViews
import Derived.JoinedTies
import Derived.KernelRfl
namespace Go.Proofs.Ytmnolldomipgiaa
/- THE CELL 'sum', in the pinned program and in every row, IS THE sha256 OF THE DUMP (.gsa) THAT YtmnolldomipgiaaProg.lean LOADS. Nothing in Lean hashes anything: it is a label: what it is worth is what the hold of that sum in a sandbox is worth. -/
noncomputable def Try.pinned : Pinned := { name := "ytmnolldomipgiaa", sum := "d5432548c633de8cd29c546cfb3b6ff34344ccb2c579780fea5224f7c7d744c4", checked := Try.checked }
namespace Rows
def none {H : Type} : Left H := { results := [], args := [] }

/-- 'voussoirlaw10.UniqPlays': WHATEVER THE INPUT: true; the input reads as it did. -/
def uniqPlaysSpec : ChangeSpec := { name := "uniqPlays", fn := fun _ => fun
  | [d1, d2, d3] => { results := [.lit (.bool true)], args := [d1, d2, d3] }
  | _ => none }
def uniqPlaysRow : OpenClaim := { program := "ytmnolldomipgiaa", sum := "d5432548c633de8cd29c546cfb3b6ff34344ccb2c579780fea5224f7c7d744c4", func := "voussoir/voussoirlaw10.UniqPlays", spec := "uniqPlays", unfollowed := true, recurses := true, plainKeys := false, apart := false }
def UniqPlaysSaid : Prop := uniqPlaysRow.holds Try.pinned (OpenSpec.ofChange uniqPlaysSpec)

/-- ITS FALSE NEIGHBOUR: 'it returns false'. Refute it at one input. -/
def uniqPlaysWrong : ChangeSpec := { name := "uniqPlays", fn := fun _ => fun
  | [d1, d2, d3] => { results := [.lit (.bool false)], args := [d1, d2, d3] }
  | _ => none }
def UniqPlaysWrongFalsely : Prop := uniqPlaysRow.holds Try.pinned (OpenSpec.ofChange uniqPlaysWrong)

/-- 'voussoirlaw10.UniqStops': WHATEVER THE INPUT: true; the input reads as it did. -/
def uniqStopsSpec : ChangeSpec := { name := "uniqStops", fn := fun _ => fun
  | [d1, d2] => { results := [.lit (.bool true)], args := [d1, d2] }
  | _ => none }
def uniqStopsRow : OpenClaim := { program := "ytmnolldomipgiaa", sum := "d5432548c633de8cd29c546cfb3b6ff34344ccb2c579780fea5224f7c7d744c4", func := "voussoir/voussoirlaw10.UniqStops", spec := "uniqStops", unfollowed := true, recurses := true, plainKeys := false, apart := false }
def UniqStopsSaid : Prop := uniqStopsRow.holds Try.pinned (OpenSpec.ofChange uniqStopsSpec)

/-- ITS FALSE NEIGHBOUR: 'it returns false'. Refute it at one input. -/
def uniqStopsWrong : ChangeSpec := { name := "uniqStops", fn := fun _ => fun
  | [d1, d2] => { results := [.lit (.bool false)], args := [d1, d2] }
  | _ => none }
def UniqStopsWrongFalsely : Prop := uniqStopsRow.holds Try.pinned (OpenSpec.ofChange uniqStopsWrong)

/-- 'voussoirlaw10.UniqBack': WHATEVER THE INPUT: true; the input reads as it did. -/
def uniqBackSpec : ChangeSpec := { name := "uniqBack", fn := fun _ => fun
  | [d1, d2, d3, d4] => { results := [.lit (.bool true)], args := [d1, d2, d3, d4] }
  | _ => none }
def uniqBackRow : OpenClaim := { program := "ytmnolldomipgiaa", sum := "d5432548c633de8cd29c546cfb3b6ff34344ccb2c579780fea5224f7c7d744c4", func := "voussoir/voussoirlaw10.UniqBack", spec := "uniqBack", unfollowed := true, recurses := true, plainKeys := false, apart := false }
def UniqBackSaid : Prop := uniqBackRow.holds Try.pinned (OpenSpec.ofChange uniqBackSpec)

/-- ITS FALSE NEIGHBOUR: 'it returns false'. Refute it at one input. -/
def uniqBackWrong : ChangeSpec := { name := "uniqBack", fn := fun _ => fun
  | [d1, d2, d3, d4] => { results := [.lit (.bool false)], args := [d1, d2, d3, d4] }
  | _ => none }
def UniqBackWrongFalsely : Prop := uniqBackRow.holds Try.pinned (OpenSpec.ofChange uniqBackWrong)

/- THE SECOND FORM. 'bulk': how many values and letters a reading holds, each counted each time it is reached (what is shared counts as often as it is met; a slice's spare places count too). A statement '..UptoSaid' is the law's where the arguments, and the package variables that the reading takes, are together of bulk at most 1048576: NARROWER than '..Said'. Prove '..Said' where nothing that the law and all that it calls make is longer than what came in: it says more and counts as full. Else prove '..UptoSaid'. A law counts once. -/
mutual
def uptoBulk {H : Type} : DataW H → Nat
  | .lit (.string bytes) => bytes.length + 1
  | .lit _ => 1
  | .nil => 1
  | .ptr d => uptoBulk d + 1
  | .slice elems spare => uptoBulkAll elems + uptoBulkAll spare + 1
  | .agg parts => uptoBulkAll parts + 1
  | .iface _ d => uptoBulk d + 1
  | .map entries => uptoBulkEntries entries + 1
  | .held _ => 1
def uptoBulkAll {H : Type} : List (DataW H) → Nat
  | [] => 0
  | d :: r => uptoBulk d + uptoBulkAll r
def uptoBulkEntries {H : Type} : List (Lit × DataW H) → Nat
  | [] => 0
  | x :: r => uptoBulkEntry x + uptoBulkEntries r
def uptoBulkEntry {H : Type} : Lit × DataW H → Nat
  | (.string bytes, d) => bytes.length + uptoBulk d + 1
  | (_, d) => uptoBulk d + 1
 end
def uptoSmall : (H : Type) → List (DataW H) → Bool := fun _ ds => decide (uptoBulkAll ds ≤ 1048576)
def OpenSpec.upto (s : _root_.Go.ChangeSpec) : _root_.Go.OpenSpec := { _root_.Go.OpenSpec.ofChange s with cond := some uptoSmall }

/-- 'voussoirlaw10.UniqPlays', WHERE WHAT IT READS IS OF BULK AT MOST 1048576: true; the input reads as it did. -/
def uniqPlaysUptoRow : OpenClaim := { program := "ytmnolldomipgiaa", sum := "d5432548c633de8cd29c546cfb3b6ff34344ccb2c579780fea5224f7c7d744c4", func := "voussoir/voussoirlaw10.UniqPlays", spec := "uniqPlays", unfollowed := true, recurses := true, plainKeys := false, apart := false, narrowed := true }
def UniqPlaysUptoSaid : Prop := uniqPlaysUptoRow.holds Try.pinned (OpenSpec.upto uniqPlaysSpec)

/-- 'voussoirlaw10.UniqStops', WHERE WHAT IT READS IS OF BULK AT MOST 1048576: true; the input reads as it did. -/
def uniqStopsUptoRow : OpenClaim := { program := "ytmnolldomipgiaa", sum := "d5432548c633de8cd29c546cfb3b6ff34344ccb2c579780fea5224f7c7d744c4", func := "voussoir/voussoirlaw10.UniqStops", spec := "uniqStops", unfollowed := true, recurses := true, plainKeys := false, apart := false, narrowed := true }
def UniqStopsUptoSaid : Prop := uniqStopsUptoRow.holds Try.pinned (OpenSpec.upto uniqStopsSpec)

/-- 'voussoirlaw10.UniqBack', WHERE WHAT IT READS IS OF BULK AT MOST 1048576: true; the input reads as it did. -/
def uniqBackUptoRow : OpenClaim := { program := "ytmnolldomipgiaa", sum := "d5432548c633de8cd29c546cfb3b6ff34344ccb2c579780fea5224f7c7d744c4", func := "voussoir/voussoirlaw10.UniqBack", spec := "uniqBack", unfollowed := true, recurses := true, plainKeys := false, apart := false, narrowed := true }
def UniqBackUptoSaid : Prop := uniqBackUptoRow.holds Try.pinned (OpenSpec.upto uniqBackSpec)

end Rows
end Go.Proofs.Ytmnolldomipgiaa
