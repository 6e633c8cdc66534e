/-
  DERIVED. GIVEN WITH THE SEED: THE CARDS: each row of YtnmofkngengoeaaDoorRows.lean that lists a variable, with what it lists TIED to the program's text (the seventh form; the later family's looks); each row that meets fmt, with fmt's text TOLD by the authors' own Lean function (tested against real Go, not proved from fmt's source: count such statements apart). THE CARD IS WHAT COUNTS. Prove the row's statement (the work); the ties are given (YtnmofkngengoeaaDoorTie.lean); close each card by the builder's one call (the guide's Derived/Test/ToyasCard.lean, 'card_holds'). Laid BY PROGRAM, IN A SANDBOX (cutbox-door.mjs). By AI agents, Wed Nov 11 2026. No macro, syntax, notation, axiom, sorry.
-/
import Derived.Test.YtnmofkngengoeaaDoorRows
import GoSem.ClaimSeven
namespace Go.Proofs.YtnmofkngengoeaaDoor
namespace Rows

/-- THE TIED CARD OF 'voussoirlaw29.LexiNext'. -/
def lexiNextCard : Claim7 := { stood := { row := lexiNextRow, standIns := [], harness := (true, "fdb4496f9713d12e889dc8bfe9e84eaa4d911e7db9e2eb1c1db23b473e88c396"), looks := false }, kinds := [], alts := [], laidByText := true, laidKinds := [.data, .data], laidTests := true, laidLooks := .later }
def LexiNextCardSaid : Prop := Claim7.holds Tryd.pinned (.plain (OpenSpec.ofChange lexiNextSpec)) lexiNextCard

/-- THE TIED CARD OF 'voussoirlaw29.LexiAll'. -/
def lexiAllCard : Claim7 := { stood := { row := lexiAllRow, standIns := [], harness := (true, "fdb4496f9713d12e889dc8bfe9e84eaa4d911e7db9e2eb1c1db23b473e88c396"), looks := false }, kinds := [], alts := [], laidByText := true, laidKinds := [.data, .data], laidTests := true, laidLooks := .later }
def LexiAllCardSaid : Prop := Claim7.holds Tryd.pinned (.plain (OpenSpec.ofChange lexiAllSpec)) lexiAllCard

/-- THE TIED CARD OF 'voussoirlaw29.LexiNames'. -/
def lexiNamesCard : Claim7 := { stood := { row := lexiNamesRow, standIns := [], harness := (true, "fdb4496f9713d12e889dc8bfe9e84eaa4d911e7db9e2eb1c1db23b473e88c396"), looks := false }, kinds := [], alts := [], laidByText := true, laidKinds := [.data, .data], laidTests := true, laidLooks := .later }
def LexiNamesCardSaid : Prop := Claim7.holds Tryd.pinned (.plain (OpenSpec.ofChange lexiNamesSpec)) lexiNamesCard

/-- THE TIED CARD OF 'voussoirlaw29.LexiStands'. -/
def lexiStandsCard : Claim7 := { stood := { row := lexiStandsRow, standIns := [], harness := (true, "fdb4496f9713d12e889dc8bfe9e84eaa4d911e7db9e2eb1c1db23b473e88c396"), looks := false }, kinds := [], alts := [], laidByText := true, laidKinds := [.data, .data], laidTests := true, laidLooks := .later }
def LexiStandsCardSaid : Prop := Claim7.holds Tryd.pinned (.plain (OpenSpec.ofChange lexiStandsSpec)) lexiStandsCard

/-- THE TIED CARD OF 'voussoirlaw29.LexiBlanks'. -/
def lexiBlanksCard : Claim7 := { stood := { row := lexiBlanksRow, standIns := [], harness := (true, "fdb4496f9713d12e889dc8bfe9e84eaa4d911e7db9e2eb1c1db23b473e88c396"), looks := false }, kinds := [], alts := [], laidByText := true, laidKinds := [.data, .data], laidTests := true, laidLooks := .later }
def LexiBlanksCardSaid : Prop := Claim7.holds Tryd.pinned (.plain (OpenSpec.ofChange lexiBlanksSpec)) lexiBlanksCard

/-- THE SECOND FORM's CARD OF 'voussoirlaw29.LexiNext'. -/
def lexiNextUptoCard : Claim7 := { stood := { row := lexiNextUptoRow, standIns := [], harness := (true, "fdb4496f9713d12e889dc8bfe9e84eaa4d911e7db9e2eb1c1db23b473e88c396"), looks := false }, kinds := [], alts := [], laidByText := true, laidKinds := [.data, .data], laidTests := true, laidLooks := .later }
def LexiNextUptoCardSaid : Prop := Claim7.holds Tryd.pinned (.plain (OpenSpec.upto lexiNextSpec)) lexiNextUptoCard

/-- THE SECOND FORM's CARD OF 'voussoirlaw29.LexiAll'. -/
def lexiAllUptoCard : Claim7 := { stood := { row := lexiAllUptoRow, standIns := [], harness := (true, "fdb4496f9713d12e889dc8bfe9e84eaa4d911e7db9e2eb1c1db23b473e88c396"), looks := false }, kinds := [], alts := [], laidByText := true, laidKinds := [.data, .data], laidTests := true, laidLooks := .later }
def LexiAllUptoCardSaid : Prop := Claim7.holds Tryd.pinned (.plain (OpenSpec.upto lexiAllSpec)) lexiAllUptoCard

/-- THE SECOND FORM's CARD OF 'voussoirlaw29.LexiNames'. -/
def lexiNamesUptoCard : Claim7 := { stood := { row := lexiNamesUptoRow, standIns := [], harness := (true, "fdb4496f9713d12e889dc8bfe9e84eaa4d911e7db9e2eb1c1db23b473e88c396"), looks := false }, kinds := [], alts := [], laidByText := true, laidKinds := [.data, .data], laidTests := true, laidLooks := .later }
def LexiNamesUptoCardSaid : Prop := Claim7.holds Tryd.pinned (.plain (OpenSpec.upto lexiNamesSpec)) lexiNamesUptoCard

/-- THE SECOND FORM's CARD OF 'voussoirlaw29.LexiStands'. -/
def lexiStandsUptoCard : Claim7 := { stood := { row := lexiStandsUptoRow, standIns := [], harness := (true, "fdb4496f9713d12e889dc8bfe9e84eaa4d911e7db9e2eb1c1db23b473e88c396"), looks := false }, kinds := [], alts := [], laidByText := true, laidKinds := [.data, .data], laidTests := true, laidLooks := .later }
def LexiStandsUptoCardSaid : Prop := Claim7.holds Tryd.pinned (.plain (OpenSpec.upto lexiStandsSpec)) lexiStandsUptoCard

/-- THE SECOND FORM's CARD OF 'voussoirlaw29.LexiBlanks'. -/
def lexiBlanksUptoCard : Claim7 := { stood := { row := lexiBlanksUptoRow, standIns := [], harness := (true, "fdb4496f9713d12e889dc8bfe9e84eaa4d911e7db9e2eb1c1db23b473e88c396"), looks := false }, kinds := [], alts := [], laidByText := true, laidKinds := [.data, .data], laidTests := true, laidLooks := .later }
def LexiBlanksUptoCardSaid : Prop := Claim7.holds Tryd.pinned (.plain (OpenSpec.upto lexiBlanksSpec)) lexiBlanksUptoCard
end Rows
end Go.Proofs.YtnmofkngengoeaaDoor
