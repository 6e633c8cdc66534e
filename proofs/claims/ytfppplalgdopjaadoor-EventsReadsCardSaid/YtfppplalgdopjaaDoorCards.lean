/-
  DERIVED. GIVEN WITH THE SEED: THE CARDS: each row of YtfppplalgdopjaaDoorRows.lean that lists a variable, with what it lists TIED to the program's text (the seventh form; the later family's looks); each row that meets fmt, with fmt's text TOLD by the authors' own Lean function (tested against real Go, not proved from fmt's source: count such statements apart). THE CARD IS WHAT COUNTS. Prove the row's statement (the work); the ties are given (YtfppplalgdopjaaDoorTie.lean); close each card by the builder's one call (the guide's Derived/Test/ToyasCard.lean, 'card_holds'). Laid BY PROGRAM, IN A SANDBOX (cutbox-door.mjs). By AI agents, Wed Nov 11 2026. No macro, syntax, notation, axiom, sorry.
-/
import Derived.Test.YtfppplalgdopjaaDoorRows
import GoSem.ClaimSeven
namespace Go.Proofs.YtfppplalgdopjaaDoor
namespace Rows

/-- THE TIED CARD OF 'voussoirlaw28.EventsRight'. -/
def eventsRightCard : Claim7 := { stood := { row := eventsRightRow, standIns := [], harness := (true, "9a379ffde03ff4a2cc5acdb3db0acffab1f2113a056418d91f05d79c9fd666c7"), looks := false }, kinds := [], alts := [], laidByText := true, laidKinds := [.listed, .data, .data], laidTests := true, laidLooks := .later }
def EventsRightCardSaid : Prop := Claim7.holds Tryd.pinned (.plain (OpenSpec.ofChange eventsRightSpec)) eventsRightCard

/-- THE TIED CARD OF 'voussoirlaw28.EventsReads'. -/
def eventsReadsCard : Claim7 := { stood := { row := eventsReadsRow, standIns := [], harness := (true, "9a379ffde03ff4a2cc5acdb3db0acffab1f2113a056418d91f05d79c9fd666c7"), looks := false }, kinds := [], alts := [], laidByText := true, laidKinds := [.listed, .data, .data], laidTests := true, laidLooks := .later }
def EventsReadsCardSaid : Prop := Claim7.holds Tryd.pinned (.plain (OpenSpec.ofChange eventsReadsSpec)) eventsReadsCard

/-- THE TIED CARD OF 'voussoirlaw28.EventsSpread'. -/
def eventsSpreadCard : Claim7 := { stood := { row := eventsSpreadRow, standIns := [], harness := (true, "9a379ffde03ff4a2cc5acdb3db0acffab1f2113a056418d91f05d79c9fd666c7"), looks := false }, kinds := [], alts := [], laidByText := true, laidKinds := [.listed, .data, .data], laidTests := true, laidLooks := .later }
def EventsSpreadCardSaid : Prop := Claim7.holds Tryd.pinned (.plain (OpenSpec.ofChange eventsSpreadSpec)) eventsSpreadCard

/-- THE TIED CARD OF 'voussoirlaw28.EventsBack'. -/
def eventsBackCard : Claim7 := { stood := { row := eventsBackRow, standIns := [], harness := (true, "9a379ffde03ff4a2cc5acdb3db0acffab1f2113a056418d91f05d79c9fd666c7"), looks := false }, kinds := [], alts := [], laidByText := true, laidKinds := [.listed, .data, .data], laidTests := true, laidLooks := .later }
def EventsBackCardSaid : Prop := Claim7.holds Tryd.pinned (.plain (OpenSpec.ofChange eventsBackSpec)) eventsBackCard

/-- THE SECOND FORM's CARD OF 'voussoirlaw28.EventsRight'. -/
def eventsRightUptoCard : Claim7 := { stood := { row := eventsRightUptoRow, standIns := [], harness := (true, "9a379ffde03ff4a2cc5acdb3db0acffab1f2113a056418d91f05d79c9fd666c7"), looks := false }, kinds := [], alts := [], laidByText := true, laidKinds := [.listed, .data, .data], laidTests := true, laidLooks := .later }
def EventsRightUptoCardSaid : Prop := Claim7.holds Tryd.pinned (.plain (OpenSpec.upto eventsRightSpec)) eventsRightUptoCard

/-- THE SECOND FORM's CARD OF 'voussoirlaw28.EventsReads'. -/
def eventsReadsUptoCard : Claim7 := { stood := { row := eventsReadsUptoRow, standIns := [], harness := (true, "9a379ffde03ff4a2cc5acdb3db0acffab1f2113a056418d91f05d79c9fd666c7"), looks := false }, kinds := [], alts := [], laidByText := true, laidKinds := [.listed, .data, .data], laidTests := true, laidLooks := .later }
def EventsReadsUptoCardSaid : Prop := Claim7.holds Tryd.pinned (.plain (OpenSpec.upto eventsReadsSpec)) eventsReadsUptoCard

/-- THE SECOND FORM's CARD OF 'voussoirlaw28.EventsSpread'. -/
def eventsSpreadUptoCard : Claim7 := { stood := { row := eventsSpreadUptoRow, standIns := [], harness := (true, "9a379ffde03ff4a2cc5acdb3db0acffab1f2113a056418d91f05d79c9fd666c7"), looks := false }, kinds := [], alts := [], laidByText := true, laidKinds := [.listed, .data, .data], laidTests := true, laidLooks := .later }
def EventsSpreadUptoCardSaid : Prop := Claim7.holds Tryd.pinned (.plain (OpenSpec.upto eventsSpreadSpec)) eventsSpreadUptoCard

/-- THE SECOND FORM's CARD OF 'voussoirlaw28.EventsBack'. -/
def eventsBackUptoCard : Claim7 := { stood := { row := eventsBackUptoRow, standIns := [], harness := (true, "9a379ffde03ff4a2cc5acdb3db0acffab1f2113a056418d91f05d79c9fd666c7"), looks := false }, kinds := [], alts := [], laidByText := true, laidKinds := [.listed, .data, .data], laidTests := true, laidLooks := .later }
def EventsBackUptoCardSaid : Prop := Claim7.holds Tryd.pinned (.plain (OpenSpec.upto eventsBackSpec)) eventsBackUptoCard
end Rows
end Go.Proofs.YtfppplalgdopjaaDoor
