/-
  DERIVED. GIVEN WITH THE SEED: THE CARDS: each row of YtepladakcepgdaaDoorRows.lean that lists a variable, with what it lists TIED to the program's text (the seventh form; the later family's looks); each row that meets fmt, with fmt's text TOLD by the authors' own Lean function (tested against real Go, not proved from fmt's source: count such statements apart). THE CARD IS WHAT COUNTS. Prove the row's statement (the work); the ties are given (YtepladakcepgdaaDoorTie.lean); close each card by the builder's one call (the guide's Derived/Test/ToyasCard.lean, 'card_holds'). Laid BY PROGRAM, IN A SANDBOX (cutbox-door.mjs). By AI agents, Wed Nov 11 2026. No macro, syntax, notation, axiom, sorry.
-/
import Derived.Test.YtepladakcepgdaaDoorRows
import GoSem.ClaimSeven
namespace Go.Proofs.YtepladakcepgdaaDoor
namespace Rows

/-- THE TIED CARD OF 'laws.FnTours'. -/
def fnToursCard : Claim7 := { stood := { row := fnToursRow, standIns := [], harness := (true, "98399e5069b3b2cd0ea8c5a6234c6d10f39ba7df8623f0222302a96d5110822a"), looks := true }, kinds := [], alts := [], laidByText := true, laidKinds := [.data, .data, .data, .sentinel, .sentinel], laidTests := true, laidLooks := .later }
def FnToursCardSaid : Prop := Claim7.holds Tryd.pinned (.plain (OpenSpec.ofChange fnToursSpec)) fnToursCard

/-- THE TIED CARD OF 'laws.FnExactFormatTour'. -/
def fnExactFormatTourCard : Claim7 := { stood := { row := fnExactFormatTourRow, standIns := [], harness := (true, "98399e5069b3b2cd0ea8c5a6234c6d10f39ba7df8623f0222302a96d5110822a"), looks := true }, kinds := [], alts := [], laidByText := true, laidKinds := [.data, .data, .data], laidTests := true, laidLooks := .later }
def FnExactFormatTourCardSaid : Prop := Claim7.holds Tryd.pinned (.plain (OpenSpec.ofChange fnExactFormatTourSpec)) fnExactFormatTourCard

/-- THE TIED CARD OF 'laws.FnExactParseTour'. -/
def fnExactParseTourCard : Claim7 := { stood := { row := fnExactParseTourRow, standIns := [], harness := (true, "98399e5069b3b2cd0ea8c5a6234c6d10f39ba7df8623f0222302a96d5110822a"), looks := true }, kinds := [], alts := [], laidByText := true, laidKinds := [.data, .data, .data, .sentinel, .sentinel], laidTests := true, laidLooks := .later }
def FnExactParseTourCardSaid : Prop := Claim7.holds Tryd.pinned (.plain (OpenSpec.ofChange fnExactParseTourSpec)) fnExactParseTourCard

/-- THE SECOND FORM's CARD OF 'laws.FnTours'. -/
def fnToursUptoCard : Claim7 := { stood := { row := fnToursUptoRow, standIns := [], harness := (true, "98399e5069b3b2cd0ea8c5a6234c6d10f39ba7df8623f0222302a96d5110822a"), looks := true }, kinds := [], alts := [], laidByText := true, laidKinds := [.data, .data, .data, .sentinel, .sentinel], laidTests := true, laidLooks := .later }
def FnToursUptoCardSaid : Prop := Claim7.holds Tryd.pinned (.plain (OpenSpec.upto fnToursSpec)) fnToursUptoCard

/-- THE SECOND FORM's CARD OF 'laws.FnExactFormatTour'. -/
def fnExactFormatTourUptoCard : Claim7 := { stood := { row := fnExactFormatTourUptoRow, standIns := [], harness := (true, "98399e5069b3b2cd0ea8c5a6234c6d10f39ba7df8623f0222302a96d5110822a"), looks := true }, kinds := [], alts := [], laidByText := true, laidKinds := [.data, .data, .data], laidTests := true, laidLooks := .later }
def FnExactFormatTourUptoCardSaid : Prop := Claim7.holds Tryd.pinned (.plain (OpenSpec.upto fnExactFormatTourSpec)) fnExactFormatTourUptoCard

/-- THE SECOND FORM's CARD OF 'laws.FnExactParseTour'. -/
def fnExactParseTourUptoCard : Claim7 := { stood := { row := fnExactParseTourUptoRow, standIns := [], harness := (true, "98399e5069b3b2cd0ea8c5a6234c6d10f39ba7df8623f0222302a96d5110822a"), looks := true }, kinds := [], alts := [], laidByText := true, laidKinds := [.data, .data, .data, .sentinel, .sentinel], laidTests := true, laidLooks := .later }
def FnExactParseTourUptoCardSaid : Prop := Claim7.holds Tryd.pinned (.plain (OpenSpec.upto fnExactParseTourSpec)) fnExactParseTourUptoCard
end Rows
end Go.Proofs.YtepladakcepgdaaDoor
