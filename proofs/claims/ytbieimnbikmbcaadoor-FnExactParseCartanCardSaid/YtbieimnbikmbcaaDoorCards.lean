/-
  DERIVED. GIVEN WITH THE SEED: THE CARDS: each row of YtbieimnbikmbcaaDoorRows.lean that lists a variable, with what it lists TIED to the program's text (the seventh form; the later family's looks); each row that meets fmt, with fmt's text TOLD by the authors' own Lean function (tested against real Go, not proved from fmt's source: count such statements apart). THE CARD IS WHAT COUNTS. Prove the row's statement (the work); the ties are given (YtbieimnbikmbcaaDoorTie.lean); close each card by the builder's one call (the guide's Derived/Test/ToyasCard.lean, 'card_holds'). Laid BY PROGRAM, IN A SANDBOX (cutbox-door.mjs). By AI agents, Wed Nov 11 2026. No macro, syntax, notation, axiom, sorry.
-/
import Derived.Test.YtbieimnbikmbcaaDoorRows
import GoSem.ClaimSeven
namespace Go.Proofs.YtbieimnbikmbcaaDoor
namespace Rows

/-- THE TIED CARD OF 'laws.FnExactFormatCartan'. -/
def fnExactFormatCartanCard : Claim7 := { stood := { row := fnExactFormatCartanRow, standIns := [], harness := (true, "8adf3ea908ab895e8b2c9e6ad26276ffc83d0475a856d4b7f12d18804ea9106d"), looks := false }, kinds := [], alts := [], laidByText := true, laidKinds := [.data, .data, .data], laidTests := true, laidLooks := .later }
def FnExactFormatCartanCardSaid : Prop := Claim7.holds Tryd.pinned (.plain (OpenSpec.ofChange fnExactFormatCartanSpec)) fnExactFormatCartanCard

/-- THE TIED CARD OF 'laws.FnExactParseCartan'. -/
def fnExactParseCartanCard : Claim7 := { stood := { row := fnExactParseCartanRow, standIns := [], harness := (true, "8adf3ea908ab895e8b2c9e6ad26276ffc83d0475a856d4b7f12d18804ea9106d"), looks := false }, kinds := [], alts := [], laidByText := true, laidKinds := [.data, .data, .data, .data, .pinned], laidTests := true, laidLooks := .later }
def FnExactParseCartanCardSaid : Prop := Claim7.holds Tryd.pinned (.plain (OpenSpec.ofChange fnExactParseCartanSpec)) fnExactParseCartanCard

/-- THE SECOND FORM's CARD OF 'laws.FnExactFormatCartan'. -/
def fnExactFormatCartanUptoCard : Claim7 := { stood := { row := fnExactFormatCartanUptoRow, standIns := [], harness := (true, "8adf3ea908ab895e8b2c9e6ad26276ffc83d0475a856d4b7f12d18804ea9106d"), looks := false }, kinds := [], alts := [], laidByText := true, laidKinds := [.data, .data, .data], laidTests := true, laidLooks := .later }
def FnExactFormatCartanUptoCardSaid : Prop := Claim7.holds Tryd.pinned (.plain (OpenSpec.upto fnExactFormatCartanSpec)) fnExactFormatCartanUptoCard

/-- THE SECOND FORM's CARD OF 'laws.FnExactParseCartan'. -/
def fnExactParseCartanUptoCard : Claim7 := { stood := { row := fnExactParseCartanUptoRow, standIns := [], harness := (true, "8adf3ea908ab895e8b2c9e6ad26276ffc83d0475a856d4b7f12d18804ea9106d"), looks := false }, kinds := [], alts := [], laidByText := true, laidKinds := [.data, .data, .data, .data, .pinned], laidTests := true, laidLooks := .later }
def FnExactParseCartanUptoCardSaid : Prop := Claim7.holds Tryd.pinned (.plain (OpenSpec.upto fnExactParseCartanSpec)) fnExactParseCartanUptoCard
end Rows
end Go.Proofs.YtbieimnbikmbcaaDoor
