/-
  DERIVED. GIVEN WITH THE SEED: THE CARDS: each row of YtgpcacgafbhhdaaDoorRows.lean that lists a variable, with what it lists TIED to the program's text (the seventh form; the later family's looks); each row that meets fmt, with fmt's text TOLD by the authors' own Lean function (tested against real Go, not proved from fmt's source: count such statements apart). THE CARD IS WHAT COUNTS. Prove the row's statement (the work); the ties are given (YtgpcacgafbhhdaaDoorTie.lean); close each card by the builder's one call (the guide's Derived/Test/ToyasCard.lean, 'card_holds'). Laid BY PROGRAM, IN A SANDBOX (cutbox-door.mjs). By AI agents, Wed Nov 11 2026. No macro, syntax, notation, axiom, sorry.
-/
import Derived.Test.YtgpcacgafbhhdaaDoorRows
import GoSem.ClaimSeven
namespace Go.Proofs.YtgpcacgafbhhdaaDoor
namespace Rows

/-- THE TIED CARD OF 'laws.FnExactNameOfPart'. -/
def fnExactNameOfPartCard : Claim7 := { stood := { row := fnExactNameOfPartRow, standIns := [], harness := (true, "054a84c22143dbe8cf556f7f80e6ec521b1535cca7146d3f2b82b4650791e7b7"), looks := false }, kinds := [], alts := [], laidByText := true, laidKinds := [.data], laidTests := true, laidLooks := .later }
def FnExactNameOfPartCardSaid : Prop := Claim7.holds Tryd.pinned (.plain (OpenSpec.ofChange fnExactNameOfPartSpec)) fnExactNameOfPartCard

/-- THE TIED CARD OF 'laws.FnExactNameOf'. -/
def fnExactNameOfCard : Claim7 := { stood := { row := fnExactNameOfRow, standIns := [], harness := (true, "054a84c22143dbe8cf556f7f80e6ec521b1535cca7146d3f2b82b4650791e7b7"), looks := false }, kinds := [], alts := [], laidByText := true, laidKinds := [.data], laidTests := true, laidLooks := .later }
def FnExactNameOfCardSaid : Prop := Claim7.holds Tryd.pinned (.plain (OpenSpec.ofChange fnExactNameOfSpec)) fnExactNameOfCard

/-- THE TIED CARD OF 'laws.FnExactSizeByName'. -/
def fnExactSizeByNameCard : Claim7 := { stood := { row := fnExactSizeByNameRow, standIns := [], harness := (true, "054a84c22143dbe8cf556f7f80e6ec521b1535cca7146d3f2b82b4650791e7b7"), looks := false }, kinds := [], alts := [], laidByText := true, laidKinds := [.data, .pinned], laidTests := true, laidLooks := .later }
def FnExactSizeByNameCardSaid : Prop := Claim7.holds Tryd.pinned (.plain (OpenSpec.ofChange fnExactSizeByNameSpec)) fnExactSizeByNameCard

/-- THE SECOND FORM's CARD OF 'laws.FnExactNameOfPart'. -/
def fnExactNameOfPartUptoCard : Claim7 := { stood := { row := fnExactNameOfPartUptoRow, standIns := [], harness := (true, "054a84c22143dbe8cf556f7f80e6ec521b1535cca7146d3f2b82b4650791e7b7"), looks := false }, kinds := [], alts := [], laidByText := true, laidKinds := [.data], laidTests := true, laidLooks := .later }
def FnExactNameOfPartUptoCardSaid : Prop := Claim7.holds Tryd.pinned (.plain (OpenSpec.upto fnExactNameOfPartSpec)) fnExactNameOfPartUptoCard

/-- THE SECOND FORM's CARD OF 'laws.FnExactNameOf'. -/
def fnExactNameOfUptoCard : Claim7 := { stood := { row := fnExactNameOfUptoRow, standIns := [], harness := (true, "054a84c22143dbe8cf556f7f80e6ec521b1535cca7146d3f2b82b4650791e7b7"), looks := false }, kinds := [], alts := [], laidByText := true, laidKinds := [.data], laidTests := true, laidLooks := .later }
def FnExactNameOfUptoCardSaid : Prop := Claim7.holds Tryd.pinned (.plain (OpenSpec.upto fnExactNameOfSpec)) fnExactNameOfUptoCard

/-- THE SECOND FORM's CARD OF 'laws.FnExactSizeByName'. -/
def fnExactSizeByNameUptoCard : Claim7 := { stood := { row := fnExactSizeByNameUptoRow, standIns := [], harness := (true, "054a84c22143dbe8cf556f7f80e6ec521b1535cca7146d3f2b82b4650791e7b7"), looks := false }, kinds := [], alts := [], laidByText := true, laidKinds := [.data, .pinned], laidTests := true, laidLooks := .later }
def FnExactSizeByNameUptoCardSaid : Prop := Claim7.holds Tryd.pinned (.plain (OpenSpec.upto fnExactSizeByNameSpec)) fnExactSizeByNameUptoCard
end Rows
end Go.Proofs.YtgpcacgafbhhdaaDoor
