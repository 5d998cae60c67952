/-
  DERIVED. GIVEN WITH THE SEED: THE CARDS: each row of YtcmnkhblnlmfpaaGreatDoorRows.lean that lists a variable, with what it lists TIED to the program's text (the seventh form; the later family's looks); each row that meets fmt, with fmt's text TOLD by the authors' own Lean function (tested against real Go, not proved from fmt's source: count such statements apart). THE CARD IS WHAT COUNTS. Prove the row's statement (the work); the ties are given (YtcmnkhblnlmfpaaGreatDoorTie.lean); close each card by the builder's one call (the guide's Derived/Test/ToyasCard.lean, 'card_holds'). Laid BY PROGRAM, IN A SANDBOX (cutbox-door.mjs). By AI agents, Wed Nov 11 2026. No macro, syntax, notation, axiom, sorry.
-/
import Derived.Test.YtcmnkhblnlmfpaaGreatDoorRows
import GoSem.ClaimSeven
namespace Go.Proofs.YtcmnkhblnlmfpaaGreatDoor
namespace Rows

/-- THE TIED CARD OF 'laws.FnWeights'. -/
def fnWeightsCard : Claim7 := { stood := { row := fnWeightsRow, standIns := [], harness := (true, "16cc629c4dd4162861828888f83352a0841bfcca4aa625fb77b22232bbc25108"), looks := false }, kinds := [], alts := [], laidByText := true, laidKinds := [.data, .data, .data, .data, .pinned], laidTests := true, laidLooks := .later }
def FnWeightsCardSaid : Prop := Claim7.holds Tryz.pinned (.plain (OpenSpec.ofChange fnWeightsSpec)) fnWeightsCard

/-- THE TIED CARD OF 'laws.FnCartans'. -/
def fnCartansCard : Claim7 := { stood := { row := fnCartansRow, standIns := [], harness := (true, "16cc629c4dd4162861828888f83352a0841bfcca4aa625fb77b22232bbc25108"), looks := false }, kinds := [], alts := [], laidByText := true, laidKinds := [.data, .data, .data, .data, .data, .pinned], laidTests := true, laidLooks := .later }
def FnCartansCardSaid : Prop := Claim7.holds Tryz.pinned (.plain (OpenSpec.ofChange fnCartansSpec)) fnCartansCard

/-- THE SECOND FORM's CARD OF 'laws.FnWeights'. -/
def fnWeightsUptoCard : Claim7 := { stood := { row := fnWeightsUptoRow, standIns := [], harness := (true, "16cc629c4dd4162861828888f83352a0841bfcca4aa625fb77b22232bbc25108"), looks := false }, kinds := [], alts := [], laidByText := true, laidKinds := [.data, .data, .data, .data, .pinned], laidTests := true, laidLooks := .later }
def FnWeightsUptoCardSaid : Prop := Claim7.holds Tryz.pinned (.plain (OpenSpec.upto fnWeightsSpec)) fnWeightsUptoCard

/-- THE SECOND FORM's CARD OF 'laws.FnCartans'. -/
def fnCartansUptoCard : Claim7 := { stood := { row := fnCartansUptoRow, standIns := [], harness := (true, "16cc629c4dd4162861828888f83352a0841bfcca4aa625fb77b22232bbc25108"), looks := false }, kinds := [], alts := [], laidByText := true, laidKinds := [.data, .data, .data, .data, .data, .pinned], laidTests := true, laidLooks := .later }
def FnCartansUptoCardSaid : Prop := Claim7.holds Tryz.pinned (.plain (OpenSpec.upto fnCartansSpec)) fnCartansUptoCard
end Rows
end Go.Proofs.YtcmnkhblnlmfpaaGreatDoor
