/-
  DERIVED. GIVEN WITH THE SEED: THE CARDS: each row of YtcmnkhblnlmfpaaDoorRows.lean that lists a variable, with what it lists TIED to the program's text (the seventh form; the later family's looks); each row that meets fmt, with fmt's text TOLD by the authors' own Lean function (tested against real Go, not proved from fmt's source: count such statements apart). THE CARD IS WHAT COUNTS. Prove the row's statement (the work); the ties are given (YtcmnkhblnlmfpaaDoorTie.lean); close each card by the builder's one call (the guide's Derived/Test/ToyasCard.lean, 'card_holds'). Laid BY PROGRAM, IN A SANDBOX (cutbox-door.mjs). By AI agents, Wed Nov 11 2026. No macro, syntax, notation, axiom, sorry.
-/
import Derived.Test.YtcmnkhblnlmfpaaDoorRows
import GoSem.ClaimSeven
namespace Go.Proofs.YtcmnkhblnlmfpaaDoor
namespace Rows

/-- THE TIED CARD OF 'laws.FnExactFormatWeight'. -/
def fnExactFormatWeightCard : Claim7 := { stood := { row := fnExactFormatWeightRow, standIns := [], harness := (true, "7ebd9d869fb632e91948077b02e3219a1075dfab94a394eca92f753889a99ceb"), looks := false }, kinds := [], alts := [], laidByText := true, laidKinds := [.data, .data, .data], laidTests := true, laidLooks := .later }
def FnExactFormatWeightCardSaid : Prop := Claim7.holds Tryd.pinned (.plain (OpenSpec.ofChange fnExactFormatWeightSpec)) fnExactFormatWeightCard

/-- THE TIED CARD OF 'laws.FnExactParseWeight'. -/
def fnExactParseWeightCard : Claim7 := { stood := { row := fnExactParseWeightRow, standIns := [], harness := (true, "7ebd9d869fb632e91948077b02e3219a1075dfab94a394eca92f753889a99ceb"), looks := false }, kinds := [], alts := [], laidByText := true, laidKinds := [.data, .data, .data, .data, .pinned], laidTests := true, laidLooks := .later }
def FnExactParseWeightCardSaid : Prop := Claim7.holds Tryd.pinned (.plain (OpenSpec.ofChange fnExactParseWeightSpec)) fnExactParseWeightCard

/-- THE TIED CARD OF 'laws.FnExactFormatCartan'. -/
def fnExactFormatCartanCard : Claim7 := { stood := { row := fnExactFormatCartanRow, standIns := [], harness := (true, "7ebd9d869fb632e91948077b02e3219a1075dfab94a394eca92f753889a99ceb"), looks := false }, kinds := [], alts := [], laidByText := true, laidKinds := [.data, .data, .data], laidTests := true, laidLooks := .later }
def FnExactFormatCartanCardSaid : Prop := Claim7.holds Tryd.pinned (.plain (OpenSpec.ofChange fnExactFormatCartanSpec)) fnExactFormatCartanCard

/-- THE TIED CARD OF 'laws.FnExactParseCartan'. -/
def fnExactParseCartanCard : Claim7 := { stood := { row := fnExactParseCartanRow, standIns := [], harness := (true, "7ebd9d869fb632e91948077b02e3219a1075dfab94a394eca92f753889a99ceb"), looks := false }, kinds := [], alts := [], laidByText := true, laidKinds := [.data, .data, .data, .data, .pinned], laidTests := true, laidLooks := .later }
def FnExactParseCartanCardSaid : Prop := Claim7.holds Tryd.pinned (.plain (OpenSpec.ofChange fnExactParseCartanSpec)) fnExactParseCartanCard

/-- THE SECOND FORM's CARD OF 'laws.FnExactFormatWeight'. -/
def fnExactFormatWeightUptoCard : Claim7 := { stood := { row := fnExactFormatWeightUptoRow, standIns := [], harness := (true, "7ebd9d869fb632e91948077b02e3219a1075dfab94a394eca92f753889a99ceb"), looks := false }, kinds := [], alts := [], laidByText := true, laidKinds := [.data, .data, .data], laidTests := true, laidLooks := .later }
def FnExactFormatWeightUptoCardSaid : Prop := Claim7.holds Tryd.pinned (.plain (OpenSpec.upto fnExactFormatWeightSpec)) fnExactFormatWeightUptoCard

/-- THE SECOND FORM's CARD OF 'laws.FnExactParseWeight'. -/
def fnExactParseWeightUptoCard : Claim7 := { stood := { row := fnExactParseWeightUptoRow, standIns := [], harness := (true, "7ebd9d869fb632e91948077b02e3219a1075dfab94a394eca92f753889a99ceb"), looks := false }, kinds := [], alts := [], laidByText := true, laidKinds := [.data, .data, .data, .data, .pinned], laidTests := true, laidLooks := .later }
def FnExactParseWeightUptoCardSaid : Prop := Claim7.holds Tryd.pinned (.plain (OpenSpec.upto fnExactParseWeightSpec)) fnExactParseWeightUptoCard

/-- THE SECOND FORM's CARD OF 'laws.FnExactFormatCartan'. -/
def fnExactFormatCartanUptoCard : Claim7 := { stood := { row := fnExactFormatCartanUptoRow, standIns := [], harness := (true, "7ebd9d869fb632e91948077b02e3219a1075dfab94a394eca92f753889a99ceb"), looks := false }, kinds := [], alts := [], laidByText := true, laidKinds := [.data, .data, .data], laidTests := true, laidLooks := .later }
def FnExactFormatCartanUptoCardSaid : Prop := Claim7.holds Tryd.pinned (.plain (OpenSpec.upto fnExactFormatCartanSpec)) fnExactFormatCartanUptoCard

/-- THE SECOND FORM's CARD OF 'laws.FnExactParseCartan'. -/
def fnExactParseCartanUptoCard : Claim7 := { stood := { row := fnExactParseCartanUptoRow, standIns := [], harness := (true, "7ebd9d869fb632e91948077b02e3219a1075dfab94a394eca92f753889a99ceb"), looks := false }, kinds := [], alts := [], laidByText := true, laidKinds := [.data, .data, .data, .data, .pinned], laidTests := true, laidLooks := .later }
def FnExactParseCartanUptoCardSaid : Prop := Claim7.holds Tryd.pinned (.plain (OpenSpec.upto fnExactParseCartanSpec)) fnExactParseCartanUptoCard
end Rows
end Go.Proofs.YtcmnkhblnlmfpaaDoor
