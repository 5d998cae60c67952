/-
  NARROWER THAN 'FOR EVERY INPUT', by the rows' own cells (each row's printed sentence says how): FnExactNameOfPart: laid · FnExactNameOf: laid · FnExactSizeByName: laid.
  DERIVED. THE GIVEN ROWS OF THIS SEAT. 3 by the template 'for every input the law returns true; each argument reads behind the call as it read before'; 0 by the template 'total and deterministic' (their statements: YtgpcacgafbhhdaaDoorTotals.lean).
  GIVEN WITH THE SEED: the statements are not yours to turn. If you find one false, say at which input.
  Laid BY PROGRAM, IN A SANDBOX (cutbox-rows.mjs): the forced cells as the released guide's own fill.sh prints them over the translation ba7acc67511fc5af… (all of the seat's roots in one cut). By AI agents, Wed Nov 11 2026. No macro, syntax, notation, axiom, sorry.
-/
import Derived.Test.YtgpcacgafbhhdaaDoorChecked
import GoSem.PinnedTables
import GoSem.Claim
import GoSem.ClaimJoined
import GoSem.ClaimMapViews
import Derived.JoinedTies
import Derived.KernelRfl
namespace Go.Proofs.YtgpcacgafbhhdaaDoor
/- THE CELL 'sum', in the pinned program and in every row, IS THE sha256 OF THE DUMP (.gsa) THAT YtgpcacgafbhhdaaDoorProg.lean LOADS. Nothing in Lean hashes anything: it is a label: what it is worth is what the hold of that sum in a sandbox is worth. -/
noncomputable def Tryd.pinned : Pinned := { name := "ytgpcacgafbhhdaadoor", sum := "ba7acc67511fc5afb23366c2d1180b1cde907f80e5de0680cb1fd768e30cc5a6", checked := Tryd.checked }
namespace Rows
def none {H : Type} : Left H := { results := [], args := [] }

/- WHAT THE LISTED PACKAGE-LEVEL VARIABLES READ AS WHEN THE CALL BEGINS. Each datum BY PROGRAM (the guide's laid-datum.mjs) off the statement by which the dump's own 'gosem.cut.vars' lays the variable. In a bare row this is a premise. The card (YtgpcacgafbhhdaaDoorCards.lean) ties it to the program's text. -/
def laid_loop_example_g02076_impl_partNames {H : Type} : DataW H := .agg [.lit (.string [65, 49]), .lit (.string [65, 50]), .lit (.string [65, 51]), .lit (.string [65, 52]), .lit (.string [66, 50]), .lit (.string [66, 51]), .lit (.string [66, 52]), .lit (.string [67, 51]), .lit (.string [67, 52]), .lit (.string [68, 52]), .lit (.string [70, 52]), .lit (.string [71, 50]), .lit (.string [65, 49, 126]), .lit (.string [65, 50, 126]), .lit (.string [65, 51, 126]), .lit (.string [67, 50, 126]), .lit (.string [71, 50, 126])]
def laid_unicode_utf8_acceptRanges {H : Type} : DataW H := .agg [.agg [.lit (.int .u8 128), .lit (.int .u8 191)], .agg [.lit (.int .u8 160), .lit (.int .u8 191)], .agg [.lit (.int .u8 128), .lit (.int .u8 159)], .agg [.lit (.int .u8 144), .lit (.int .u8 191)], .agg [.lit (.int .u8 128), .lit (.int .u8 143)], .agg [.lit (.int .u8 0), .lit (.int .u8 0)], .agg [.lit (.int .u8 0), .lit (.int .u8 0)], .agg [.lit (.int .u8 0), .lit (.int .u8 0)], .agg [.lit (.int .u8 0), .lit (.int .u8 0)], .agg [.lit (.int .u8 0), .lit (.int .u8 0)], .agg [.lit (.int .u8 0), .lit (.int .u8 0)], .agg [.lit (.int .u8 0), .lit (.int .u8 0)], .agg [.lit (.int .u8 0), .lit (.int .u8 0)], .agg [.lit (.int .u8 0), .lit (.int .u8 0)], .agg [.lit (.int .u8 0), .lit (.int .u8 0)], .agg [.lit (.int .u8 0), .lit (.int .u8 0)]]
/-- One of Go's own tables, pinned by name: the form's constant. -/
def laid_unicode_utf8_first : DataW Unit := Go.Pinned.utf8First

/-- 'laws.FnExactNameOfPart': WHATEVER THE INPUT: true; the input reads as it did. -/
def fnExactNameOfPartSpec : ChangeSpec := { name := "fnExactNameOfPart", vars := ["loop.example/g02076/impl.partNames"], fn := fun _ => fun
  | [d, g1] => { results := [.lit (.bool true)], args := [d], vars := [g1] }
  | _ => none }
def fnExactNameOfPartRow : OpenClaim := { program := "ytgpcacgafbhhdaadoor", sum := "ba7acc67511fc5afb23366c2d1180b1cde907f80e5de0680cb1fd768e30cc5a6", func := "loop.example/g02076/laws.FnExactNameOfPart", spec := "fnExactNameOfPart", unfollowed := true, recurses := true, named := ["loop.example/g02076/impl.partNames"], apart := false, laid := [("loop.example/g02076/impl.partNames", laid_loop_example_g02076_impl_partNames)] }
def FnExactNameOfPartSaid : Prop := fnExactNameOfPartRow.holds Tryd.pinned (OpenSpec.ofChange fnExactNameOfPartSpec)

/-- ITS FALSE NEIGHBOUR: 'it returns false'. Refute it at one input. -/
def fnExactNameOfPartWrong : ChangeSpec := { name := "fnExactNameOfPart", vars := ["loop.example/g02076/impl.partNames"], fn := fun _ => fun
  | [d, g1] => { results := [.lit (.bool false)], args := [d], vars := [g1] }
  | _ => none }
def FnExactNameOfPartWrongFalsely : Prop := fnExactNameOfPartRow.holds Tryd.pinned (OpenSpec.ofChange fnExactNameOfPartWrong)

/-- 'laws.FnExactNameOf': WHATEVER THE INPUT: true; the input reads as it did. -/
def fnExactNameOfSpec : ChangeSpec := { name := "fnExactNameOf", vars := ["loop.example/g02076/impl.partNames"], fn := fun _ => fun
  | [d, g1] => { results := [.lit (.bool true)], args := [d], vars := [g1] }
  | _ => none }
def fnExactNameOfRow : OpenClaim := { program := "ytgpcacgafbhhdaadoor", sum := "ba7acc67511fc5afb23366c2d1180b1cde907f80e5de0680cb1fd768e30cc5a6", func := "loop.example/g02076/laws.FnExactNameOf", spec := "fnExactNameOf", inPlace := ["internal/abi.NoEscape", "internal/bytealg.MakeNoZero"], unfollowed := true, recurses := true, named := ["loop.example/g02076/impl.partNames"], apart := false, laid := [("loop.example/g02076/impl.partNames", laid_loop_example_g02076_impl_partNames)] }
def FnExactNameOfSaid : Prop := fnExactNameOfRow.holds Tryd.pinned (OpenSpec.ofChange fnExactNameOfSpec)

/-- ITS FALSE NEIGHBOUR: 'it returns false'. Refute it at one input. -/
def fnExactNameOfWrong : ChangeSpec := { name := "fnExactNameOf", vars := ["loop.example/g02076/impl.partNames"], fn := fun _ => fun
  | [d, g1] => { results := [.lit (.bool false)], args := [d], vars := [g1] }
  | _ => none }
def FnExactNameOfWrongFalsely : Prop := fnExactNameOfRow.holds Tryd.pinned (OpenSpec.ofChange fnExactNameOfWrong)

/-- 'laws.FnExactSizeByName': WHATEVER THE INPUT: true; the input reads as it did. -/
def fnExactSizeByNameSpec : ChangeSpec := { name := "fnExactSizeByName", fn := fun _ => fun
  | [d] => { results := [.lit (.bool true)], args := [d] }
  | _ => none }
def fnExactSizeByNameRow : OpenClaim := { program := "ytgpcacgafbhhdaadoor", sum := "ba7acc67511fc5afb23366c2d1180b1cde907f80e5de0680cb1fd768e30cc5a6", func := "loop.example/g02076/laws.FnExactSizeByName", spec := "fnExactSizeByName", inPlace := ["internal/bytealg.CountString", "internal/bytealg.IndexByteString", "internal/bytealg.IndexString"], named := ["unicode/utf8.first", "unicode/utf8.acceptRanges", "internal/bytealg.MaxLen"], apart := false, laid := [("unicode/utf8.acceptRanges", laid_unicode_utf8_acceptRanges), ("unicode/utf8.first", laid_unicode_utf8_first)] }
def FnExactSizeByNameSaid : Prop := fnExactSizeByNameRow.holds Tryd.pinned (OpenSpec.ofChange fnExactSizeByNameSpec)

/-- ITS FALSE NEIGHBOUR: 'it returns false'. Refute it at one input. -/
def fnExactSizeByNameWrong : ChangeSpec := { name := "fnExactSizeByName", fn := fun _ => fun
  | [d] => { results := [.lit (.bool false)], args := [d] }
  | _ => none }
def FnExactSizeByNameWrongFalsely : Prop := fnExactSizeByNameRow.holds Tryd.pinned (OpenSpec.ofChange fnExactSizeByNameWrong)

/- THE SECOND FORM. 'bulk': how many values and letters a reading holds, each counted each time it is reached (what is shared counts as often as it is met; a slice's spare places count too). A statement '..UptoSaid' is the law's where the arguments, and the package variables that the reading takes, are together of bulk at most 1048576: NARROWER than '..Said'. Prove '..Said' where nothing that the law and all that it calls make is longer than what came in: it says more and counts as full. Else prove '..UptoSaid'. A law counts once. -/
mutual
def uptoBulk {H : Type} : DataW H → Nat
  | .lit (.string bytes) => bytes.length + 1
  | .lit _ => 1
  | .nil => 1
  | .ptr d => uptoBulk d + 1
  | .slice elems spare => uptoBulkAll elems + uptoBulkAll spare + 1
  | .agg parts => uptoBulkAll parts + 1
  | .iface _ d => uptoBulk d + 1
  | .map entries => uptoBulkEntries entries + 1
  | .held _ => 1
def uptoBulkAll {H : Type} : List (DataW H) → Nat
  | [] => 0
  | d :: r => uptoBulk d + uptoBulkAll r
def uptoBulkEntries {H : Type} : List (Lit × DataW H) → Nat
  | [] => 0
  | x :: r => uptoBulkEntry x + uptoBulkEntries r
def uptoBulkEntry {H : Type} : Lit × DataW H → Nat
  | (.string bytes, d) => bytes.length + uptoBulk d + 1
  | (_, d) => uptoBulk d + 1
 end
def uptoSmall : (H : Type) → List (DataW H) → Bool := fun _ ds => decide (uptoBulkAll ds ≤ 1048576)
def OpenSpec.upto (s : _root_.Go.ChangeSpec) : _root_.Go.OpenSpec := { _root_.Go.OpenSpec.ofChange s with cond := some uptoSmall }

/-- 'laws.FnExactNameOfPart', WHERE WHAT IT READS IS OF BULK AT MOST 1048576: true; the input reads as it did. -/
def fnExactNameOfPartUptoRow : OpenClaim := { program := "ytgpcacgafbhhdaadoor", sum := "ba7acc67511fc5afb23366c2d1180b1cde907f80e5de0680cb1fd768e30cc5a6", func := "loop.example/g02076/laws.FnExactNameOfPart", spec := "fnExactNameOfPart", unfollowed := true, recurses := true, named := ["loop.example/g02076/impl.partNames"], apart := false, laid := [("loop.example/g02076/impl.partNames", laid_loop_example_g02076_impl_partNames)], narrowed := true }
def FnExactNameOfPartUptoSaid : Prop := fnExactNameOfPartUptoRow.holds Tryd.pinned (OpenSpec.upto fnExactNameOfPartSpec)

/-- 'laws.FnExactNameOf', WHERE WHAT IT READS IS OF BULK AT MOST 1048576: true; the input reads as it did. -/
def fnExactNameOfUptoRow : OpenClaim := { program := "ytgpcacgafbhhdaadoor", sum := "ba7acc67511fc5afb23366c2d1180b1cde907f80e5de0680cb1fd768e30cc5a6", func := "loop.example/g02076/laws.FnExactNameOf", spec := "fnExactNameOf", inPlace := ["internal/abi.NoEscape", "internal/bytealg.MakeNoZero"], unfollowed := true, recurses := true, named := ["loop.example/g02076/impl.partNames"], apart := false, laid := [("loop.example/g02076/impl.partNames", laid_loop_example_g02076_impl_partNames)], narrowed := true }
def FnExactNameOfUptoSaid : Prop := fnExactNameOfUptoRow.holds Tryd.pinned (OpenSpec.upto fnExactNameOfSpec)

/-- 'laws.FnExactSizeByName', WHERE WHAT IT READS IS OF BULK AT MOST 1048576: true; the input reads as it did. -/
def fnExactSizeByNameUptoRow : OpenClaim := { program := "ytgpcacgafbhhdaadoor", sum := "ba7acc67511fc5afb23366c2d1180b1cde907f80e5de0680cb1fd768e30cc5a6", func := "loop.example/g02076/laws.FnExactSizeByName", spec := "fnExactSizeByName", inPlace := ["internal/bytealg.CountString", "internal/bytealg.IndexByteString", "internal/bytealg.IndexString"], named := ["unicode/utf8.first", "unicode/utf8.acceptRanges", "internal/bytealg.MaxLen"], apart := false, laid := [("unicode/utf8.acceptRanges", laid_unicode_utf8_acceptRanges), ("unicode/utf8.first", laid_unicode_utf8_first)], narrowed := true }
def FnExactSizeByNameUptoSaid : Prop := fnExactSizeByNameUptoRow.holds Tryd.pinned (OpenSpec.upto fnExactSizeByNameSpec)

end Rows
end Go.Proofs.YtgpcacgafbhhdaaDoor
