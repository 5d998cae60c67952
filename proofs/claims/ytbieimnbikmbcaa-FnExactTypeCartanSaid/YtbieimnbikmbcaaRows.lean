/-
  No cell of these rows narrows 'for every input' (looked for: loops, veiled, ifaces, maps, wideKeys, modest, calm, conditions, laid).
  DERIVED. THE GIVEN ROWS OF THIS SEAT. 6 by the template 'for every input the law returns true; each argument reads behind the call as it read before'; 0 by the template 'total and deterministic' (their statements: YtbieimnbikmbcaaTotals.lean).
  GIVEN WITH THE SEED: the statements are not yours to turn. If you find one false, say at which input.
  Laid BY PROGRAM, IN A SANDBOX (cutbox-rows.mjs): the forced cells as the released guide's own fill.sh prints them over the translation a75ae1076ca2ce89… (all of the seat's roots in one cut). By AI agents, Wed Nov 11 2026. No macro, syntax, notation, axiom, sorry.
-/
import Derived.Test.YtbieimnbikmbcaaChecked
import GoSem.Claim
import GoSem.ClaimJoined
import GoSem.ClaimMapViews
import Derived.JoinedTies
import Derived.KernelRfl
namespace Go.Proofs.Ytbieimnbikmbcaa
/- THE CELL 'sum', in the pinned program and in every row, IS THE sha256 OF THE DUMP (.gsa) THAT YtbieimnbikmbcaaProg.lean LOADS. Nothing in Lean hashes anything: it is a label: what it is worth is what the hold of that sum in a sandbox is worth. -/
noncomputable def Try.pinned : Pinned := { name := "ytbieimnbikmbcaa", sum := "a75ae1076ca2ce890562a9ac28e5ace1518e640f3125de502dbe136d8bc14173", checked := Try.checked }
namespace Rows
def none {H : Type} : Left H := { results := [], args := [] }

/-- 'laws.FnExactIsCartan': WHATEVER THE INPUT: true; the input reads as it did. -/
def fnExactIsCartanSpec : ChangeSpec := { name := "fnExactIsCartan", fn := fun _ => fun
  | [d] => { results := [.lit (.bool true)], args := [d] }
  | _ => none }
def fnExactIsCartanRow : OpenClaim := { program := "ytbieimnbikmbcaa", sum := "a75ae1076ca2ce890562a9ac28e5ace1518e640f3125de502dbe136d8bc14173", func := "loop.example/g02076/laws.FnExactIsCartan", spec := "fnExactIsCartan", apart := false }
def FnExactIsCartanSaid : Prop := fnExactIsCartanRow.holds Try.pinned (OpenSpec.ofChange fnExactIsCartanSpec)

/-- ITS FALSE NEIGHBOUR: 'it returns false'. Refute it at one input. -/
def fnExactIsCartanWrong : ChangeSpec := { name := "fnExactIsCartan", fn := fun _ => fun
  | [d] => { results := [.lit (.bool false)], args := [d] }
  | _ => none }
def FnExactIsCartanWrongFalsely : Prop := fnExactIsCartanRow.holds Try.pinned (OpenSpec.ofChange fnExactIsCartanWrong)

/-- 'laws.FnExactBondOf': WHATEVER THE INPUT: true; the input reads as it did. -/
def fnExactBondOfSpec : ChangeSpec := { name := "fnExactBondOf", fn := fun _ => fun
  | [d1, d2, d3] => { results := [.lit (.bool true)], args := [d1, d2, d3] }
  | _ => none }
def fnExactBondOfRow : OpenClaim := { program := "ytbieimnbikmbcaa", sum := "a75ae1076ca2ce890562a9ac28e5ace1518e640f3125de502dbe136d8bc14173", func := "loop.example/g02076/laws.FnExactBondOf", spec := "fnExactBondOf", apart := false }
def FnExactBondOfSaid : Prop := fnExactBondOfRow.holds Try.pinned (OpenSpec.ofChange fnExactBondOfSpec)

/-- ITS FALSE NEIGHBOUR: 'it returns false'. Refute it at one input. -/
def fnExactBondOfWrong : ChangeSpec := { name := "fnExactBondOf", fn := fun _ => fun
  | [d1, d2, d3] => { results := [.lit (.bool false)], args := [d1, d2, d3] }
  | _ => none }
def FnExactBondOfWrongFalsely : Prop := fnExactBondOfRow.holds Try.pinned (OpenSpec.ofChange fnExactBondOfWrong)

/-- 'laws.FnExactTransposeCartan': WHATEVER THE INPUT: true; the input reads as it did. -/
def fnExactTransposeCartanSpec : ChangeSpec := { name := "fnExactTransposeCartan", fn := fun _ => fun
  | [d] => { results := [.lit (.bool true)], args := [d] }
  | _ => none }
def fnExactTransposeCartanRow : OpenClaim := { program := "ytbieimnbikmbcaa", sum := "a75ae1076ca2ce890562a9ac28e5ace1518e640f3125de502dbe136d8bc14173", func := "loop.example/g02076/laws.FnExactTransposeCartan", spec := "fnExactTransposeCartan", apart := false }
def FnExactTransposeCartanSaid : Prop := fnExactTransposeCartanRow.holds Try.pinned (OpenSpec.ofChange fnExactTransposeCartanSpec)

/-- ITS FALSE NEIGHBOUR: 'it returns false'. Refute it at one input. -/
def fnExactTransposeCartanWrong : ChangeSpec := { name := "fnExactTransposeCartan", fn := fun _ => fun
  | [d] => { results := [.lit (.bool false)], args := [d] }
  | _ => none }
def FnExactTransposeCartanWrongFalsely : Prop := fnExactTransposeCartanRow.holds Try.pinned (OpenSpec.ofChange fnExactTransposeCartanWrong)

/-- 'laws.FnExactTypeCartan': WHATEVER THE INPUT: true; the input reads as it did. -/
def fnExactTypeCartanSpec : ChangeSpec := { name := "fnExactTypeCartan", fn := fun _ => fun
  | [d] => { results := [.lit (.bool true)], args := [d] }
  | _ => none }
def fnExactTypeCartanRow : OpenClaim := { program := "ytbieimnbikmbcaa", sum := "a75ae1076ca2ce890562a9ac28e5ace1518e640f3125de502dbe136d8bc14173", func := "loop.example/g02076/laws.FnExactTypeCartan", spec := "fnExactTypeCartan", apart := false }
def FnExactTypeCartanSaid : Prop := fnExactTypeCartanRow.holds Try.pinned (OpenSpec.ofChange fnExactTypeCartanSpec)

/-- ITS FALSE NEIGHBOUR: 'it returns false'. Refute it at one input. -/
def fnExactTypeCartanWrong : ChangeSpec := { name := "fnExactTypeCartan", fn := fun _ => fun
  | [d] => { results := [.lit (.bool false)], args := [d] }
  | _ => none }
def FnExactTypeCartanWrongFalsely : Prop := fnExactTypeCartanRow.holds Try.pinned (OpenSpec.ofChange fnExactTypeCartanWrong)

/-- 'laws.FnExactJoinCartans': WHATEVER THE INPUT: true; the input reads as it did. -/
def fnExactJoinCartansSpec : ChangeSpec := { name := "fnExactJoinCartans", fn := fun _ => fun
  | [d1, d2] => { results := [.lit (.bool true)], args := [d1, d2] }
  | _ => none }
def fnExactJoinCartansRow : OpenClaim := { program := "ytbieimnbikmbcaa", sum := "a75ae1076ca2ce890562a9ac28e5ace1518e640f3125de502dbe136d8bc14173", func := "loop.example/g02076/laws.FnExactJoinCartans", spec := "fnExactJoinCartans", apart := false }
def FnExactJoinCartansSaid : Prop := fnExactJoinCartansRow.holds Try.pinned (OpenSpec.ofChange fnExactJoinCartansSpec)

/-- ITS FALSE NEIGHBOUR: 'it returns false'. Refute it at one input. -/
def fnExactJoinCartansWrong : ChangeSpec := { name := "fnExactJoinCartans", fn := fun _ => fun
  | [d1, d2] => { results := [.lit (.bool false)], args := [d1, d2] }
  | _ => none }
def FnExactJoinCartansWrongFalsely : Prop := fnExactJoinCartansRow.holds Try.pinned (OpenSpec.ofChange fnExactJoinCartansWrong)

/-- 'laws.FnExactEqualCartans': WHATEVER THE INPUT: true; the input reads as it did. -/
def fnExactEqualCartansSpec : ChangeSpec := { name := "fnExactEqualCartans", fn := fun _ => fun
  | [d1, d2] => { results := [.lit (.bool true)], args := [d1, d2] }
  | _ => none }
def fnExactEqualCartansRow : OpenClaim := { program := "ytbieimnbikmbcaa", sum := "a75ae1076ca2ce890562a9ac28e5ace1518e640f3125de502dbe136d8bc14173", func := "loop.example/g02076/laws.FnExactEqualCartans", spec := "fnExactEqualCartans", unfollowed := true, recurses := true, apart := false }
def FnExactEqualCartansSaid : Prop := fnExactEqualCartansRow.holds Try.pinned (OpenSpec.ofChange fnExactEqualCartansSpec)

/-- ITS FALSE NEIGHBOUR: 'it returns false'. Refute it at one input. -/
def fnExactEqualCartansWrong : ChangeSpec := { name := "fnExactEqualCartans", fn := fun _ => fun
  | [d1, d2] => { results := [.lit (.bool false)], args := [d1, d2] }
  | _ => none }
def FnExactEqualCartansWrongFalsely : Prop := fnExactEqualCartansRow.holds Try.pinned (OpenSpec.ofChange fnExactEqualCartansWrong)

/- THE SECOND FORM. 'bulk': how many values and letters a reading holds, each counted each time it is reached (what is shared counts as often as it is met; a slice's spare places count too). A statement '..UptoSaid' is the law's where the arguments, and the package variables that the reading takes, are together of bulk at most 1048576: NARROWER than '..Said'. Prove '..Said' where nothing that the law and all that it calls make is longer than what came in: it says more and counts as full. Else prove '..UptoSaid'. A law counts once. -/
mutual
def uptoBulk {H : Type} : DataW H → Nat
  | .lit (.string bytes) => bytes.length + 1
  | .lit _ => 1
  | .nil => 1
  | .ptr d => uptoBulk d + 1
  | .slice elems spare => uptoBulkAll elems + uptoBulkAll spare + 1
  | .agg parts => uptoBulkAll parts + 1
  | .iface _ d => uptoBulk d + 1
  | .map entries => uptoBulkEntries entries + 1
  | .held _ => 1
def uptoBulkAll {H : Type} : List (DataW H) → Nat
  | [] => 0
  | d :: r => uptoBulk d + uptoBulkAll r
def uptoBulkEntries {H : Type} : List (Lit × DataW H) → Nat
  | [] => 0
  | x :: r => uptoBulkEntry x + uptoBulkEntries r
def uptoBulkEntry {H : Type} : Lit × DataW H → Nat
  | (.string bytes, d) => bytes.length + uptoBulk d + 1
  | (_, d) => uptoBulk d + 1
 end
def uptoSmall : (H : Type) → List (DataW H) → Bool := fun _ ds => decide (uptoBulkAll ds ≤ 1048576)
def OpenSpec.upto (s : _root_.Go.ChangeSpec) : _root_.Go.OpenSpec := { _root_.Go.OpenSpec.ofChange s with cond := some uptoSmall }

/-- 'laws.FnExactIsCartan', WHERE WHAT IT READS IS OF BULK AT MOST 1048576: true; the input reads as it did. -/
def fnExactIsCartanUptoRow : OpenClaim := { program := "ytbieimnbikmbcaa", sum := "a75ae1076ca2ce890562a9ac28e5ace1518e640f3125de502dbe136d8bc14173", func := "loop.example/g02076/laws.FnExactIsCartan", spec := "fnExactIsCartan", apart := false, narrowed := true }
def FnExactIsCartanUptoSaid : Prop := fnExactIsCartanUptoRow.holds Try.pinned (OpenSpec.upto fnExactIsCartanSpec)

/-- 'laws.FnExactBondOf', WHERE WHAT IT READS IS OF BULK AT MOST 1048576: true; the input reads as it did. -/
def fnExactBondOfUptoRow : OpenClaim := { program := "ytbieimnbikmbcaa", sum := "a75ae1076ca2ce890562a9ac28e5ace1518e640f3125de502dbe136d8bc14173", func := "loop.example/g02076/laws.FnExactBondOf", spec := "fnExactBondOf", apart := false, narrowed := true }
def FnExactBondOfUptoSaid : Prop := fnExactBondOfUptoRow.holds Try.pinned (OpenSpec.upto fnExactBondOfSpec)

/-- 'laws.FnExactTransposeCartan', WHERE WHAT IT READS IS OF BULK AT MOST 1048576: true; the input reads as it did. -/
def fnExactTransposeCartanUptoRow : OpenClaim := { program := "ytbieimnbikmbcaa", sum := "a75ae1076ca2ce890562a9ac28e5ace1518e640f3125de502dbe136d8bc14173", func := "loop.example/g02076/laws.FnExactTransposeCartan", spec := "fnExactTransposeCartan", apart := false, narrowed := true }
def FnExactTransposeCartanUptoSaid : Prop := fnExactTransposeCartanUptoRow.holds Try.pinned (OpenSpec.upto fnExactTransposeCartanSpec)

/-- 'laws.FnExactTypeCartan', WHERE WHAT IT READS IS OF BULK AT MOST 1048576: true; the input reads as it did. -/
def fnExactTypeCartanUptoRow : OpenClaim := { program := "ytbieimnbikmbcaa", sum := "a75ae1076ca2ce890562a9ac28e5ace1518e640f3125de502dbe136d8bc14173", func := "loop.example/g02076/laws.FnExactTypeCartan", spec := "fnExactTypeCartan", apart := false, narrowed := true }
def FnExactTypeCartanUptoSaid : Prop := fnExactTypeCartanUptoRow.holds Try.pinned (OpenSpec.upto fnExactTypeCartanSpec)

/-- 'laws.FnExactJoinCartans', WHERE WHAT IT READS IS OF BULK AT MOST 1048576: true; the input reads as it did. -/
def fnExactJoinCartansUptoRow : OpenClaim := { program := "ytbieimnbikmbcaa", sum := "a75ae1076ca2ce890562a9ac28e5ace1518e640f3125de502dbe136d8bc14173", func := "loop.example/g02076/laws.FnExactJoinCartans", spec := "fnExactJoinCartans", apart := false, narrowed := true }
def FnExactJoinCartansUptoSaid : Prop := fnExactJoinCartansUptoRow.holds Try.pinned (OpenSpec.upto fnExactJoinCartansSpec)

/-- 'laws.FnExactEqualCartans', WHERE WHAT IT READS IS OF BULK AT MOST 1048576: true; the input reads as it did. -/
def fnExactEqualCartansUptoRow : OpenClaim := { program := "ytbieimnbikmbcaa", sum := "a75ae1076ca2ce890562a9ac28e5ace1518e640f3125de502dbe136d8bc14173", func := "loop.example/g02076/laws.FnExactEqualCartans", spec := "fnExactEqualCartans", unfollowed := true, recurses := true, apart := false, narrowed := true }
def FnExactEqualCartansUptoSaid : Prop := fnExactEqualCartansUptoRow.holds Try.pinned (OpenSpec.upto fnExactEqualCartansSpec)

end Rows
end Go.Proofs.Ytbieimnbikmbcaa
