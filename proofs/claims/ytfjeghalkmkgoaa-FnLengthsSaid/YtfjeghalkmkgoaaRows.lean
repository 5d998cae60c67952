/-
  No cell of these rows narrows 'for every input' (looked for: loops, veiled, ifaces, maps, wideKeys, modest, calm, conditions, laid).
  DERIVED. THE GIVEN ROWS OF THIS SEAT. 11 by the template 'for every input the law returns true; each argument reads behind the call as it read before'; 0 by the template 'total and deterministic' (their statements: YtfjeghalkmkgoaaTotals.lean).
  GIVEN WITH THE SEED: the statements are not yours to turn. If you find one false, say at which input.
  Laid BY PROGRAM, IN A SANDBOX (cutbox-rows.mjs): the forced cells as the released guide's own fill.sh prints them over the translation d1fb528a622bb520… (all of the seat's roots in one cut). By AI agents, Wed Nov 11 2026. No macro, syntax, notation, axiom, sorry.
-/
import Derived.Test.YtfjeghalkmkgoaaChecked
import GoSem.Claim
import GoSem.ClaimJoined
import GoSem.ClaimMapViews
import Derived.JoinedTies
import Derived.KernelRfl
namespace Go.Proofs.Ytfjeghalkmkgoaa
/- THE CELL 'sum', in the pinned program and in every row, IS THE sha256 OF THE DUMP (.gsa) THAT YtfjeghalkmkgoaaProg.lean LOADS. Nothing in Lean hashes anything: it is a label: what it is worth is what the hold of that sum in a sandbox is worth. -/
noncomputable def Try.pinned : Pinned := { name := "ytfjeghalkmkgoaa", sum := "d1fb528a622bb5203580b4707b33dd2356fd58600647870999553109e9a870d1", checked := Try.checked }
namespace Rows
def none {H : Type} : Left H := { results := [], args := [] }

/-- 'laws.FnExactLengthOf': WHATEVER THE INPUT: true; the input reads as it did. -/
def fnExactLengthOfSpec : ChangeSpec := { name := "fnExactLengthOf", fn := fun _ => fun
  | [d1, d2] => { results := [.lit (.bool true)], args := [d1, d2] }
  | _ => none }
def fnExactLengthOfRow : OpenClaim := { program := "ytfjeghalkmkgoaa", sum := "d1fb528a622bb5203580b4707b33dd2356fd58600647870999553109e9a870d1", func := "loop.example/g02076/laws.FnExactLengthOf", spec := "fnExactLengthOf", unfollowed := true, recurses := true, apart := false }
def FnExactLengthOfSaid : Prop := fnExactLengthOfRow.holds Try.pinned (OpenSpec.ofChange fnExactLengthOfSpec)

/-- ITS FALSE NEIGHBOUR: 'it returns false'. Refute it at one input. -/
def fnExactLengthOfWrong : ChangeSpec := { name := "fnExactLengthOf", fn := fun _ => fun
  | [d1, d2] => { results := [.lit (.bool false)], args := [d1, d2] }
  | _ => none }
def FnExactLengthOfWrongFalsely : Prop := fnExactLengthOfRow.holds Try.pinned (OpenSpec.ofChange fnExactLengthOfWrong)

/-- 'laws.FnExactNormalForm': WHATEVER THE INPUT: true; the input reads as it did. -/
def fnExactNormalFormSpec : ChangeSpec := { name := "fnExactNormalForm", fn := fun _ => fun
  | [d1, d2] => { results := [.lit (.bool true)], args := [d1, d2] }
  | _ => none }
def fnExactNormalFormRow : OpenClaim := { program := "ytfjeghalkmkgoaa", sum := "d1fb528a622bb5203580b4707b33dd2356fd58600647870999553109e9a870d1", func := "loop.example/g02076/laws.FnExactNormalForm", spec := "fnExactNormalForm", unfollowed := true, recurses := true, apart := false }
def FnExactNormalFormSaid : Prop := fnExactNormalFormRow.holds Try.pinned (OpenSpec.ofChange fnExactNormalFormSpec)

/-- ITS FALSE NEIGHBOUR: 'it returns false'. Refute it at one input. -/
def fnExactNormalFormWrong : ChangeSpec := { name := "fnExactNormalForm", fn := fun _ => fun
  | [d1, d2] => { results := [.lit (.bool false)], args := [d1, d2] }
  | _ => none }
def FnExactNormalFormWrongFalsely : Prop := fnExactNormalFormRow.holds Try.pinned (OpenSpec.ofChange fnExactNormalFormWrong)

/-- 'laws.FnExactIsReduced': WHATEVER THE INPUT: true; the input reads as it did. -/
def fnExactIsReducedSpec : ChangeSpec := { name := "fnExactIsReduced", fn := fun _ => fun
  | [d1, d2] => { results := [.lit (.bool true)], args := [d1, d2] }
  | _ => none }
def fnExactIsReducedRow : OpenClaim := { program := "ytfjeghalkmkgoaa", sum := "d1fb528a622bb5203580b4707b33dd2356fd58600647870999553109e9a870d1", func := "loop.example/g02076/laws.FnExactIsReduced", spec := "fnExactIsReduced", unfollowed := true, recurses := true, apart := false }
def FnExactIsReducedSaid : Prop := fnExactIsReducedRow.holds Try.pinned (OpenSpec.ofChange fnExactIsReducedSpec)

/-- ITS FALSE NEIGHBOUR: 'it returns false'. Refute it at one input. -/
def fnExactIsReducedWrong : ChangeSpec := { name := "fnExactIsReduced", fn := fun _ => fun
  | [d1, d2] => { results := [.lit (.bool false)], args := [d1, d2] }
  | _ => none }
def FnExactIsReducedWrongFalsely : Prop := fnExactIsReducedRow.holds Try.pinned (OpenSpec.ofChange fnExactIsReducedWrong)

/-- 'laws.FnExactLeftDescents': WHATEVER THE INPUT: true; the input reads as it did. -/
def fnExactLeftDescentsSpec : ChangeSpec := { name := "fnExactLeftDescents", fn := fun _ => fun
  | [d1, d2] => { results := [.lit (.bool true)], args := [d1, d2] }
  | _ => none }
def fnExactLeftDescentsRow : OpenClaim := { program := "ytfjeghalkmkgoaa", sum := "d1fb528a622bb5203580b4707b33dd2356fd58600647870999553109e9a870d1", func := "loop.example/g02076/laws.FnExactLeftDescents", spec := "fnExactLeftDescents", unfollowed := true, recurses := true, apart := false }
def FnExactLeftDescentsSaid : Prop := fnExactLeftDescentsRow.holds Try.pinned (OpenSpec.ofChange fnExactLeftDescentsSpec)

/-- ITS FALSE NEIGHBOUR: 'it returns false'. Refute it at one input. -/
def fnExactLeftDescentsWrong : ChangeSpec := { name := "fnExactLeftDescents", fn := fun _ => fun
  | [d1, d2] => { results := [.lit (.bool false)], args := [d1, d2] }
  | _ => none }
def FnExactLeftDescentsWrongFalsely : Prop := fnExactLeftDescentsRow.holds Try.pinned (OpenSpec.ofChange fnExactLeftDescentsWrong)

/-- 'laws.FnExactRightDescents': WHATEVER THE INPUT: true; the input reads as it did. -/
def fnExactRightDescentsSpec : ChangeSpec := { name := "fnExactRightDescents", fn := fun _ => fun
  | [d1, d2] => { results := [.lit (.bool true)], args := [d1, d2] }
  | _ => none }
def fnExactRightDescentsRow : OpenClaim := { program := "ytfjeghalkmkgoaa", sum := "d1fb528a622bb5203580b4707b33dd2356fd58600647870999553109e9a870d1", func := "loop.example/g02076/laws.FnExactRightDescents", spec := "fnExactRightDescents", unfollowed := true, recurses := true, apart := false }
def FnExactRightDescentsSaid : Prop := fnExactRightDescentsRow.holds Try.pinned (OpenSpec.ofChange fnExactRightDescentsSpec)

/-- ITS FALSE NEIGHBOUR: 'it returns false'. Refute it at one input. -/
def fnExactRightDescentsWrong : ChangeSpec := { name := "fnExactRightDescents", fn := fun _ => fun
  | [d1, d2] => { results := [.lit (.bool false)], args := [d1, d2] }
  | _ => none }
def FnExactRightDescentsWrongFalsely : Prop := fnExactRightDescentsRow.holds Try.pinned (OpenSpec.ofChange fnExactRightDescentsWrong)

/-- 'laws.FnExactAreSame': WHATEVER THE INPUT: true; the input reads as it did. -/
def fnExactAreSameSpec : ChangeSpec := { name := "fnExactAreSame", fn := fun _ => fun
  | [d1, d2, d3] => { results := [.lit (.bool true)], args := [d1, d2, d3] }
  | _ => none }
def fnExactAreSameRow : OpenClaim := { program := "ytfjeghalkmkgoaa", sum := "d1fb528a622bb5203580b4707b33dd2356fd58600647870999553109e9a870d1", func := "loop.example/g02076/laws.FnExactAreSame", spec := "fnExactAreSame", unfollowed := true, recurses := true, apart := false }
def FnExactAreSameSaid : Prop := fnExactAreSameRow.holds Try.pinned (OpenSpec.ofChange fnExactAreSameSpec)

/-- ITS FALSE NEIGHBOUR: 'it returns false'. Refute it at one input. -/
def fnExactAreSameWrong : ChangeSpec := { name := "fnExactAreSame", fn := fun _ => fun
  | [d1, d2, d3] => { results := [.lit (.bool false)], args := [d1, d2, d3] }
  | _ => none }
def FnExactAreSameWrongFalsely : Prop := fnExactAreSameRow.holds Try.pinned (OpenSpec.ofChange fnExactAreSameWrong)

/-- 'laws.FnExactSignOf': WHATEVER THE INPUT: true; the input reads as it did. -/
def fnExactSignOfSpec : ChangeSpec := { name := "fnExactSignOf", fn := fun _ => fun
  | [d] => { results := [.lit (.bool true)], args := [d] }
  | _ => none }
def fnExactSignOfRow : OpenClaim := { program := "ytfjeghalkmkgoaa", sum := "d1fb528a622bb5203580b4707b33dd2356fd58600647870999553109e9a870d1", func := "loop.example/g02076/laws.FnExactSignOf", spec := "fnExactSignOf", apart := false }
def FnExactSignOfSaid : Prop := fnExactSignOfRow.holds Try.pinned (OpenSpec.ofChange fnExactSignOfSpec)

/-- ITS FALSE NEIGHBOUR: 'it returns false'. Refute it at one input. -/
def fnExactSignOfWrong : ChangeSpec := { name := "fnExactSignOf", fn := fun _ => fun
  | [d] => { results := [.lit (.bool false)], args := [d] }
  | _ => none }
def FnExactSignOfWrongFalsely : Prop := fnExactSignOfRow.holds Try.pinned (OpenSpec.ofChange fnExactSignOfWrong)

/-- 'laws.FnExactOrderOfElement': WHATEVER THE INPUT: true; the input reads as it did. -/
def fnExactOrderOfElementSpec : ChangeSpec := { name := "fnExactOrderOfElement", fn := fun _ => fun
  | [d1, d2] => { results := [.lit (.bool true)], args := [d1, d2] }
  | _ => none }
def fnExactOrderOfElementRow : OpenClaim := { program := "ytfjeghalkmkgoaa", sum := "d1fb528a622bb5203580b4707b33dd2356fd58600647870999553109e9a870d1", func := "loop.example/g02076/laws.FnExactOrderOfElement", spec := "fnExactOrderOfElement", unfollowed := true, recurses := true, apart := false }
def FnExactOrderOfElementSaid : Prop := fnExactOrderOfElementRow.holds Try.pinned (OpenSpec.ofChange fnExactOrderOfElementSpec)

/-- ITS FALSE NEIGHBOUR: 'it returns false'. Refute it at one input. -/
def fnExactOrderOfElementWrong : ChangeSpec := { name := "fnExactOrderOfElement", fn := fun _ => fun
  | [d1, d2] => { results := [.lit (.bool false)], args := [d1, d2] }
  | _ => none }
def FnExactOrderOfElementWrongFalsely : Prop := fnExactOrderOfElementRow.holds Try.pinned (OpenSpec.ofChange fnExactOrderOfElementWrong)

/-- 'laws.FnExactActOnWeight': WHATEVER THE INPUT: true; the input reads as it did. -/
def fnExactActOnWeightSpec : ChangeSpec := { name := "fnExactActOnWeight", fn := fun _ => fun
  | [d1, d2, d3] => { results := [.lit (.bool true)], args := [d1, d2, d3] }
  | _ => none }
def fnExactActOnWeightRow : OpenClaim := { program := "ytfjeghalkmkgoaa", sum := "d1fb528a622bb5203580b4707b33dd2356fd58600647870999553109e9a870d1", func := "loop.example/g02076/laws.FnExactActOnWeight", spec := "fnExactActOnWeight", unfollowed := true, recurses := true, apart := false }
def FnExactActOnWeightSaid : Prop := fnExactActOnWeightRow.holds Try.pinned (OpenSpec.ofChange fnExactActOnWeightSpec)

/-- ITS FALSE NEIGHBOUR: 'it returns false'. Refute it at one input. -/
def fnExactActOnWeightWrong : ChangeSpec := { name := "fnExactActOnWeight", fn := fun _ => fun
  | [d1, d2, d3] => { results := [.lit (.bool false)], args := [d1, d2, d3] }
  | _ => none }
def FnExactActOnWeightWrongFalsely : Prop := fnExactActOnWeightRow.holds Try.pinned (OpenSpec.ofChange fnExactActOnWeightWrong)

/-- 'laws.FnExactActOnRoot': WHATEVER THE INPUT: true; the input reads as it did. -/
def fnExactActOnRootSpec : ChangeSpec := { name := "fnExactActOnRoot", fn := fun _ => fun
  | [d1, d2, d3] => { results := [.lit (.bool true)], args := [d1, d2, d3] }
  | _ => none }
def fnExactActOnRootRow : OpenClaim := { program := "ytfjeghalkmkgoaa", sum := "d1fb528a622bb5203580b4707b33dd2356fd58600647870999553109e9a870d1", func := "loop.example/g02076/laws.FnExactActOnRoot", spec := "fnExactActOnRoot", unfollowed := true, recurses := true, apart := false }
def FnExactActOnRootSaid : Prop := fnExactActOnRootRow.holds Try.pinned (OpenSpec.ofChange fnExactActOnRootSpec)

/-- ITS FALSE NEIGHBOUR: 'it returns false'. Refute it at one input. -/
def fnExactActOnRootWrong : ChangeSpec := { name := "fnExactActOnRoot", fn := fun _ => fun
  | [d1, d2, d3] => { results := [.lit (.bool false)], args := [d1, d2, d3] }
  | _ => none }
def FnExactActOnRootWrongFalsely : Prop := fnExactActOnRootRow.holds Try.pinned (OpenSpec.ofChange fnExactActOnRootWrong)

/-- 'laws.FnLengths': WHATEVER THE INPUT: true; the input reads as it did. -/
def fnLengthsSpec : ChangeSpec := { name := "fnLengths", fn := fun _ => fun
  | [d] => { results := [.lit (.bool true)], args := [d] }
  | _ => none }
def fnLengthsRow : OpenClaim := { program := "ytfjeghalkmkgoaa", sum := "d1fb528a622bb5203580b4707b33dd2356fd58600647870999553109e9a870d1", func := "loop.example/g02076/laws.FnLengths", spec := "fnLengths", unfollowed := true, recurses := true, apart := false }
def FnLengthsSaid : Prop := fnLengthsRow.holds Try.pinned (OpenSpec.ofChange fnLengthsSpec)

/-- ITS FALSE NEIGHBOUR: 'it returns false'. Refute it at one input. -/
def fnLengthsWrong : ChangeSpec := { name := "fnLengths", fn := fun _ => fun
  | [d] => { results := [.lit (.bool false)], args := [d] }
  | _ => none }
def FnLengthsWrongFalsely : Prop := fnLengthsRow.holds Try.pinned (OpenSpec.ofChange fnLengthsWrong)

/- THE SECOND FORM. 'bulk': how many values and letters a reading holds, each counted each time it is reached (what is shared counts as often as it is met; a slice's spare places count too). A statement '..UptoSaid' is the law's where the arguments, and the package variables that the reading takes, are together of bulk at most 1048576: NARROWER than '..Said'. Prove '..Said' where nothing that the law and all that it calls make is longer than what came in: it says more and counts as full. Else prove '..UptoSaid'. A law counts once. -/
mutual
def uptoBulk {H : Type} : DataW H → Nat
  | .lit (.string bytes) => bytes.length + 1
  | .lit _ => 1
  | .nil => 1
  | .ptr d => uptoBulk d + 1
  | .slice elems spare => uptoBulkAll elems + uptoBulkAll spare + 1
  | .agg parts => uptoBulkAll parts + 1
  | .iface _ d => uptoBulk d + 1
  | .map entries => uptoBulkEntries entries + 1
  | .held _ => 1
def uptoBulkAll {H : Type} : List (DataW H) → Nat
  | [] => 0
  | d :: r => uptoBulk d + uptoBulkAll r
def uptoBulkEntries {H : Type} : List (Lit × DataW H) → Nat
  | [] => 0
  | x :: r => uptoBulkEntry x + uptoBulkEntries r
def uptoBulkEntry {H : Type} : Lit × DataW H → Nat
  | (.string bytes, d) => bytes.length + uptoBulk d + 1
  | (_, d) => uptoBulk d + 1
 end
def uptoSmall : (H : Type) → List (DataW H) → Bool := fun _ ds => decide (uptoBulkAll ds ≤ 1048576)
def OpenSpec.upto (s : _root_.Go.ChangeSpec) : _root_.Go.OpenSpec := { _root_.Go.OpenSpec.ofChange s with cond := some uptoSmall }

/-- 'laws.FnExactLengthOf', WHERE WHAT IT READS IS OF BULK AT MOST 1048576: true; the input reads as it did. -/
def fnExactLengthOfUptoRow : OpenClaim := { program := "ytfjeghalkmkgoaa", sum := "d1fb528a622bb5203580b4707b33dd2356fd58600647870999553109e9a870d1", func := "loop.example/g02076/laws.FnExactLengthOf", spec := "fnExactLengthOf", unfollowed := true, recurses := true, apart := false, narrowed := true }
def FnExactLengthOfUptoSaid : Prop := fnExactLengthOfUptoRow.holds Try.pinned (OpenSpec.upto fnExactLengthOfSpec)

/-- 'laws.FnExactNormalForm', WHERE WHAT IT READS IS OF BULK AT MOST 1048576: true; the input reads as it did. -/
def fnExactNormalFormUptoRow : OpenClaim := { program := "ytfjeghalkmkgoaa", sum := "d1fb528a622bb5203580b4707b33dd2356fd58600647870999553109e9a870d1", func := "loop.example/g02076/laws.FnExactNormalForm", spec := "fnExactNormalForm", unfollowed := true, recurses := true, apart := false, narrowed := true }
def FnExactNormalFormUptoSaid : Prop := fnExactNormalFormUptoRow.holds Try.pinned (OpenSpec.upto fnExactNormalFormSpec)

/-- 'laws.FnExactIsReduced', WHERE WHAT IT READS IS OF BULK AT MOST 1048576: true; the input reads as it did. -/
def fnExactIsReducedUptoRow : OpenClaim := { program := "ytfjeghalkmkgoaa", sum := "d1fb528a622bb5203580b4707b33dd2356fd58600647870999553109e9a870d1", func := "loop.example/g02076/laws.FnExactIsReduced", spec := "fnExactIsReduced", unfollowed := true, recurses := true, apart := false, narrowed := true }
def FnExactIsReducedUptoSaid : Prop := fnExactIsReducedUptoRow.holds Try.pinned (OpenSpec.upto fnExactIsReducedSpec)

/-- 'laws.FnExactLeftDescents', WHERE WHAT IT READS IS OF BULK AT MOST 1048576: true; the input reads as it did. -/
def fnExactLeftDescentsUptoRow : OpenClaim := { program := "ytfjeghalkmkgoaa", sum := "d1fb528a622bb5203580b4707b33dd2356fd58600647870999553109e9a870d1", func := "loop.example/g02076/laws.FnExactLeftDescents", spec := "fnExactLeftDescents", unfollowed := true, recurses := true, apart := false, narrowed := true }
def FnExactLeftDescentsUptoSaid : Prop := fnExactLeftDescentsUptoRow.holds Try.pinned (OpenSpec.upto fnExactLeftDescentsSpec)

/-- 'laws.FnExactRightDescents', WHERE WHAT IT READS IS OF BULK AT MOST 1048576: true; the input reads as it did. -/
def fnExactRightDescentsUptoRow : OpenClaim := { program := "ytfjeghalkmkgoaa", sum := "d1fb528a622bb5203580b4707b33dd2356fd58600647870999553109e9a870d1", func := "loop.example/g02076/laws.FnExactRightDescents", spec := "fnExactRightDescents", unfollowed := true, recurses := true, apart := false, narrowed := true }
def FnExactRightDescentsUptoSaid : Prop := fnExactRightDescentsUptoRow.holds Try.pinned (OpenSpec.upto fnExactRightDescentsSpec)

/-- 'laws.FnExactAreSame', WHERE WHAT IT READS IS OF BULK AT MOST 1048576: true; the input reads as it did. -/
def fnExactAreSameUptoRow : OpenClaim := { program := "ytfjeghalkmkgoaa", sum := "d1fb528a622bb5203580b4707b33dd2356fd58600647870999553109e9a870d1", func := "loop.example/g02076/laws.FnExactAreSame", spec := "fnExactAreSame", unfollowed := true, recurses := true, apart := false, narrowed := true }
def FnExactAreSameUptoSaid : Prop := fnExactAreSameUptoRow.holds Try.pinned (OpenSpec.upto fnExactAreSameSpec)

/-- 'laws.FnExactSignOf', WHERE WHAT IT READS IS OF BULK AT MOST 1048576: true; the input reads as it did. -/
def fnExactSignOfUptoRow : OpenClaim := { program := "ytfjeghalkmkgoaa", sum := "d1fb528a622bb5203580b4707b33dd2356fd58600647870999553109e9a870d1", func := "loop.example/g02076/laws.FnExactSignOf", spec := "fnExactSignOf", apart := false, narrowed := true }
def FnExactSignOfUptoSaid : Prop := fnExactSignOfUptoRow.holds Try.pinned (OpenSpec.upto fnExactSignOfSpec)

/-- 'laws.FnExactOrderOfElement', WHERE WHAT IT READS IS OF BULK AT MOST 1048576: true; the input reads as it did. -/
def fnExactOrderOfElementUptoRow : OpenClaim := { program := "ytfjeghalkmkgoaa", sum := "d1fb528a622bb5203580b4707b33dd2356fd58600647870999553109e9a870d1", func := "loop.example/g02076/laws.FnExactOrderOfElement", spec := "fnExactOrderOfElement", unfollowed := true, recurses := true, apart := false, narrowed := true }
def FnExactOrderOfElementUptoSaid : Prop := fnExactOrderOfElementUptoRow.holds Try.pinned (OpenSpec.upto fnExactOrderOfElementSpec)

/-- 'laws.FnExactActOnWeight', WHERE WHAT IT READS IS OF BULK AT MOST 1048576: true; the input reads as it did. -/
def fnExactActOnWeightUptoRow : OpenClaim := { program := "ytfjeghalkmkgoaa", sum := "d1fb528a622bb5203580b4707b33dd2356fd58600647870999553109e9a870d1", func := "loop.example/g02076/laws.FnExactActOnWeight", spec := "fnExactActOnWeight", unfollowed := true, recurses := true, apart := false, narrowed := true }
def FnExactActOnWeightUptoSaid : Prop := fnExactActOnWeightUptoRow.holds Try.pinned (OpenSpec.upto fnExactActOnWeightSpec)

/-- 'laws.FnExactActOnRoot', WHERE WHAT IT READS IS OF BULK AT MOST 1048576: true; the input reads as it did. -/
def fnExactActOnRootUptoRow : OpenClaim := { program := "ytfjeghalkmkgoaa", sum := "d1fb528a622bb5203580b4707b33dd2356fd58600647870999553109e9a870d1", func := "loop.example/g02076/laws.FnExactActOnRoot", spec := "fnExactActOnRoot", unfollowed := true, recurses := true, apart := false, narrowed := true }
def FnExactActOnRootUptoSaid : Prop := fnExactActOnRootUptoRow.holds Try.pinned (OpenSpec.upto fnExactActOnRootSpec)

/-- 'laws.FnLengths', WHERE WHAT IT READS IS OF BULK AT MOST 1048576: true; the input reads as it did. -/
def fnLengthsUptoRow : OpenClaim := { program := "ytfjeghalkmkgoaa", sum := "d1fb528a622bb5203580b4707b33dd2356fd58600647870999553109e9a870d1", func := "loop.example/g02076/laws.FnLengths", spec := "fnLengths", unfollowed := true, recurses := true, apart := false, narrowed := true }
def FnLengthsUptoSaid : Prop := fnLengthsUptoRow.holds Try.pinned (OpenSpec.upto fnLengthsSpec)

end Rows
end Go.Proofs.Ytfjeghalkmkgoaa
