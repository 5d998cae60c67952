/-
  No cell of these rows narrows 'for every input' (looked for: loops, veiled, ifaces, maps, wideKeys, modest, calm, conditions, laid).
  DERIVED. THE GIVEN ROWS OF THIS SEAT. 6 by the template 'for every input the law returns true; each argument reads behind the call as it read before'; 0 by the template 'total and deterministic' (their statements: YtcmnkhblnlmfpaaTotals.lean).
  GIVEN WITH THE SEED: the statements are not yours to turn. If you find one false, say at which input.
  Laid BY PROGRAM, IN A SANDBOX (cutbox-rows.mjs): the forced cells as the released guide's own fill.sh prints them over the translation 8eb9abe1d68aecd9… (all of the seat's roots in one cut). By AI agents, Wed Nov 11 2026. No macro, syntax, notation, axiom, sorry.
-/
import Derived.Test.YtcmnkhblnlmfpaaChecked
import GoSem.Claim
import GoSem.ClaimJoined
import GoSem.ClaimMapViews
import Derived.JoinedTies
import Derived.KernelRfl
namespace Go.Proofs.Ytcmnkhblnlmfpaa
/- THE CELL 'sum', in the pinned program and in every row, IS THE sha256 OF THE DUMP (.gsa) THAT YtcmnkhblnlmfpaaProg.lean LOADS. Nothing in Lean hashes anything: it is a label: what it is worth is what the hold of that sum in a sandbox is worth. -/
noncomputable def Try.pinned : Pinned := { name := "ytcmnkhblnlmfpaa", sum := "8eb9abe1d68aecd97f81811746a256a50a05c80b6b095b9cd837a33a6694a122", checked := Try.checked }
namespace Rows
def none {H : Type} : Left H := { results := [], args := [] }

/-- 'laws.FnExactIsWeight': WHATEVER THE INPUT: true; the input reads as it did. -/
def fnExactIsWeightSpec : ChangeSpec := { name := "fnExactIsWeight", fn := fun _ => fun
  | [d1, d2] => { results := [.lit (.bool true)], args := [d1, d2] }
  | _ => none }
def fnExactIsWeightRow : OpenClaim := { program := "ytcmnkhblnlmfpaa", sum := "8eb9abe1d68aecd97f81811746a256a50a05c80b6b095b9cd837a33a6694a122", func := "loop.example/g02076/laws.FnExactIsWeight", spec := "fnExactIsWeight", unfollowed := true, recurses := true, apart := false }
def FnExactIsWeightSaid : Prop := fnExactIsWeightRow.holds Try.pinned (OpenSpec.ofChange fnExactIsWeightSpec)

/-- ITS FALSE NEIGHBOUR: 'it returns false'. Refute it at one input. -/
def fnExactIsWeightWrong : ChangeSpec := { name := "fnExactIsWeight", fn := fun _ => fun
  | [d1, d2] => { results := [.lit (.bool false)], args := [d1, d2] }
  | _ => none }
def FnExactIsWeightWrongFalsely : Prop := fnExactIsWeightRow.holds Try.pinned (OpenSpec.ofChange fnExactIsWeightWrong)

/-- 'laws.FnExactReflectWeight': WHATEVER THE INPUT: true; the input reads as it did. -/
def fnExactReflectWeightSpec : ChangeSpec := { name := "fnExactReflectWeight", fn := fun _ => fun
  | [d1, d2, d3] => { results := [.lit (.bool true)], args := [d1, d2, d3] }
  | _ => none }
def fnExactReflectWeightRow : OpenClaim := { program := "ytcmnkhblnlmfpaa", sum := "8eb9abe1d68aecd97f81811746a256a50a05c80b6b095b9cd837a33a6694a122", func := "loop.example/g02076/laws.FnExactReflectWeight", spec := "fnExactReflectWeight", apart := false }
def FnExactReflectWeightSaid : Prop := fnExactReflectWeightRow.holds Try.pinned (OpenSpec.ofChange fnExactReflectWeightSpec)

/-- ITS FALSE NEIGHBOUR: 'it returns false'. Refute it at one input. -/
def fnExactReflectWeightWrong : ChangeSpec := { name := "fnExactReflectWeight", fn := fun _ => fun
  | [d1, d2, d3] => { results := [.lit (.bool false)], args := [d1, d2, d3] }
  | _ => none }
def FnExactReflectWeightWrongFalsely : Prop := fnExactReflectWeightRow.holds Try.pinned (OpenSpec.ofChange fnExactReflectWeightWrong)

/-- 'laws.FnExactActOnWeight': WHATEVER THE INPUT: true; the input reads as it did. -/
def fnExactActOnWeightSpec : ChangeSpec := { name := "fnExactActOnWeight", fn := fun _ => fun
  | [d1, d2, d3] => { results := [.lit (.bool true)], args := [d1, d2, d3] }
  | _ => none }
def fnExactActOnWeightRow : OpenClaim := { program := "ytcmnkhblnlmfpaa", sum := "8eb9abe1d68aecd97f81811746a256a50a05c80b6b095b9cd837a33a6694a122", func := "loop.example/g02076/laws.FnExactActOnWeight", spec := "fnExactActOnWeight", unfollowed := true, recurses := true, apart := false }
def FnExactActOnWeightSaid : Prop := fnExactActOnWeightRow.holds Try.pinned (OpenSpec.ofChange fnExactActOnWeightSpec)

/-- ITS FALSE NEIGHBOUR: 'it returns false'. Refute it at one input. -/
def fnExactActOnWeightWrong : ChangeSpec := { name := "fnExactActOnWeight", fn := fun _ => fun
  | [d1, d2, d3] => { results := [.lit (.bool false)], args := [d1, d2, d3] }
  | _ => none }
def FnExactActOnWeightWrongFalsely : Prop := fnExactActOnWeightRow.holds Try.pinned (OpenSpec.ofChange fnExactActOnWeightWrong)

/-- 'laws.FnExactRhoOf': WHATEVER THE INPUT: true; the input reads as it did. -/
def fnExactRhoOfSpec : ChangeSpec := { name := "fnExactRhoOf", fn := fun _ => fun
  | [d] => { results := [.lit (.bool true)], args := [d] }
  | _ => none }
def fnExactRhoOfRow : OpenClaim := { program := "ytcmnkhblnlmfpaa", sum := "8eb9abe1d68aecd97f81811746a256a50a05c80b6b095b9cd837a33a6694a122", func := "loop.example/g02076/laws.FnExactRhoOf", spec := "fnExactRhoOf", apart := false }
def FnExactRhoOfSaid : Prop := fnExactRhoOfRow.holds Try.pinned (OpenSpec.ofChange fnExactRhoOfSpec)

/-- ITS FALSE NEIGHBOUR: 'it returns false'. Refute it at one input. -/
def fnExactRhoOfWrong : ChangeSpec := { name := "fnExactRhoOf", fn := fun _ => fun
  | [d] => { results := [.lit (.bool false)], args := [d] }
  | _ => none }
def FnExactRhoOfWrongFalsely : Prop := fnExactRhoOfRow.holds Try.pinned (OpenSpec.ofChange fnExactRhoOfWrong)

/-- 'laws.FnExactAddWeights': WHATEVER THE INPUT: true; the input reads as it did. -/
def fnExactAddWeightsSpec : ChangeSpec := { name := "fnExactAddWeights", fn := fun _ => fun
  | [d1, d2] => { results := [.lit (.bool true)], args := [d1, d2] }
  | _ => none }
def fnExactAddWeightsRow : OpenClaim := { program := "ytcmnkhblnlmfpaa", sum := "8eb9abe1d68aecd97f81811746a256a50a05c80b6b095b9cd837a33a6694a122", func := "loop.example/g02076/laws.FnExactAddWeights", spec := "fnExactAddWeights", apart := false }
def FnExactAddWeightsSaid : Prop := fnExactAddWeightsRow.holds Try.pinned (OpenSpec.ofChange fnExactAddWeightsSpec)

/-- ITS FALSE NEIGHBOUR: 'it returns false'. Refute it at one input. -/
def fnExactAddWeightsWrong : ChangeSpec := { name := "fnExactAddWeights", fn := fun _ => fun
  | [d1, d2] => { results := [.lit (.bool false)], args := [d1, d2] }
  | _ => none }
def FnExactAddWeightsWrongFalsely : Prop := fnExactAddWeightsRow.holds Try.pinned (OpenSpec.ofChange fnExactAddWeightsWrong)

/-- 'laws.FnExactSimpleRootWeight': WHATEVER THE INPUT: true; the input reads as it did. -/
def fnExactSimpleRootWeightSpec : ChangeSpec := { name := "fnExactSimpleRootWeight", fn := fun _ => fun
  | [d1, d2] => { results := [.lit (.bool true)], args := [d1, d2] }
  | _ => none }
def fnExactSimpleRootWeightRow : OpenClaim := { program := "ytcmnkhblnlmfpaa", sum := "8eb9abe1d68aecd97f81811746a256a50a05c80b6b095b9cd837a33a6694a122", func := "loop.example/g02076/laws.FnExactSimpleRootWeight", spec := "fnExactSimpleRootWeight", apart := false }
def FnExactSimpleRootWeightSaid : Prop := fnExactSimpleRootWeightRow.holds Try.pinned (OpenSpec.ofChange fnExactSimpleRootWeightSpec)

/-- ITS FALSE NEIGHBOUR: 'it returns false'. Refute it at one input. -/
def fnExactSimpleRootWeightWrong : ChangeSpec := { name := "fnExactSimpleRootWeight", fn := fun _ => fun
  | [d1, d2] => { results := [.lit (.bool false)], args := [d1, d2] }
  | _ => none }
def FnExactSimpleRootWeightWrongFalsely : Prop := fnExactSimpleRootWeightRow.holds Try.pinned (OpenSpec.ofChange fnExactSimpleRootWeightWrong)

/- THE SECOND FORM. 'bulk': how many values and letters a reading holds, each counted each time it is reached (what is shared counts as often as it is met; a slice's spare places count too). A statement '..UptoSaid' is the law's where the arguments, and the package variables that the reading takes, are together of bulk at most 1048576: NARROWER than '..Said'. Prove '..Said' where nothing that the law and all that it calls make is longer than what came in: it says more and counts as full. Else prove '..UptoSaid'. A law counts once. -/
mutual
def uptoBulk {H : Type} : DataW H → Nat
  | .lit (.string bytes) => bytes.length + 1
  | .lit _ => 1
  | .nil => 1
  | .ptr d => uptoBulk d + 1
  | .slice elems spare => uptoBulkAll elems + uptoBulkAll spare + 1
  | .agg parts => uptoBulkAll parts + 1
  | .iface _ d => uptoBulk d + 1
  | .map entries => uptoBulkEntries entries + 1
  | .held _ => 1
def uptoBulkAll {H : Type} : List (DataW H) → Nat
  | [] => 0
  | d :: r => uptoBulk d + uptoBulkAll r
def uptoBulkEntries {H : Type} : List (Lit × DataW H) → Nat
  | [] => 0
  | x :: r => uptoBulkEntry x + uptoBulkEntries r
def uptoBulkEntry {H : Type} : Lit × DataW H → Nat
  | (.string bytes, d) => bytes.length + uptoBulk d + 1
  | (_, d) => uptoBulk d + 1
 end
def uptoSmall : (H : Type) → List (DataW H) → Bool := fun _ ds => decide (uptoBulkAll ds ≤ 1048576)
def OpenSpec.upto (s : _root_.Go.ChangeSpec) : _root_.Go.OpenSpec := { _root_.Go.OpenSpec.ofChange s with cond := some uptoSmall }

/-- 'laws.FnExactIsWeight', WHERE WHAT IT READS IS OF BULK AT MOST 1048576: true; the input reads as it did. -/
def fnExactIsWeightUptoRow : OpenClaim := { program := "ytcmnkhblnlmfpaa", sum := "8eb9abe1d68aecd97f81811746a256a50a05c80b6b095b9cd837a33a6694a122", func := "loop.example/g02076/laws.FnExactIsWeight", spec := "fnExactIsWeight", unfollowed := true, recurses := true, apart := false, narrowed := true }
def FnExactIsWeightUptoSaid : Prop := fnExactIsWeightUptoRow.holds Try.pinned (OpenSpec.upto fnExactIsWeightSpec)

/-- 'laws.FnExactReflectWeight', WHERE WHAT IT READS IS OF BULK AT MOST 1048576: true; the input reads as it did. -/
def fnExactReflectWeightUptoRow : OpenClaim := { program := "ytcmnkhblnlmfpaa", sum := "8eb9abe1d68aecd97f81811746a256a50a05c80b6b095b9cd837a33a6694a122", func := "loop.example/g02076/laws.FnExactReflectWeight", spec := "fnExactReflectWeight", apart := false, narrowed := true }
def FnExactReflectWeightUptoSaid : Prop := fnExactReflectWeightUptoRow.holds Try.pinned (OpenSpec.upto fnExactReflectWeightSpec)

/-- 'laws.FnExactActOnWeight', WHERE WHAT IT READS IS OF BULK AT MOST 1048576: true; the input reads as it did. -/
def fnExactActOnWeightUptoRow : OpenClaim := { program := "ytcmnkhblnlmfpaa", sum := "8eb9abe1d68aecd97f81811746a256a50a05c80b6b095b9cd837a33a6694a122", func := "loop.example/g02076/laws.FnExactActOnWeight", spec := "fnExactActOnWeight", unfollowed := true, recurses := true, apart := false, narrowed := true }
def FnExactActOnWeightUptoSaid : Prop := fnExactActOnWeightUptoRow.holds Try.pinned (OpenSpec.upto fnExactActOnWeightSpec)

/-- 'laws.FnExactRhoOf', WHERE WHAT IT READS IS OF BULK AT MOST 1048576: true; the input reads as it did. -/
def fnExactRhoOfUptoRow : OpenClaim := { program := "ytcmnkhblnlmfpaa", sum := "8eb9abe1d68aecd97f81811746a256a50a05c80b6b095b9cd837a33a6694a122", func := "loop.example/g02076/laws.FnExactRhoOf", spec := "fnExactRhoOf", apart := false, narrowed := true }
def FnExactRhoOfUptoSaid : Prop := fnExactRhoOfUptoRow.holds Try.pinned (OpenSpec.upto fnExactRhoOfSpec)

/-- 'laws.FnExactAddWeights', WHERE WHAT IT READS IS OF BULK AT MOST 1048576: true; the input reads as it did. -/
def fnExactAddWeightsUptoRow : OpenClaim := { program := "ytcmnkhblnlmfpaa", sum := "8eb9abe1d68aecd97f81811746a256a50a05c80b6b095b9cd837a33a6694a122", func := "loop.example/g02076/laws.FnExactAddWeights", spec := "fnExactAddWeights", apart := false, narrowed := true }
def FnExactAddWeightsUptoSaid : Prop := fnExactAddWeightsUptoRow.holds Try.pinned (OpenSpec.upto fnExactAddWeightsSpec)

/-- 'laws.FnExactSimpleRootWeight', WHERE WHAT IT READS IS OF BULK AT MOST 1048576: true; the input reads as it did. -/
def fnExactSimpleRootWeightUptoRow : OpenClaim := { program := "ytcmnkhblnlmfpaa", sum := "8eb9abe1d68aecd97f81811746a256a50a05c80b6b095b9cd837a33a6694a122", func := "loop.example/g02076/laws.FnExactSimpleRootWeight", spec := "fnExactSimpleRootWeight", apart := false, narrowed := true }
def FnExactSimpleRootWeightUptoSaid : Prop := fnExactSimpleRootWeightUptoRow.holds Try.pinned (OpenSpec.upto fnExactSimpleRootWeightSpec)

end Rows
end Go.Proofs.Ytcmnkhblnlmfpaa
