/-
  No cell of these rows narrows 'for every input' (looked for: loops, veiled, ifaces, maps, wideKeys, modest, calm, conditions, laid).
  DERIVED. THE GIVEN ROWS OF THIS SEAT. 11 by the template 'for every input the law returns true; each argument reads behind the call as it read before'; 0 by the template 'total and deterministic' (their statements: YtlbgblkoddlhnaaTotals.lean).
  GIVEN WITH THE SEED: the statements are not yours to turn. If you find one false, say at which input.
  Laid BY PROGRAM, IN A SANDBOX (cutbox-rows.mjs): the forced cells as the released guide's own fill.sh prints them over the translation d4c315936ad0e914… (all of the seat's roots in one cut). By AI agents, Wed Nov 11 2026. No macro, syntax, notation, axiom, sorry.
-/
import Derived.Test.YtlbgblkoddlhnaaChecked
import GoSem.Claim
import GoSem.ClaimJoined
import GoSem.ClaimMapViews
import Derived.JoinedTies
import Derived.KernelRfl
namespace Go.Proofs.Ytlbgblkoddlhnaa
/- THE CELL 'sum', in the pinned program and in every row, IS THE sha256 OF THE DUMP (.gsa) THAT YtlbgblkoddlhnaaProg.lean LOADS. Nothing in Lean hashes anything: it is a label: what it is worth is what the hold of that sum in a sandbox is worth. -/
noncomputable def Try.pinned : Pinned := { name := "ytlbgblkoddlhnaa", sum := "d4c315936ad0e914f7aa25fa55e0501aa13096a2944755b532747abb0016c794", checked := Try.checked }
namespace Rows
def none {H : Type} : Left H := { results := [], args := [] }

/-- 'laws.FnExactReflectWeight': WHATEVER THE INPUT: true; the input reads as it did. -/
def fnExactReflectWeightSpec : ChangeSpec := { name := "fnExactReflectWeight", fn := fun _ => fun
  | [d1, d2, d3] => { results := [.lit (.bool true)], args := [d1, d2, d3] }
  | _ => none }
def fnExactReflectWeightRow : OpenClaim := { program := "ytlbgblkoddlhnaa", sum := "d4c315936ad0e914f7aa25fa55e0501aa13096a2944755b532747abb0016c794", func := "loop.example/g02076/laws.FnExactReflectWeight", spec := "fnExactReflectWeight", unfollowed := true, recurses := true, plainKeys := false, apart := false }
def FnExactReflectWeightSaid : Prop := fnExactReflectWeightRow.holds Try.pinned (OpenSpec.ofChange fnExactReflectWeightSpec)

/-- ITS FALSE NEIGHBOUR: 'it returns false'. Refute it at one input. -/
def fnExactReflectWeightWrong : ChangeSpec := { name := "fnExactReflectWeight", fn := fun _ => fun
  | [d1, d2, d3] => { results := [.lit (.bool false)], args := [d1, d2, d3] }
  | _ => none }
def FnExactReflectWeightWrongFalsely : Prop := fnExactReflectWeightRow.holds Try.pinned (OpenSpec.ofChange fnExactReflectWeightWrong)

/-- 'laws.FnExactActOnWeight': WHATEVER THE INPUT: true; the input reads as it did. -/
def fnExactActOnWeightSpec : ChangeSpec := { name := "fnExactActOnWeight", fn := fun _ => fun
  | [d1, d2, d3] => { results := [.lit (.bool true)], args := [d1, d2, d3] }
  | _ => none }
def fnExactActOnWeightRow : OpenClaim := { program := "ytlbgblkoddlhnaa", sum := "d4c315936ad0e914f7aa25fa55e0501aa13096a2944755b532747abb0016c794", func := "loop.example/g02076/laws.FnExactActOnWeight", spec := "fnExactActOnWeight", unfollowed := true, recurses := true, plainKeys := false, apart := false }
def FnExactActOnWeightSaid : Prop := fnExactActOnWeightRow.holds Try.pinned (OpenSpec.ofChange fnExactActOnWeightSpec)

/-- ITS FALSE NEIGHBOUR: 'it returns false'. Refute it at one input. -/
def fnExactActOnWeightWrong : ChangeSpec := { name := "fnExactActOnWeight", fn := fun _ => fun
  | [d1, d2, d3] => { results := [.lit (.bool false)], args := [d1, d2, d3] }
  | _ => none }
def FnExactActOnWeightWrongFalsely : Prop := fnExactActOnWeightRow.holds Try.pinned (OpenSpec.ofChange fnExactActOnWeightWrong)

/-- 'laws.FnExactIsRootVector': WHATEVER THE INPUT: true; the input reads as it did. -/
def fnExactIsRootVectorSpec : ChangeSpec := { name := "fnExactIsRootVector", fn := fun _ => fun
  | [d1, d2] => { results := [.lit (.bool true)], args := [d1, d2] }
  | _ => none }
def fnExactIsRootVectorRow : OpenClaim := { program := "ytlbgblkoddlhnaa", sum := "d4c315936ad0e914f7aa25fa55e0501aa13096a2944755b532747abb0016c794", func := "loop.example/g02076/laws.FnExactIsRootVector", spec := "fnExactIsRootVector", unfollowed := true, recurses := true, plainKeys := false, apart := false }
def FnExactIsRootVectorSaid : Prop := fnExactIsRootVectorRow.holds Try.pinned (OpenSpec.ofChange fnExactIsRootVectorSpec)

/-- ITS FALSE NEIGHBOUR: 'it returns false'. Refute it at one input. -/
def fnExactIsRootVectorWrong : ChangeSpec := { name := "fnExactIsRootVector", fn := fun _ => fun
  | [d1, d2] => { results := [.lit (.bool false)], args := [d1, d2] }
  | _ => none }
def FnExactIsRootVectorWrongFalsely : Prop := fnExactIsRootVectorRow.holds Try.pinned (OpenSpec.ofChange fnExactIsRootVectorWrong)

/-- 'laws.FnExactReflectRoot': WHATEVER THE INPUT: true; the input reads as it did. -/
def fnExactReflectRootSpec : ChangeSpec := { name := "fnExactReflectRoot", fn := fun _ => fun
  | [d1, d2, d3] => { results := [.lit (.bool true)], args := [d1, d2, d3] }
  | _ => none }
def fnExactReflectRootRow : OpenClaim := { program := "ytlbgblkoddlhnaa", sum := "d4c315936ad0e914f7aa25fa55e0501aa13096a2944755b532747abb0016c794", func := "loop.example/g02076/laws.FnExactReflectRoot", spec := "fnExactReflectRoot", unfollowed := true, recurses := true, plainKeys := false, apart := false }
def FnExactReflectRootSaid : Prop := fnExactReflectRootRow.holds Try.pinned (OpenSpec.ofChange fnExactReflectRootSpec)

/-- ITS FALSE NEIGHBOUR: 'it returns false'. Refute it at one input. -/
def fnExactReflectRootWrong : ChangeSpec := { name := "fnExactReflectRoot", fn := fun _ => fun
  | [d1, d2, d3] => { results := [.lit (.bool false)], args := [d1, d2, d3] }
  | _ => none }
def FnExactReflectRootWrongFalsely : Prop := fnExactReflectRootRow.holds Try.pinned (OpenSpec.ofChange fnExactReflectRootWrong)

/-- 'laws.FnExactActOnRoot': WHATEVER THE INPUT: true; the input reads as it did. -/
def fnExactActOnRootSpec : ChangeSpec := { name := "fnExactActOnRoot", fn := fun _ => fun
  | [d1, d2, d3] => { results := [.lit (.bool true)], args := [d1, d2, d3] }
  | _ => none }
def fnExactActOnRootRow : OpenClaim := { program := "ytlbgblkoddlhnaa", sum := "d4c315936ad0e914f7aa25fa55e0501aa13096a2944755b532747abb0016c794", func := "loop.example/g02076/laws.FnExactActOnRoot", spec := "fnExactActOnRoot", unfollowed := true, recurses := true, plainKeys := false, apart := false }
def FnExactActOnRootSaid : Prop := fnExactActOnRootRow.holds Try.pinned (OpenSpec.ofChange fnExactActOnRootSpec)

/-- ITS FALSE NEIGHBOUR: 'it returns false'. Refute it at one input. -/
def fnExactActOnRootWrong : ChangeSpec := { name := "fnExactActOnRoot", fn := fun _ => fun
  | [d1, d2, d3] => { results := [.lit (.bool false)], args := [d1, d2, d3] }
  | _ => none }
def FnExactActOnRootWrongFalsely : Prop := fnExactActOnRootRow.holds Try.pinned (OpenSpec.ofChange fnExactActOnRootWrong)

/-- 'laws.FnExactSimpleRoot': WHATEVER THE INPUT: true; the input reads as it did. -/
def fnExactSimpleRootSpec : ChangeSpec := { name := "fnExactSimpleRoot", fn := fun _ => fun
  | [d1, d2] => { results := [.lit (.bool true)], args := [d1, d2] }
  | _ => none }
def fnExactSimpleRootRow : OpenClaim := { program := "ytlbgblkoddlhnaa", sum := "d4c315936ad0e914f7aa25fa55e0501aa13096a2944755b532747abb0016c794", func := "loop.example/g02076/laws.FnExactSimpleRoot", spec := "fnExactSimpleRoot", plainKeys := false, apart := false }
def FnExactSimpleRootSaid : Prop := fnExactSimpleRootRow.holds Try.pinned (OpenSpec.ofChange fnExactSimpleRootSpec)

/-- ITS FALSE NEIGHBOUR: 'it returns false'. Refute it at one input. -/
def fnExactSimpleRootWrong : ChangeSpec := { name := "fnExactSimpleRoot", fn := fun _ => fun
  | [d1, d2] => { results := [.lit (.bool false)], args := [d1, d2] }
  | _ => none }
def FnExactSimpleRootWrongFalsely : Prop := fnExactSimpleRootRow.holds Try.pinned (OpenSpec.ofChange fnExactSimpleRootWrong)

/-- 'laws.FnExactHeightOf': WHATEVER THE INPUT: true; the input reads as it did. -/
def fnExactHeightOfSpec : ChangeSpec := { name := "fnExactHeightOf", fn := fun _ => fun
  | [d] => { results := [.lit (.bool true)], args := [d] }
  | _ => none }
def fnExactHeightOfRow : OpenClaim := { program := "ytlbgblkoddlhnaa", sum := "d4c315936ad0e914f7aa25fa55e0501aa13096a2944755b532747abb0016c794", func := "loop.example/g02076/laws.FnExactHeightOf", spec := "fnExactHeightOf", plainKeys := false, apart := false }
def FnExactHeightOfSaid : Prop := fnExactHeightOfRow.holds Try.pinned (OpenSpec.ofChange fnExactHeightOfSpec)

/-- ITS FALSE NEIGHBOUR: 'it returns false'. Refute it at one input. -/
def fnExactHeightOfWrong : ChangeSpec := { name := "fnExactHeightOf", fn := fun _ => fun
  | [d] => { results := [.lit (.bool false)], args := [d] }
  | _ => none }
def FnExactHeightOfWrongFalsely : Prop := fnExactHeightOfRow.holds Try.pinned (OpenSpec.ofChange fnExactHeightOfWrong)

/-- 'laws.FnExactRootSign': WHATEVER THE INPUT: true; the input reads as it did. -/
def fnExactRootSignSpec : ChangeSpec := { name := "fnExactRootSign", fn := fun _ => fun
  | [d] => { results := [.lit (.bool true)], args := [d] }
  | _ => none }
def fnExactRootSignRow : OpenClaim := { program := "ytlbgblkoddlhnaa", sum := "d4c315936ad0e914f7aa25fa55e0501aa13096a2944755b532747abb0016c794", func := "loop.example/g02076/laws.FnExactRootSign", spec := "fnExactRootSign", plainKeys := false, apart := false }
def FnExactRootSignSaid : Prop := fnExactRootSignRow.holds Try.pinned (OpenSpec.ofChange fnExactRootSignSpec)

/-- ITS FALSE NEIGHBOUR: 'it returns false'. Refute it at one input. -/
def fnExactRootSignWrong : ChangeSpec := { name := "fnExactRootSign", fn := fun _ => fun
  | [d] => { results := [.lit (.bool false)], args := [d] }
  | _ => none }
def FnExactRootSignWrongFalsely : Prop := fnExactRootSignRow.holds Try.pinned (OpenSpec.ofChange fnExactRootSignWrong)

/-- 'laws.FnExactPositiveRoots': WHATEVER THE INPUT: true; the input reads as it did. -/
def fnExactPositiveRootsSpec : ChangeSpec := { name := "fnExactPositiveRoots", fn := fun _ => fun
  | [d] => { results := [.lit (.bool true)], args := [d] }
  | _ => none }
def fnExactPositiveRootsRow : OpenClaim := { program := "ytlbgblkoddlhnaa", sum := "d4c315936ad0e914f7aa25fa55e0501aa13096a2944755b532747abb0016c794", func := "loop.example/g02076/laws.FnExactPositiveRoots", spec := "fnExactPositiveRoots", unfollowed := true, recurses := true, plainKeys := false, apart := false }
def FnExactPositiveRootsSaid : Prop := fnExactPositiveRootsRow.holds Try.pinned (OpenSpec.ofChange fnExactPositiveRootsSpec)

/-- ITS FALSE NEIGHBOUR: 'it returns false'. Refute it at one input. -/
def fnExactPositiveRootsWrong : ChangeSpec := { name := "fnExactPositiveRoots", fn := fun _ => fun
  | [d] => { results := [.lit (.bool false)], args := [d] }
  | _ => none }
def FnExactPositiveRootsWrongFalsely : Prop := fnExactPositiveRootsRow.holds Try.pinned (OpenSpec.ofChange fnExactPositiveRootsWrong)

/-- 'laws.FnExactRootsUpTo': WHATEVER THE INPUT: true; the input reads as it did. -/
def fnExactRootsUpToSpec : ChangeSpec := { name := "fnExactRootsUpTo", fn := fun _ => fun
  | [d1, d2] => { results := [.lit (.bool true)], args := [d1, d2] }
  | _ => none }
def fnExactRootsUpToRow : OpenClaim := { program := "ytlbgblkoddlhnaa", sum := "d4c315936ad0e914f7aa25fa55e0501aa13096a2944755b532747abb0016c794", func := "loop.example/g02076/laws.FnExactRootsUpTo", spec := "fnExactRootsUpTo", unfollowed := true, recurses := true, plainKeys := false, apart := false }
def FnExactRootsUpToSaid : Prop := fnExactRootsUpToRow.holds Try.pinned (OpenSpec.ofChange fnExactRootsUpToSpec)

/-- ITS FALSE NEIGHBOUR: 'it returns false'. Refute it at one input. -/
def fnExactRootsUpToWrong : ChangeSpec := { name := "fnExactRootsUpTo", fn := fun _ => fun
  | [d1, d2] => { results := [.lit (.bool false)], args := [d1, d2] }
  | _ => none }
def FnExactRootsUpToWrongFalsely : Prop := fnExactRootsUpToRow.holds Try.pinned (OpenSpec.ofChange fnExactRootsUpToWrong)

/-- 'laws.FnExactHighestRoot': WHATEVER THE INPUT: true; the input reads as it did. -/
def fnExactHighestRootSpec : ChangeSpec := { name := "fnExactHighestRoot", fn := fun _ => fun
  | [d] => { results := [.lit (.bool true)], args := [d] }
  | _ => none }
def fnExactHighestRootRow : OpenClaim := { program := "ytlbgblkoddlhnaa", sum := "d4c315936ad0e914f7aa25fa55e0501aa13096a2944755b532747abb0016c794", func := "loop.example/g02076/laws.FnExactHighestRoot", spec := "fnExactHighestRoot", unfollowed := true, recurses := true, plainKeys := false, apart := false }
def FnExactHighestRootSaid : Prop := fnExactHighestRootRow.holds Try.pinned (OpenSpec.ofChange fnExactHighestRootSpec)

/-- ITS FALSE NEIGHBOUR: 'it returns false'. Refute it at one input. -/
def fnExactHighestRootWrong : ChangeSpec := { name := "fnExactHighestRoot", fn := fun _ => fun
  | [d] => { results := [.lit (.bool false)], args := [d] }
  | _ => none }
def FnExactHighestRootWrongFalsely : Prop := fnExactHighestRootRow.holds Try.pinned (OpenSpec.ofChange fnExactHighestRootWrong)

/- THE SECOND FORM. 'bulk': how many values and letters a reading holds, each counted each time it is reached (what is shared counts as often as it is met; a slice's spare places count too). A statement '..UptoSaid' is the law's where the arguments, and the package variables that the reading takes, are together of bulk at most 1048576: NARROWER than '..Said'. Prove '..Said' where nothing that the law and all that it calls make is longer than what came in: it says more and counts as full. Else prove '..UptoSaid'. A law counts once. -/
mutual
def uptoBulk {H : Type} : DataW H → Nat
  | .lit (.string bytes) => bytes.length + 1
  | .lit _ => 1
  | .nil => 1
  | .ptr d => uptoBulk d + 1
  | .slice elems spare => uptoBulkAll elems + uptoBulkAll spare + 1
  | .agg parts => uptoBulkAll parts + 1
  | .iface _ d => uptoBulk d + 1
  | .map entries => uptoBulkEntries entries + 1
  | .held _ => 1
def uptoBulkAll {H : Type} : List (DataW H) → Nat
  | [] => 0
  | d :: r => uptoBulk d + uptoBulkAll r
def uptoBulkEntries {H : Type} : List (Lit × DataW H) → Nat
  | [] => 0
  | x :: r => uptoBulkEntry x + uptoBulkEntries r
def uptoBulkEntry {H : Type} : Lit × DataW H → Nat
  | (.string bytes, d) => bytes.length + uptoBulk d + 1
  | (_, d) => uptoBulk d + 1
 end
def uptoSmall : (H : Type) → List (DataW H) → Bool := fun _ ds => decide (uptoBulkAll ds ≤ 1048576)
def OpenSpec.upto (s : _root_.Go.ChangeSpec) : _root_.Go.OpenSpec := { _root_.Go.OpenSpec.ofChange s with cond := some uptoSmall }

/-- 'laws.FnExactReflectWeight', WHERE WHAT IT READS IS OF BULK AT MOST 1048576: true; the input reads as it did. -/
def fnExactReflectWeightUptoRow : OpenClaim := { program := "ytlbgblkoddlhnaa", sum := "d4c315936ad0e914f7aa25fa55e0501aa13096a2944755b532747abb0016c794", func := "loop.example/g02076/laws.FnExactReflectWeight", spec := "fnExactReflectWeight", unfollowed := true, recurses := true, plainKeys := false, apart := false, narrowed := true }
def FnExactReflectWeightUptoSaid : Prop := fnExactReflectWeightUptoRow.holds Try.pinned (OpenSpec.upto fnExactReflectWeightSpec)

/-- 'laws.FnExactActOnWeight', WHERE WHAT IT READS IS OF BULK AT MOST 1048576: true; the input reads as it did. -/
def fnExactActOnWeightUptoRow : OpenClaim := { program := "ytlbgblkoddlhnaa", sum := "d4c315936ad0e914f7aa25fa55e0501aa13096a2944755b532747abb0016c794", func := "loop.example/g02076/laws.FnExactActOnWeight", spec := "fnExactActOnWeight", unfollowed := true, recurses := true, plainKeys := false, apart := false, narrowed := true }
def FnExactActOnWeightUptoSaid : Prop := fnExactActOnWeightUptoRow.holds Try.pinned (OpenSpec.upto fnExactActOnWeightSpec)

/-- 'laws.FnExactIsRootVector', WHERE WHAT IT READS IS OF BULK AT MOST 1048576: true; the input reads as it did. -/
def fnExactIsRootVectorUptoRow : OpenClaim := { program := "ytlbgblkoddlhnaa", sum := "d4c315936ad0e914f7aa25fa55e0501aa13096a2944755b532747abb0016c794", func := "loop.example/g02076/laws.FnExactIsRootVector", spec := "fnExactIsRootVector", unfollowed := true, recurses := true, plainKeys := false, apart := false, narrowed := true }
def FnExactIsRootVectorUptoSaid : Prop := fnExactIsRootVectorUptoRow.holds Try.pinned (OpenSpec.upto fnExactIsRootVectorSpec)

/-- 'laws.FnExactReflectRoot', WHERE WHAT IT READS IS OF BULK AT MOST 1048576: true; the input reads as it did. -/
def fnExactReflectRootUptoRow : OpenClaim := { program := "ytlbgblkoddlhnaa", sum := "d4c315936ad0e914f7aa25fa55e0501aa13096a2944755b532747abb0016c794", func := "loop.example/g02076/laws.FnExactReflectRoot", spec := "fnExactReflectRoot", unfollowed := true, recurses := true, plainKeys := false, apart := false, narrowed := true }
def FnExactReflectRootUptoSaid : Prop := fnExactReflectRootUptoRow.holds Try.pinned (OpenSpec.upto fnExactReflectRootSpec)

/-- 'laws.FnExactActOnRoot', WHERE WHAT IT READS IS OF BULK AT MOST 1048576: true; the input reads as it did. -/
def fnExactActOnRootUptoRow : OpenClaim := { program := "ytlbgblkoddlhnaa", sum := "d4c315936ad0e914f7aa25fa55e0501aa13096a2944755b532747abb0016c794", func := "loop.example/g02076/laws.FnExactActOnRoot", spec := "fnExactActOnRoot", unfollowed := true, recurses := true, plainKeys := false, apart := false, narrowed := true }
def FnExactActOnRootUptoSaid : Prop := fnExactActOnRootUptoRow.holds Try.pinned (OpenSpec.upto fnExactActOnRootSpec)

/-- 'laws.FnExactSimpleRoot', WHERE WHAT IT READS IS OF BULK AT MOST 1048576: true; the input reads as it did. -/
def fnExactSimpleRootUptoRow : OpenClaim := { program := "ytlbgblkoddlhnaa", sum := "d4c315936ad0e914f7aa25fa55e0501aa13096a2944755b532747abb0016c794", func := "loop.example/g02076/laws.FnExactSimpleRoot", spec := "fnExactSimpleRoot", plainKeys := false, apart := false, narrowed := true }
def FnExactSimpleRootUptoSaid : Prop := fnExactSimpleRootUptoRow.holds Try.pinned (OpenSpec.upto fnExactSimpleRootSpec)

/-- 'laws.FnExactHeightOf', WHERE WHAT IT READS IS OF BULK AT MOST 1048576: true; the input reads as it did. -/
def fnExactHeightOfUptoRow : OpenClaim := { program := "ytlbgblkoddlhnaa", sum := "d4c315936ad0e914f7aa25fa55e0501aa13096a2944755b532747abb0016c794", func := "loop.example/g02076/laws.FnExactHeightOf", spec := "fnExactHeightOf", plainKeys := false, apart := false, narrowed := true }
def FnExactHeightOfUptoSaid : Prop := fnExactHeightOfUptoRow.holds Try.pinned (OpenSpec.upto fnExactHeightOfSpec)

/-- 'laws.FnExactRootSign', WHERE WHAT IT READS IS OF BULK AT MOST 1048576: true; the input reads as it did. -/
def fnExactRootSignUptoRow : OpenClaim := { program := "ytlbgblkoddlhnaa", sum := "d4c315936ad0e914f7aa25fa55e0501aa13096a2944755b532747abb0016c794", func := "loop.example/g02076/laws.FnExactRootSign", spec := "fnExactRootSign", plainKeys := false, apart := false, narrowed := true }
def FnExactRootSignUptoSaid : Prop := fnExactRootSignUptoRow.holds Try.pinned (OpenSpec.upto fnExactRootSignSpec)

/-- 'laws.FnExactPositiveRoots', WHERE WHAT IT READS IS OF BULK AT MOST 1048576: true; the input reads as it did. -/
def fnExactPositiveRootsUptoRow : OpenClaim := { program := "ytlbgblkoddlhnaa", sum := "d4c315936ad0e914f7aa25fa55e0501aa13096a2944755b532747abb0016c794", func := "loop.example/g02076/laws.FnExactPositiveRoots", spec := "fnExactPositiveRoots", unfollowed := true, recurses := true, plainKeys := false, apart := false, narrowed := true }
def FnExactPositiveRootsUptoSaid : Prop := fnExactPositiveRootsUptoRow.holds Try.pinned (OpenSpec.upto fnExactPositiveRootsSpec)

/-- 'laws.FnExactRootsUpTo', WHERE WHAT IT READS IS OF BULK AT MOST 1048576: true; the input reads as it did. -/
def fnExactRootsUpToUptoRow : OpenClaim := { program := "ytlbgblkoddlhnaa", sum := "d4c315936ad0e914f7aa25fa55e0501aa13096a2944755b532747abb0016c794", func := "loop.example/g02076/laws.FnExactRootsUpTo", spec := "fnExactRootsUpTo", unfollowed := true, recurses := true, plainKeys := false, apart := false, narrowed := true }
def FnExactRootsUpToUptoSaid : Prop := fnExactRootsUpToUptoRow.holds Try.pinned (OpenSpec.upto fnExactRootsUpToSpec)

/-- 'laws.FnExactHighestRoot', WHERE WHAT IT READS IS OF BULK AT MOST 1048576: true; the input reads as it did. -/
def fnExactHighestRootUptoRow : OpenClaim := { program := "ytlbgblkoddlhnaa", sum := "d4c315936ad0e914f7aa25fa55e0501aa13096a2944755b532747abb0016c794", func := "loop.example/g02076/laws.FnExactHighestRoot", spec := "fnExactHighestRoot", unfollowed := true, recurses := true, plainKeys := false, apart := false, narrowed := true }
def FnExactHighestRootUptoSaid : Prop := fnExactHighestRootUptoRow.holds Try.pinned (OpenSpec.upto fnExactHighestRootSpec)

end Rows
end Go.Proofs.Ytlbgblkoddlhnaa
