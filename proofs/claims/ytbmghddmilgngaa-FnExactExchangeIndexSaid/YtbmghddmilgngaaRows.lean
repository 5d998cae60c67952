/-
  No cell of these rows narrows 'for every input' (looked for: loops, veiled, ifaces, maps, wideKeys, modest, calm, conditions, laid).
  DERIVED. THE GIVEN ROWS OF THIS SEAT. 6 by the template 'for every input the law returns true; each argument reads behind the call as it read before'; 0 by the template 'total and deterministic' (their statements: YtbmghddmilgngaaTotals.lean).
  GIVEN WITH THE SEED: the statements are not yours to turn. If you find one false, say at which input.
  Laid BY PROGRAM, IN A SANDBOX (cutbox-rows.mjs): the forced cells as the released guide's own fill.sh prints them over the translation ea1551b69efd4a84… (all of the seat's roots in one cut). By AI agents, Wed Nov 11 2026. No macro, syntax, notation, axiom, sorry.
-/
import Derived.Test.YtbmghddmilgngaaChecked
import GoSem.Claim
import GoSem.ClaimJoined
import GoSem.ClaimMapViews
import Derived.JoinedTies
import Derived.KernelRfl
namespace Go.Proofs.Ytbmghddmilgngaa
/- THE CELL 'sum', in the pinned program and in every row, IS THE sha256 OF THE DUMP (.gsa) THAT YtbmghddmilgngaaProg.lean LOADS. Nothing in Lean hashes anything: it is a label: what it is worth is what the hold of that sum in a sandbox is worth. -/
noncomputable def Try.pinned : Pinned := { name := "ytbmghddmilgngaa", sum := "ea1551b69efd4a84d10adb6ede1021b28913453f0037b9989116a99b21aade12", checked := Try.checked }
namespace Rows
def none {H : Type} : Left H := { results := [], args := [] }

/-- 'laws.FnExchanges': WHATEVER THE INPUT: true; the input reads as it did. -/
def fnExchangesSpec : ChangeSpec := { name := "fnExchanges", fn := fun _ => fun
  | [d] => { results := [.lit (.bool true)], args := [d] }
  | _ => none }
def fnExchangesRow : OpenClaim := { program := "ytbmghddmilgngaa", sum := "ea1551b69efd4a84d10adb6ede1021b28913453f0037b9989116a99b21aade12", func := "loop.example/g02076/laws.FnExchanges", spec := "fnExchanges", unfollowed := true, recurses := true, apart := false }
def FnExchangesSaid : Prop := fnExchangesRow.holds Try.pinned (OpenSpec.ofChange fnExchangesSpec)

/-- ITS FALSE NEIGHBOUR: 'it returns false'. Refute it at one input. -/
def fnExchangesWrong : ChangeSpec := { name := "fnExchanges", fn := fun _ => fun
  | [d] => { results := [.lit (.bool false)], args := [d] }
  | _ => none }
def FnExchangesWrongFalsely : Prop := fnExchangesRow.holds Try.pinned (OpenSpec.ofChange fnExchangesWrong)

/-- 'laws.FnExactExchangeIndex': WHATEVER THE INPUT: true; the input reads as it did. -/
def fnExactExchangeIndexSpec : ChangeSpec := { name := "fnExactExchangeIndex", fn := fun _ => fun
  | [d1, d2, d3] => { results := [.lit (.bool true)], args := [d1, d2, d3] }
  | _ => none }
def fnExactExchangeIndexRow : OpenClaim := { program := "ytbmghddmilgngaa", sum := "ea1551b69efd4a84d10adb6ede1021b28913453f0037b9989116a99b21aade12", func := "loop.example/g02076/laws.FnExactExchangeIndex", spec := "fnExactExchangeIndex", unfollowed := true, recurses := true, apart := false }
def FnExactExchangeIndexSaid : Prop := fnExactExchangeIndexRow.holds Try.pinned (OpenSpec.ofChange fnExactExchangeIndexSpec)

/-- ITS FALSE NEIGHBOUR: 'it returns false'. Refute it at one input. -/
def fnExactExchangeIndexWrong : ChangeSpec := { name := "fnExactExchangeIndex", fn := fun _ => fun
  | [d1, d2, d3] => { results := [.lit (.bool false)], args := [d1, d2, d3] }
  | _ => none }
def FnExactExchangeIndexWrongFalsely : Prop := fnExactExchangeIndexRow.holds Try.pinned (OpenSpec.ofChange fnExactExchangeIndexWrong)

/-- 'laws.FnExactDeleteAt': WHATEVER THE INPUT: true; the input reads as it did. -/
def fnExactDeleteAtSpec : ChangeSpec := { name := "fnExactDeleteAt", fn := fun _ => fun
  | [d1, d2] => { results := [.lit (.bool true)], args := [d1, d2] }
  | _ => none }
def fnExactDeleteAtRow : OpenClaim := { program := "ytbmghddmilgngaa", sum := "ea1551b69efd4a84d10adb6ede1021b28913453f0037b9989116a99b21aade12", func := "loop.example/g02076/laws.FnExactDeleteAt", spec := "fnExactDeleteAt", apart := false }
def FnExactDeleteAtSaid : Prop := fnExactDeleteAtRow.holds Try.pinned (OpenSpec.ofChange fnExactDeleteAtSpec)

/-- ITS FALSE NEIGHBOUR: 'it returns false'. Refute it at one input. -/
def fnExactDeleteAtWrong : ChangeSpec := { name := "fnExactDeleteAt", fn := fun _ => fun
  | [d1, d2] => { results := [.lit (.bool false)], args := [d1, d2] }
  | _ => none }
def FnExactDeleteAtWrongFalsely : Prop := fnExactDeleteAtRow.holds Try.pinned (OpenSpec.ofChange fnExactDeleteAtWrong)

/-- 'laws.FnExactDeletionPair': WHATEVER THE INPUT: true; the input reads as it did. -/
def fnExactDeletionPairSpec : ChangeSpec := { name := "fnExactDeletionPair", fn := fun _ => fun
  | [d1, d2] => { results := [.lit (.bool true)], args := [d1, d2] }
  | _ => none }
def fnExactDeletionPairRow : OpenClaim := { program := "ytbmghddmilgngaa", sum := "ea1551b69efd4a84d10adb6ede1021b28913453f0037b9989116a99b21aade12", func := "loop.example/g02076/laws.FnExactDeletionPair", spec := "fnExactDeletionPair", unfollowed := true, recurses := true, apart := false }
def FnExactDeletionPairSaid : Prop := fnExactDeletionPairRow.holds Try.pinned (OpenSpec.ofChange fnExactDeletionPairSpec)

/-- ITS FALSE NEIGHBOUR: 'it returns false'. Refute it at one input. -/
def fnExactDeletionPairWrong : ChangeSpec := { name := "fnExactDeletionPair", fn := fun _ => fun
  | [d1, d2] => { results := [.lit (.bool false)], args := [d1, d2] }
  | _ => none }
def FnExactDeletionPairWrongFalsely : Prop := fnExactDeletionPairRow.holds Try.pinned (OpenSpec.ofChange fnExactDeletionPairWrong)

/-- 'laws.FnExactReduceByDeletion': WHATEVER THE INPUT: true; the input reads as it did. -/
def fnExactReduceByDeletionSpec : ChangeSpec := { name := "fnExactReduceByDeletion", fn := fun _ => fun
  | [d1, d2] => { results := [.lit (.bool true)], args := [d1, d2] }
  | _ => none }
def fnExactReduceByDeletionRow : OpenClaim := { program := "ytbmghddmilgngaa", sum := "ea1551b69efd4a84d10adb6ede1021b28913453f0037b9989116a99b21aade12", func := "loop.example/g02076/laws.FnExactReduceByDeletion", spec := "fnExactReduceByDeletion", unfollowed := true, recurses := true, apart := false }
def FnExactReduceByDeletionSaid : Prop := fnExactReduceByDeletionRow.holds Try.pinned (OpenSpec.ofChange fnExactReduceByDeletionSpec)

/-- ITS FALSE NEIGHBOUR: 'it returns false'. Refute it at one input. -/
def fnExactReduceByDeletionWrong : ChangeSpec := { name := "fnExactReduceByDeletion", fn := fun _ => fun
  | [d1, d2] => { results := [.lit (.bool false)], args := [d1, d2] }
  | _ => none }
def FnExactReduceByDeletionWrongFalsely : Prop := fnExactReduceByDeletionRow.holds Try.pinned (OpenSpec.ofChange fnExactReduceByDeletionWrong)

/-- 'laws.FnExactReplayDeletions': WHATEVER THE INPUT: true; the input reads as it did. -/
def fnExactReplayDeletionsSpec : ChangeSpec := { name := "fnExactReplayDeletions", fn := fun _ => fun
  | [d1, d2] => { results := [.lit (.bool true)], args := [d1, d2] }
  | _ => none }
def fnExactReplayDeletionsRow : OpenClaim := { program := "ytbmghddmilgngaa", sum := "ea1551b69efd4a84d10adb6ede1021b28913453f0037b9989116a99b21aade12", func := "loop.example/g02076/laws.FnExactReplayDeletions", spec := "fnExactReplayDeletions", apart := false }
def FnExactReplayDeletionsSaid : Prop := fnExactReplayDeletionsRow.holds Try.pinned (OpenSpec.ofChange fnExactReplayDeletionsSpec)

/-- ITS FALSE NEIGHBOUR: 'it returns false'. Refute it at one input. -/
def fnExactReplayDeletionsWrong : ChangeSpec := { name := "fnExactReplayDeletions", fn := fun _ => fun
  | [d1, d2] => { results := [.lit (.bool false)], args := [d1, d2] }
  | _ => none }
def FnExactReplayDeletionsWrongFalsely : Prop := fnExactReplayDeletionsRow.holds Try.pinned (OpenSpec.ofChange fnExactReplayDeletionsWrong)

/- THE SECOND FORM. 'bulk': how many values and letters a reading holds, each counted each time it is reached (what is shared counts as often as it is met; a slice's spare places count too). A statement '..UptoSaid' is the law's where the arguments, and the package variables that the reading takes, are together of bulk at most 1048576: NARROWER than '..Said'. Prove '..Said' where nothing that the law and all that it calls make is longer than what came in: it says more and counts as full. Else prove '..UptoSaid'. A law counts once. -/
mutual
def uptoBulk {H : Type} : DataW H → Nat
  | .lit (.string bytes) => bytes.length + 1
  | .lit _ => 1
  | .nil => 1
  | .ptr d => uptoBulk d + 1
  | .slice elems spare => uptoBulkAll elems + uptoBulkAll spare + 1
  | .agg parts => uptoBulkAll parts + 1
  | .iface _ d => uptoBulk d + 1
  | .map entries => uptoBulkEntries entries + 1
  | .held _ => 1
def uptoBulkAll {H : Type} : List (DataW H) → Nat
  | [] => 0
  | d :: r => uptoBulk d + uptoBulkAll r
def uptoBulkEntries {H : Type} : List (Lit × DataW H) → Nat
  | [] => 0
  | x :: r => uptoBulkEntry x + uptoBulkEntries r
def uptoBulkEntry {H : Type} : Lit × DataW H → Nat
  | (.string bytes, d) => bytes.length + uptoBulk d + 1
  | (_, d) => uptoBulk d + 1
 end
def uptoSmall : (H : Type) → List (DataW H) → Bool := fun _ ds => decide (uptoBulkAll ds ≤ 1048576)
def OpenSpec.upto (s : _root_.Go.ChangeSpec) : _root_.Go.OpenSpec := { _root_.Go.OpenSpec.ofChange s with cond := some uptoSmall }

/-- 'laws.FnExchanges', WHERE WHAT IT READS IS OF BULK AT MOST 1048576: true; the input reads as it did. -/
def fnExchangesUptoRow : OpenClaim := { program := "ytbmghddmilgngaa", sum := "ea1551b69efd4a84d10adb6ede1021b28913453f0037b9989116a99b21aade12", func := "loop.example/g02076/laws.FnExchanges", spec := "fnExchanges", unfollowed := true, recurses := true, apart := false, narrowed := true }
def FnExchangesUptoSaid : Prop := fnExchangesUptoRow.holds Try.pinned (OpenSpec.upto fnExchangesSpec)

/-- 'laws.FnExactExchangeIndex', WHERE WHAT IT READS IS OF BULK AT MOST 1048576: true; the input reads as it did. -/
def fnExactExchangeIndexUptoRow : OpenClaim := { program := "ytbmghddmilgngaa", sum := "ea1551b69efd4a84d10adb6ede1021b28913453f0037b9989116a99b21aade12", func := "loop.example/g02076/laws.FnExactExchangeIndex", spec := "fnExactExchangeIndex", unfollowed := true, recurses := true, apart := false, narrowed := true }
def FnExactExchangeIndexUptoSaid : Prop := fnExactExchangeIndexUptoRow.holds Try.pinned (OpenSpec.upto fnExactExchangeIndexSpec)

/-- 'laws.FnExactDeleteAt', WHERE WHAT IT READS IS OF BULK AT MOST 1048576: true; the input reads as it did. -/
def fnExactDeleteAtUptoRow : OpenClaim := { program := "ytbmghddmilgngaa", sum := "ea1551b69efd4a84d10adb6ede1021b28913453f0037b9989116a99b21aade12", func := "loop.example/g02076/laws.FnExactDeleteAt", spec := "fnExactDeleteAt", apart := false, narrowed := true }
def FnExactDeleteAtUptoSaid : Prop := fnExactDeleteAtUptoRow.holds Try.pinned (OpenSpec.upto fnExactDeleteAtSpec)

/-- 'laws.FnExactDeletionPair', WHERE WHAT IT READS IS OF BULK AT MOST 1048576: true; the input reads as it did. -/
def fnExactDeletionPairUptoRow : OpenClaim := { program := "ytbmghddmilgngaa", sum := "ea1551b69efd4a84d10adb6ede1021b28913453f0037b9989116a99b21aade12", func := "loop.example/g02076/laws.FnExactDeletionPair", spec := "fnExactDeletionPair", unfollowed := true, recurses := true, apart := false, narrowed := true }
def FnExactDeletionPairUptoSaid : Prop := fnExactDeletionPairUptoRow.holds Try.pinned (OpenSpec.upto fnExactDeletionPairSpec)

/-- 'laws.FnExactReduceByDeletion', WHERE WHAT IT READS IS OF BULK AT MOST 1048576: true; the input reads as it did. -/
def fnExactReduceByDeletionUptoRow : OpenClaim := { program := "ytbmghddmilgngaa", sum := "ea1551b69efd4a84d10adb6ede1021b28913453f0037b9989116a99b21aade12", func := "loop.example/g02076/laws.FnExactReduceByDeletion", spec := "fnExactReduceByDeletion", unfollowed := true, recurses := true, apart := false, narrowed := true }
def FnExactReduceByDeletionUptoSaid : Prop := fnExactReduceByDeletionUptoRow.holds Try.pinned (OpenSpec.upto fnExactReduceByDeletionSpec)

/-- 'laws.FnExactReplayDeletions', WHERE WHAT IT READS IS OF BULK AT MOST 1048576: true; the input reads as it did. -/
def fnExactReplayDeletionsUptoRow : OpenClaim := { program := "ytbmghddmilgngaa", sum := "ea1551b69efd4a84d10adb6ede1021b28913453f0037b9989116a99b21aade12", func := "loop.example/g02076/laws.FnExactReplayDeletions", spec := "fnExactReplayDeletions", apart := false, narrowed := true }
def FnExactReplayDeletionsUptoSaid : Prop := fnExactReplayDeletionsUptoRow.holds Try.pinned (OpenSpec.upto fnExactReplayDeletionsSpec)

end Rows
end Go.Proofs.Ytbmghddmilgngaa
