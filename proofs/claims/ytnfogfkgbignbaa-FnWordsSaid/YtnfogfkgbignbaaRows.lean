/-
  No cell of these rows narrows 'for every input' (looked for: loops, veiled, ifaces, maps, wideKeys, modest, calm, conditions, laid).
  DERIVED. THE GIVEN ROWS OF THIS SEAT. 10 by the template 'for every input the law returns true; each argument reads behind the call as it read before'; 0 by the template 'total and deterministic' (their statements: YtnfogfkgbignbaaTotals.lean).
  GIVEN WITH THE SEED: the statements are not yours to turn. If you find one false, say at which input.
  Laid BY PROGRAM, IN A SANDBOX (cutbox-rows.mjs): the forced cells as the released guide's own fill.sh prints them over the translation 4af61f965d69ee33… (all of the seat's roots in one cut). By AI agents, Wed Nov 11 2026. No macro, syntax, notation, axiom, sorry.
-/
import Derived.Test.YtnfogfkgbignbaaChecked
import GoSem.Claim
import GoSem.ClaimJoined
import GoSem.ClaimMapViews
import Derived.JoinedTies
import Derived.KernelRfl
namespace Go.Proofs.Ytnfogfkgbignbaa
/- THE CELL 'sum', in the pinned program and in every row, IS THE sha256 OF THE DUMP (.gsa) THAT YtnfogfkgbignbaaProg.lean LOADS. Nothing in Lean hashes anything: it is a label: what it is worth is what the hold of that sum in a sandbox is worth. -/
noncomputable def Try.pinned : Pinned := { name := "ytnfogfkgbignbaa", sum := "4af61f965d69ee3384f136b8d1f2d48568eb4917a6d7d55f485a073f2cc8e343", checked := Try.checked }
namespace Rows
def none {H : Type} : Left H := { results := [], args := [] }

/-- 'laws.FnWords': WHATEVER THE INPUT: true; the input reads as it did. -/
def fnWordsSpec : ChangeSpec := { name := "fnWords", fn := fun _ => fun
  | [d] => { results := [.lit (.bool true)], args := [d] }
  | _ => none }
def fnWordsRow : OpenClaim := { program := "ytnfogfkgbignbaa", sum := "4af61f965d69ee3384f136b8d1f2d48568eb4917a6d7d55f485a073f2cc8e343", func := "loop.example/g02076/laws.FnWords", spec := "fnWords", recurses := true, apart := false }
def FnWordsSaid : Prop := fnWordsRow.holds Try.pinned (OpenSpec.ofChange fnWordsSpec)

/-- ITS FALSE NEIGHBOUR: 'it returns false'. Refute it at one input. -/
def fnWordsWrong : ChangeSpec := { name := "fnWords", fn := fun _ => fun
  | [d] => { results := [.lit (.bool false)], args := [d] }
  | _ => none }
def FnWordsWrongFalsely : Prop := fnWordsRow.holds Try.pinned (OpenSpec.ofChange fnWordsWrong)

/-- 'laws.FnExactIsWord': WHATEVER THE INPUT: true; the input reads as it did. -/
def fnExactIsWordSpec : ChangeSpec := { name := "fnExactIsWord", fn := fun _ => fun
  | [d1, d2] => { results := [.lit (.bool true)], args := [d1, d2] }
  | _ => none }
def fnExactIsWordRow : OpenClaim := { program := "ytnfogfkgbignbaa", sum := "4af61f965d69ee3384f136b8d1f2d48568eb4917a6d7d55f485a073f2cc8e343", func := "loop.example/g02076/laws.FnExactIsWord", spec := "fnExactIsWord", apart := false }
def FnExactIsWordSaid : Prop := fnExactIsWordRow.holds Try.pinned (OpenSpec.ofChange fnExactIsWordSpec)

/-- ITS FALSE NEIGHBOUR: 'it returns false'. Refute it at one input. -/
def fnExactIsWordWrong : ChangeSpec := { name := "fnExactIsWord", fn := fun _ => fun
  | [d1, d2] => { results := [.lit (.bool false)], args := [d1, d2] }
  | _ => none }
def FnExactIsWordWrongFalsely : Prop := fnExactIsWordRow.holds Try.pinned (OpenSpec.ofChange fnExactIsWordWrong)

/-- 'laws.FnExactConcatWords': WHATEVER THE INPUT: true; the input reads as it did. -/
def fnExactConcatWordsSpec : ChangeSpec := { name := "fnExactConcatWords", fn := fun _ => fun
  | [d1, d2] => { results := [.lit (.bool true)], args := [d1, d2] }
  | _ => none }
def fnExactConcatWordsRow : OpenClaim := { program := "ytnfogfkgbignbaa", sum := "4af61f965d69ee3384f136b8d1f2d48568eb4917a6d7d55f485a073f2cc8e343", func := "loop.example/g02076/laws.FnExactConcatWords", spec := "fnExactConcatWords", apart := false }
def FnExactConcatWordsSaid : Prop := fnExactConcatWordsRow.holds Try.pinned (OpenSpec.ofChange fnExactConcatWordsSpec)

/-- ITS FALSE NEIGHBOUR: 'it returns false'. Refute it at one input. -/
def fnExactConcatWordsWrong : ChangeSpec := { name := "fnExactConcatWords", fn := fun _ => fun
  | [d1, d2] => { results := [.lit (.bool false)], args := [d1, d2] }
  | _ => none }
def FnExactConcatWordsWrongFalsely : Prop := fnExactConcatWordsRow.holds Try.pinned (OpenSpec.ofChange fnExactConcatWordsWrong)

/-- 'laws.FnExactReverseWord': WHATEVER THE INPUT: true; the input reads as it did. -/
def fnExactReverseWordSpec : ChangeSpec := { name := "fnExactReverseWord", fn := fun _ => fun
  | [d] => { results := [.lit (.bool true)], args := [d] }
  | _ => none }
def fnExactReverseWordRow : OpenClaim := { program := "ytnfogfkgbignbaa", sum := "4af61f965d69ee3384f136b8d1f2d48568eb4917a6d7d55f485a073f2cc8e343", func := "loop.example/g02076/laws.FnExactReverseWord", spec := "fnExactReverseWord", apart := false }
def FnExactReverseWordSaid : Prop := fnExactReverseWordRow.holds Try.pinned (OpenSpec.ofChange fnExactReverseWordSpec)

/-- ITS FALSE NEIGHBOUR: 'it returns false'. Refute it at one input. -/
def fnExactReverseWordWrong : ChangeSpec := { name := "fnExactReverseWord", fn := fun _ => fun
  | [d] => { results := [.lit (.bool false)], args := [d] }
  | _ => none }
def FnExactReverseWordWrongFalsely : Prop := fnExactReverseWordRow.holds Try.pinned (OpenSpec.ofChange fnExactReverseWordWrong)

/-- 'laws.FnExactCompareWords': WHATEVER THE INPUT: true; the input reads as it did. -/
def fnExactCompareWordsSpec : ChangeSpec := { name := "fnExactCompareWords", fn := fun _ => fun
  | [d1, d2] => { results := [.lit (.bool true)], args := [d1, d2] }
  | _ => none }
def fnExactCompareWordsRow : OpenClaim := { program := "ytnfogfkgbignbaa", sum := "4af61f965d69ee3384f136b8d1f2d48568eb4917a6d7d55f485a073f2cc8e343", func := "loop.example/g02076/laws.FnExactCompareWords", spec := "fnExactCompareWords", apart := false }
def FnExactCompareWordsSaid : Prop := fnExactCompareWordsRow.holds Try.pinned (OpenSpec.ofChange fnExactCompareWordsSpec)

/-- ITS FALSE NEIGHBOUR: 'it returns false'. Refute it at one input. -/
def fnExactCompareWordsWrong : ChangeSpec := { name := "fnExactCompareWords", fn := fun _ => fun
  | [d1, d2] => { results := [.lit (.bool false)], args := [d1, d2] }
  | _ => none }
def FnExactCompareWordsWrongFalsely : Prop := fnExactCompareWordsRow.holds Try.pinned (OpenSpec.ofChange fnExactCompareWordsWrong)

/-- 'laws.FnExactSupportOf': WHATEVER THE INPUT: true; the input reads as it did. -/
def fnExactSupportOfSpec : ChangeSpec := { name := "fnExactSupportOf", fn := fun _ => fun
  | [d] => { results := [.lit (.bool true)], args := [d] }
  | _ => none }
def fnExactSupportOfRow : OpenClaim := { program := "ytnfogfkgbignbaa", sum := "4af61f965d69ee3384f136b8d1f2d48568eb4917a6d7d55f485a073f2cc8e343", func := "loop.example/g02076/laws.FnExactSupportOf", spec := "fnExactSupportOf", recurses := true, apart := false }
def FnExactSupportOfSaid : Prop := fnExactSupportOfRow.holds Try.pinned (OpenSpec.ofChange fnExactSupportOfSpec)

/-- ITS FALSE NEIGHBOUR: 'it returns false'. Refute it at one input. -/
def fnExactSupportOfWrong : ChangeSpec := { name := "fnExactSupportOf", fn := fun _ => fun
  | [d] => { results := [.lit (.bool false)], args := [d] }
  | _ => none }
def FnExactSupportOfWrongFalsely : Prop := fnExactSupportOfRow.holds Try.pinned (OpenSpec.ofChange fnExactSupportOfWrong)

/-- 'laws.FnExactAlternatingWord': WHATEVER THE INPUT: true; the input reads as it did. -/
def fnExactAlternatingWordSpec : ChangeSpec := { name := "fnExactAlternatingWord", fn := fun _ => fun
  | [d1, d2, d3] => { results := [.lit (.bool true)], args := [d1, d2, d3] }
  | _ => none }
def fnExactAlternatingWordRow : OpenClaim := { program := "ytnfogfkgbignbaa", sum := "4af61f965d69ee3384f136b8d1f2d48568eb4917a6d7d55f485a073f2cc8e343", func := "loop.example/g02076/laws.FnExactAlternatingWord", spec := "fnExactAlternatingWord", apart := false }
def FnExactAlternatingWordSaid : Prop := fnExactAlternatingWordRow.holds Try.pinned (OpenSpec.ofChange fnExactAlternatingWordSpec)

/-- ITS FALSE NEIGHBOUR: 'it returns false'. Refute it at one input. -/
def fnExactAlternatingWordWrong : ChangeSpec := { name := "fnExactAlternatingWord", fn := fun _ => fun
  | [d1, d2, d3] => { results := [.lit (.bool false)], args := [d1, d2, d3] }
  | _ => none }
def FnExactAlternatingWordWrongFalsely : Prop := fnExactAlternatingWordRow.holds Try.pinned (OpenSpec.ofChange fnExactAlternatingWordWrong)

/-- 'laws.FnExactFormatWord': WHATEVER THE INPUT: true; the input reads as it did. -/
def fnExactFormatWordSpec : ChangeSpec := { name := "fnExactFormatWord", fn := fun _ => fun
  | [d] => { results := [.lit (.bool true)], args := [d] }
  | _ => none }
def fnExactFormatWordRow : OpenClaim := { program := "ytnfogfkgbignbaa", sum := "4af61f965d69ee3384f136b8d1f2d48568eb4917a6d7d55f485a073f2cc8e343", func := "loop.example/g02076/laws.FnExactFormatWord", spec := "fnExactFormatWord", apart := false }
def FnExactFormatWordSaid : Prop := fnExactFormatWordRow.holds Try.pinned (OpenSpec.ofChange fnExactFormatWordSpec)

/-- ITS FALSE NEIGHBOUR: 'it returns false'. Refute it at one input. -/
def fnExactFormatWordWrong : ChangeSpec := { name := "fnExactFormatWord", fn := fun _ => fun
  | [d] => { results := [.lit (.bool false)], args := [d] }
  | _ => none }
def FnExactFormatWordWrongFalsely : Prop := fnExactFormatWordRow.holds Try.pinned (OpenSpec.ofChange fnExactFormatWordWrong)

/-- 'laws.FnExactParseWord': WHATEVER THE INPUT: true; the input reads as it did. -/
def fnExactParseWordSpec : ChangeSpec := { name := "fnExactParseWord", fn := fun _ => fun
  | [d1, d2] => { results := [.lit (.bool true)], args := [d1, d2] }
  | _ => none }
def fnExactParseWordRow : OpenClaim := { program := "ytnfogfkgbignbaa", sum := "4af61f965d69ee3384f136b8d1f2d48568eb4917a6d7d55f485a073f2cc8e343", func := "loop.example/g02076/laws.FnExactParseWord", spec := "fnExactParseWord", apart := false }
def FnExactParseWordSaid : Prop := fnExactParseWordRow.holds Try.pinned (OpenSpec.ofChange fnExactParseWordSpec)

/-- ITS FALSE NEIGHBOUR: 'it returns false'. Refute it at one input. -/
def fnExactParseWordWrong : ChangeSpec := { name := "fnExactParseWord", fn := fun _ => fun
  | [d1, d2] => { results := [.lit (.bool false)], args := [d1, d2] }
  | _ => none }
def FnExactParseWordWrongFalsely : Prop := fnExactParseWordRow.holds Try.pinned (OpenSpec.ofChange fnExactParseWordWrong)

/-- 'laws.FnExactEqualWords': WHATEVER THE INPUT: true; the input reads as it did. -/
def fnExactEqualWordsSpec : ChangeSpec := { name := "fnExactEqualWords", fn := fun _ => fun
  | [d1, d2] => { results := [.lit (.bool true)], args := [d1, d2] }
  | _ => none }
def fnExactEqualWordsRow : OpenClaim := { program := "ytnfogfkgbignbaa", sum := "4af61f965d69ee3384f136b8d1f2d48568eb4917a6d7d55f485a073f2cc8e343", func := "loop.example/g02076/laws.FnExactEqualWords", spec := "fnExactEqualWords", apart := false }
def FnExactEqualWordsSaid : Prop := fnExactEqualWordsRow.holds Try.pinned (OpenSpec.ofChange fnExactEqualWordsSpec)

/-- ITS FALSE NEIGHBOUR: 'it returns false'. Refute it at one input. -/
def fnExactEqualWordsWrong : ChangeSpec := { name := "fnExactEqualWords", fn := fun _ => fun
  | [d1, d2] => { results := [.lit (.bool false)], args := [d1, d2] }
  | _ => none }
def FnExactEqualWordsWrongFalsely : Prop := fnExactEqualWordsRow.holds Try.pinned (OpenSpec.ofChange fnExactEqualWordsWrong)

/- THE SECOND FORM. 'bulk': how many values and letters a reading holds, each counted each time it is reached (what is shared counts as often as it is met; a slice's spare places count too). A statement '..UptoSaid' is the law's where the arguments, and the package variables that the reading takes, are together of bulk at most 1048576: NARROWER than '..Said'. Prove '..Said' where nothing that the law and all that it calls make is longer than what came in: it says more and counts as full. Else prove '..UptoSaid'. A law counts once. -/
mutual
def uptoBulk {H : Type} : DataW H → Nat
  | .lit (.string bytes) => bytes.length + 1
  | .lit _ => 1
  | .nil => 1
  | .ptr d => uptoBulk d + 1
  | .slice elems spare => uptoBulkAll elems + uptoBulkAll spare + 1
  | .agg parts => uptoBulkAll parts + 1
  | .iface _ d => uptoBulk d + 1
  | .map entries => uptoBulkEntries entries + 1
  | .held _ => 1
def uptoBulkAll {H : Type} : List (DataW H) → Nat
  | [] => 0
  | d :: r => uptoBulk d + uptoBulkAll r
def uptoBulkEntries {H : Type} : List (Lit × DataW H) → Nat
  | [] => 0
  | x :: r => uptoBulkEntry x + uptoBulkEntries r
def uptoBulkEntry {H : Type} : Lit × DataW H → Nat
  | (.string bytes, d) => bytes.length + uptoBulk d + 1
  | (_, d) => uptoBulk d + 1
 end
def uptoSmall : (H : Type) → List (DataW H) → Bool := fun _ ds => decide (uptoBulkAll ds ≤ 1048576)
def OpenSpec.upto (s : _root_.Go.ChangeSpec) : _root_.Go.OpenSpec := { _root_.Go.OpenSpec.ofChange s with cond := some uptoSmall }

/-- 'laws.FnWords', WHERE WHAT IT READS IS OF BULK AT MOST 1048576: true; the input reads as it did. -/
def fnWordsUptoRow : OpenClaim := { program := "ytnfogfkgbignbaa", sum := "4af61f965d69ee3384f136b8d1f2d48568eb4917a6d7d55f485a073f2cc8e343", func := "loop.example/g02076/laws.FnWords", spec := "fnWords", recurses := true, apart := false, narrowed := true }
def FnWordsUptoSaid : Prop := fnWordsUptoRow.holds Try.pinned (OpenSpec.upto fnWordsSpec)

/-- 'laws.FnExactIsWord', WHERE WHAT IT READS IS OF BULK AT MOST 1048576: true; the input reads as it did. -/
def fnExactIsWordUptoRow : OpenClaim := { program := "ytnfogfkgbignbaa", sum := "4af61f965d69ee3384f136b8d1f2d48568eb4917a6d7d55f485a073f2cc8e343", func := "loop.example/g02076/laws.FnExactIsWord", spec := "fnExactIsWord", apart := false, narrowed := true }
def FnExactIsWordUptoSaid : Prop := fnExactIsWordUptoRow.holds Try.pinned (OpenSpec.upto fnExactIsWordSpec)

/-- 'laws.FnExactConcatWords', WHERE WHAT IT READS IS OF BULK AT MOST 1048576: true; the input reads as it did. -/
def fnExactConcatWordsUptoRow : OpenClaim := { program := "ytnfogfkgbignbaa", sum := "4af61f965d69ee3384f136b8d1f2d48568eb4917a6d7d55f485a073f2cc8e343", func := "loop.example/g02076/laws.FnExactConcatWords", spec := "fnExactConcatWords", apart := false, narrowed := true }
def FnExactConcatWordsUptoSaid : Prop := fnExactConcatWordsUptoRow.holds Try.pinned (OpenSpec.upto fnExactConcatWordsSpec)

/-- 'laws.FnExactReverseWord', WHERE WHAT IT READS IS OF BULK AT MOST 1048576: true; the input reads as it did. -/
def fnExactReverseWordUptoRow : OpenClaim := { program := "ytnfogfkgbignbaa", sum := "4af61f965d69ee3384f136b8d1f2d48568eb4917a6d7d55f485a073f2cc8e343", func := "loop.example/g02076/laws.FnExactReverseWord", spec := "fnExactReverseWord", apart := false, narrowed := true }
def FnExactReverseWordUptoSaid : Prop := fnExactReverseWordUptoRow.holds Try.pinned (OpenSpec.upto fnExactReverseWordSpec)

/-- 'laws.FnExactCompareWords', WHERE WHAT IT READS IS OF BULK AT MOST 1048576: true; the input reads as it did. -/
def fnExactCompareWordsUptoRow : OpenClaim := { program := "ytnfogfkgbignbaa", sum := "4af61f965d69ee3384f136b8d1f2d48568eb4917a6d7d55f485a073f2cc8e343", func := "loop.example/g02076/laws.FnExactCompareWords", spec := "fnExactCompareWords", apart := false, narrowed := true }
def FnExactCompareWordsUptoSaid : Prop := fnExactCompareWordsUptoRow.holds Try.pinned (OpenSpec.upto fnExactCompareWordsSpec)

/-- 'laws.FnExactSupportOf', WHERE WHAT IT READS IS OF BULK AT MOST 1048576: true; the input reads as it did. -/
def fnExactSupportOfUptoRow : OpenClaim := { program := "ytnfogfkgbignbaa", sum := "4af61f965d69ee3384f136b8d1f2d48568eb4917a6d7d55f485a073f2cc8e343", func := "loop.example/g02076/laws.FnExactSupportOf", spec := "fnExactSupportOf", recurses := true, apart := false, narrowed := true }
def FnExactSupportOfUptoSaid : Prop := fnExactSupportOfUptoRow.holds Try.pinned (OpenSpec.upto fnExactSupportOfSpec)

/-- 'laws.FnExactAlternatingWord', WHERE WHAT IT READS IS OF BULK AT MOST 1048576: true; the input reads as it did. -/
def fnExactAlternatingWordUptoRow : OpenClaim := { program := "ytnfogfkgbignbaa", sum := "4af61f965d69ee3384f136b8d1f2d48568eb4917a6d7d55f485a073f2cc8e343", func := "loop.example/g02076/laws.FnExactAlternatingWord", spec := "fnExactAlternatingWord", apart := false, narrowed := true }
def FnExactAlternatingWordUptoSaid : Prop := fnExactAlternatingWordUptoRow.holds Try.pinned (OpenSpec.upto fnExactAlternatingWordSpec)

/-- 'laws.FnExactFormatWord', WHERE WHAT IT READS IS OF BULK AT MOST 1048576: true; the input reads as it did. -/
def fnExactFormatWordUptoRow : OpenClaim := { program := "ytnfogfkgbignbaa", sum := "4af61f965d69ee3384f136b8d1f2d48568eb4917a6d7d55f485a073f2cc8e343", func := "loop.example/g02076/laws.FnExactFormatWord", spec := "fnExactFormatWord", apart := false, narrowed := true }
def FnExactFormatWordUptoSaid : Prop := fnExactFormatWordUptoRow.holds Try.pinned (OpenSpec.upto fnExactFormatWordSpec)

/-- 'laws.FnExactParseWord', WHERE WHAT IT READS IS OF BULK AT MOST 1048576: true; the input reads as it did. -/
def fnExactParseWordUptoRow : OpenClaim := { program := "ytnfogfkgbignbaa", sum := "4af61f965d69ee3384f136b8d1f2d48568eb4917a6d7d55f485a073f2cc8e343", func := "loop.example/g02076/laws.FnExactParseWord", spec := "fnExactParseWord", apart := false, narrowed := true }
def FnExactParseWordUptoSaid : Prop := fnExactParseWordUptoRow.holds Try.pinned (OpenSpec.upto fnExactParseWordSpec)

/-- 'laws.FnExactEqualWords', WHERE WHAT IT READS IS OF BULK AT MOST 1048576: true; the input reads as it did. -/
def fnExactEqualWordsUptoRow : OpenClaim := { program := "ytnfogfkgbignbaa", sum := "4af61f965d69ee3384f136b8d1f2d48568eb4917a6d7d55f485a073f2cc8e343", func := "loop.example/g02076/laws.FnExactEqualWords", spec := "fnExactEqualWords", apart := false, narrowed := true }
def FnExactEqualWordsUptoSaid : Prop := fnExactEqualWordsUptoRow.holds Try.pinned (OpenSpec.upto fnExactEqualWordsSpec)

end Rows
end Go.Proofs.Ytnfogfkgbignbaa
