/-
  No cell of these rows narrows 'for every input' (looked for: loops, veiled, ifaces, maps, wideKeys, modest, calm, conditions, laid).
  DERIVED. THE GIVEN ROWS OF THIS SEAT. 11 by the template 'for every input the law returns true; each argument reads behind the call as it read before'; 0 by the template 'total and deterministic' (their statements: YtgceaffcalkbgaaTotals.lean).
  GIVEN WITH THE SEED: the statements are not yours to turn. If you find one false, say at which input.
  Laid BY PROGRAM, IN A SANDBOX (cutbox-rows.mjs): the forced cells as the released guide's own fill.sh prints them over the translation ecfa2790c0c0860f… (all of the seat's roots in one cut). By AI agents, Wed Nov 11 2026. No macro, syntax, notation, axiom, sorry.
-/
import Derived.Test.YtgceaffcalkbgaaChecked
import GoSem.Claim
import GoSem.ClaimJoined
import GoSem.ClaimMapViews
import Derived.JoinedTies
import Derived.KernelRfl
namespace Go.Proofs.Ytgceaffcalkbgaa
/- THE CELL 'sum', in the pinned program and in every row, IS THE sha256 OF THE DUMP (.gsa) THAT YtgceaffcalkbgaaProg.lean LOADS. Nothing in Lean hashes anything: it is a label: what it is worth is what the hold of that sum in a sandbox is worth. -/
noncomputable def Try.pinned : Pinned := { name := "ytgceaffcalkbgaa", sum := "ecfa2790c0c0860feab98270dff248d04ca05fca544e84ef0d0051dd7ab9170d", checked := Try.checked }
namespace Rows
def none {H : Type} : Left H := { results := [], args := [] }

/-- 'laws.FnLeastCodes': WHATEVER THE INPUT: true; the input reads as it did. -/
def fnLeastCodesSpec : ChangeSpec := { name := "fnLeastCodes", fn := fun _ => fun
  | [d1, d2] => { results := [.lit (.bool true)], args := [d1, d2] }
  | _ => none }
def fnLeastCodesRow : OpenClaim := { program := "ytgceaffcalkbgaa", sum := "ecfa2790c0c0860feab98270dff248d04ca05fca544e84ef0d0051dd7ab9170d", func := "loop.example/g00940/laws.FnLeastCodes", spec := "fnLeastCodes", unfollowed := true, recurses := true, apart := false }
def FnLeastCodesSaid : Prop := fnLeastCodesRow.holds Try.pinned (OpenSpec.ofChange fnLeastCodesSpec)

/-- ITS FALSE NEIGHBOUR: 'it returns false'. Refute it at one input. -/
def fnLeastCodesWrong : ChangeSpec := { name := "fnLeastCodes", fn := fun _ => fun
  | [d1, d2] => { results := [.lit (.bool false)], args := [d1, d2] }
  | _ => none }
def FnLeastCodesWrongFalsely : Prop := fnLeastCodesRow.holds Try.pinned (OpenSpec.ofChange fnLeastCodesWrong)

/-- 'laws.FnCodeWords': WHATEVER THE INPUT: true; the input reads as it did. -/
def fnCodeWordsSpec : ChangeSpec := { name := "fnCodeWords", fn := fun _ => fun
  | [d1, d2] => { results := [.lit (.bool true)], args := [d1, d2] }
  | _ => none }
def fnCodeWordsRow : OpenClaim := { program := "ytgceaffcalkbgaa", sum := "ecfa2790c0c0860feab98270dff248d04ca05fca544e84ef0d0051dd7ab9170d", func := "loop.example/g00940/laws.FnCodeWords", spec := "fnCodeWords", unfollowed := true, recurses := true, apart := false }
def FnCodeWordsSaid : Prop := fnCodeWordsRow.holds Try.pinned (OpenSpec.ofChange fnCodeWordsSpec)

/-- ITS FALSE NEIGHBOUR: 'it returns false'. Refute it at one input. -/
def fnCodeWordsWrong : ChangeSpec := { name := "fnCodeWords", fn := fun _ => fun
  | [d1, d2] => { results := [.lit (.bool false)], args := [d1, d2] }
  | _ => none }
def FnCodeWordsWrongFalsely : Prop := fnCodeWordsRow.holds Try.pinned (OpenSpec.ofChange fnCodeWordsWrong)

/-- 'laws.FnExactLeastLengths': WHATEVER THE INPUT: true; the input reads as it did. -/
def fnExactLeastLengthsSpec : ChangeSpec := { name := "fnExactLeastLengths", fn := fun _ => fun
  | [d1, d2, d3] => { results := [.lit (.bool true)], args := [d1, d2, d3] }
  | _ => none }
def fnExactLeastLengthsRow : OpenClaim := { program := "ytgceaffcalkbgaa", sum := "ecfa2790c0c0860feab98270dff248d04ca05fca544e84ef0d0051dd7ab9170d", func := "loop.example/g00940/laws.FnExactLeastLengths", spec := "fnExactLeastLengths", unfollowed := true, recurses := true, apart := false }
def FnExactLeastLengthsSaid : Prop := fnExactLeastLengthsRow.holds Try.pinned (OpenSpec.ofChange fnExactLeastLengthsSpec)

/-- ITS FALSE NEIGHBOUR: 'it returns false'. Refute it at one input. -/
def fnExactLeastLengthsWrong : ChangeSpec := { name := "fnExactLeastLengths", fn := fun _ => fun
  | [d1, d2, d3] => { results := [.lit (.bool false)], args := [d1, d2, d3] }
  | _ => none }
def FnExactLeastLengthsWrongFalsely : Prop := fnExactLeastLengthsRow.holds Try.pinned (OpenSpec.ofChange fnExactLeastLengthsWrong)

/-- 'laws.FnExactLeastCost': WHATEVER THE INPUT: true; the input reads as it did. -/
def fnExactLeastCostSpec : ChangeSpec := { name := "fnExactLeastCost", fn := fun _ => fun
  | [d1, d2, d3] => { results := [.lit (.bool true)], args := [d1, d2, d3] }
  | _ => none }
def fnExactLeastCostRow : OpenClaim := { program := "ytgceaffcalkbgaa", sum := "ecfa2790c0c0860feab98270dff248d04ca05fca544e84ef0d0051dd7ab9170d", func := "loop.example/g00940/laws.FnExactLeastCost", spec := "fnExactLeastCost", unfollowed := true, recurses := true, apart := false }
def FnExactLeastCostSaid : Prop := fnExactLeastCostRow.holds Try.pinned (OpenSpec.ofChange fnExactLeastCostSpec)

/-- ITS FALSE NEIGHBOUR: 'it returns false'. Refute it at one input. -/
def fnExactLeastCostWrong : ChangeSpec := { name := "fnExactLeastCost", fn := fun _ => fun
  | [d1, d2, d3] => { results := [.lit (.bool false)], args := [d1, d2, d3] }
  | _ => none }
def FnExactLeastCostWrongFalsely : Prop := fnExactLeastCostRow.holds Try.pinned (OpenSpec.ofChange fnExactLeastCostWrong)

/-- 'laws.FnExactCostOf': WHATEVER THE INPUT: true; the input reads as it did. -/
def fnExactCostOfSpec : ChangeSpec := { name := "fnExactCostOf", fn := fun _ => fun
  | [d1, d2] => { results := [.lit (.bool true)], args := [d1, d2] }
  | _ => none }
def fnExactCostOfRow : OpenClaim := { program := "ytgceaffcalkbgaa", sum := "ecfa2790c0c0860feab98270dff248d04ca05fca544e84ef0d0051dd7ab9170d", func := "loop.example/g00940/laws.FnExactCostOf", spec := "fnExactCostOf", apart := false }
def FnExactCostOfSaid : Prop := fnExactCostOfRow.holds Try.pinned (OpenSpec.ofChange fnExactCostOfSpec)

/-- ITS FALSE NEIGHBOUR: 'it returns false'. Refute it at one input. -/
def fnExactCostOfWrong : ChangeSpec := { name := "fnExactCostOf", fn := fun _ => fun
  | [d1, d2] => { results := [.lit (.bool false)], args := [d1, d2] }
  | _ => none }
def FnExactCostOfWrongFalsely : Prop := fnExactCostOfRow.holds Try.pinned (OpenSpec.ofChange fnExactCostOfWrong)

/-- 'laws.FnExactKraftSum': WHATEVER THE INPUT: true; the input reads as it did. -/
def fnExactKraftSumSpec : ChangeSpec := { name := "fnExactKraftSum", fn := fun _ => fun
  | [d1, d2] => { results := [.lit (.bool true)], args := [d1, d2] }
  | _ => none }
def fnExactKraftSumRow : OpenClaim := { program := "ytgceaffcalkbgaa", sum := "ecfa2790c0c0860feab98270dff248d04ca05fca544e84ef0d0051dd7ab9170d", func := "loop.example/g00940/laws.FnExactKraftSum", spec := "fnExactKraftSum", apart := false }
def FnExactKraftSumSaid : Prop := fnExactKraftSumRow.holds Try.pinned (OpenSpec.ofChange fnExactKraftSumSpec)

/-- ITS FALSE NEIGHBOUR: 'it returns false'. Refute it at one input. -/
def fnExactKraftSumWrong : ChangeSpec := { name := "fnExactKraftSum", fn := fun _ => fun
  | [d1, d2] => { results := [.lit (.bool false)], args := [d1, d2] }
  | _ => none }
def FnExactKraftSumWrongFalsely : Prop := fnExactKraftSumRow.holds Try.pinned (OpenSpec.ofChange fnExactKraftSumWrong)

/-- 'laws.FnExactHasCode': WHATEVER THE INPUT: true; the input reads as it did. -/
def fnExactHasCodeSpec : ChangeSpec := { name := "fnExactHasCode", fn := fun _ => fun
  | [d1, d2] => { results := [.lit (.bool true)], args := [d1, d2] }
  | _ => none }
def fnExactHasCodeRow : OpenClaim := { program := "ytgceaffcalkbgaa", sum := "ecfa2790c0c0860feab98270dff248d04ca05fca544e84ef0d0051dd7ab9170d", func := "loop.example/g00940/laws.FnExactHasCode", spec := "fnExactHasCode", apart := false }
def FnExactHasCodeSaid : Prop := fnExactHasCodeRow.holds Try.pinned (OpenSpec.ofChange fnExactHasCodeSpec)

/-- ITS FALSE NEIGHBOUR: 'it returns false'. Refute it at one input. -/
def fnExactHasCodeWrong : ChangeSpec := { name := "fnExactHasCode", fn := fun _ => fun
  | [d1, d2] => { results := [.lit (.bool false)], args := [d1, d2] }
  | _ => none }
def FnExactHasCodeWrongFalsely : Prop := fnExactHasCodeRow.holds Try.pinned (OpenSpec.ofChange fnExactHasCodeWrong)

/-- 'laws.FnExactCanonicalCode': WHATEVER THE INPUT: true; the input reads as it did. -/
def fnExactCanonicalCodeSpec : ChangeSpec := { name := "fnExactCanonicalCode", fn := fun _ => fun
  | [d1, d2] => { results := [.lit (.bool true)], args := [d1, d2] }
  | _ => none }
def fnExactCanonicalCodeRow : OpenClaim := { program := "ytgceaffcalkbgaa", sum := "ecfa2790c0c0860feab98270dff248d04ca05fca544e84ef0d0051dd7ab9170d", func := "loop.example/g00940/laws.FnExactCanonicalCode", spec := "fnExactCanonicalCode", unfollowed := true, recurses := true, apart := false }
def FnExactCanonicalCodeSaid : Prop := fnExactCanonicalCodeRow.holds Try.pinned (OpenSpec.ofChange fnExactCanonicalCodeSpec)

/-- ITS FALSE NEIGHBOUR: 'it returns false'. Refute it at one input. -/
def fnExactCanonicalCodeWrong : ChangeSpec := { name := "fnExactCanonicalCode", fn := fun _ => fun
  | [d1, d2] => { results := [.lit (.bool false)], args := [d1, d2] }
  | _ => none }
def FnExactCanonicalCodeWrongFalsely : Prop := fnExactCanonicalCodeRow.holds Try.pinned (OpenSpec.ofChange fnExactCanonicalCodeWrong)

/-- 'laws.FnExactFlatLength': WHATEVER THE INPUT: true; the input reads as it did. -/
def fnExactFlatLengthSpec : ChangeSpec := { name := "fnExactFlatLength", fn := fun _ => fun
  | [d1, d2] => { results := [.lit (.bool true)], args := [d1, d2] }
  | _ => none }
def fnExactFlatLengthRow : OpenClaim := { program := "ytgceaffcalkbgaa", sum := "ecfa2790c0c0860feab98270dff248d04ca05fca544e84ef0d0051dd7ab9170d", func := "loop.example/g00940/laws.FnExactFlatLength", spec := "fnExactFlatLength", apart := false }
def FnExactFlatLengthSaid : Prop := fnExactFlatLengthRow.holds Try.pinned (OpenSpec.ofChange fnExactFlatLengthSpec)

/-- ITS FALSE NEIGHBOUR: 'it returns false'. Refute it at one input. -/
def fnExactFlatLengthWrong : ChangeSpec := { name := "fnExactFlatLength", fn := fun _ => fun
  | [d1, d2] => { results := [.lit (.bool false)], args := [d1, d2] }
  | _ => none }
def FnExactFlatLengthWrongFalsely : Prop := fnExactFlatLengthRow.holds Try.pinned (OpenSpec.ofChange fnExactFlatLengthWrong)

/-- 'laws.FnExactWriteWords': WHATEVER THE INPUT: true; the input reads as it did. -/
def fnExactWriteWordsSpec : ChangeSpec := { name := "fnExactWriteWords", fn := fun _ => fun
  | [d1, d2] => { results := [.lit (.bool true)], args := [d1, d2] }
  | _ => none }
def fnExactWriteWordsRow : OpenClaim := { program := "ytgceaffcalkbgaa", sum := "ecfa2790c0c0860feab98270dff248d04ca05fca544e84ef0d0051dd7ab9170d", func := "loop.example/g00940/laws.FnExactWriteWords", spec := "fnExactWriteWords", apart := false }
def FnExactWriteWordsSaid : Prop := fnExactWriteWordsRow.holds Try.pinned (OpenSpec.ofChange fnExactWriteWordsSpec)

/-- ITS FALSE NEIGHBOUR: 'it returns false'. Refute it at one input. -/
def fnExactWriteWordsWrong : ChangeSpec := { name := "fnExactWriteWords", fn := fun _ => fun
  | [d1, d2] => { results := [.lit (.bool false)], args := [d1, d2] }
  | _ => none }
def FnExactWriteWordsWrongFalsely : Prop := fnExactWriteWordsRow.holds Try.pinned (OpenSpec.ofChange fnExactWriteWordsWrong)

/-- 'laws.FnExactReadWords': WHATEVER THE INPUT: true; the input reads as it did. -/
def fnExactReadWordsSpec : ChangeSpec := { name := "fnExactReadWords", fn := fun _ => fun
  | [d1, d2] => { results := [.lit (.bool true)], args := [d1, d2] }
  | _ => none }
def fnExactReadWordsRow : OpenClaim := { program := "ytgceaffcalkbgaa", sum := "ecfa2790c0c0860feab98270dff248d04ca05fca544e84ef0d0051dd7ab9170d", func := "loop.example/g00940/laws.FnExactReadWords", spec := "fnExactReadWords", unfollowed := true, recurses := true, apart := false }
def FnExactReadWordsSaid : Prop := fnExactReadWordsRow.holds Try.pinned (OpenSpec.ofChange fnExactReadWordsSpec)

/-- ITS FALSE NEIGHBOUR: 'it returns false'. Refute it at one input. -/
def fnExactReadWordsWrong : ChangeSpec := { name := "fnExactReadWords", fn := fun _ => fun
  | [d1, d2] => { results := [.lit (.bool false)], args := [d1, d2] }
  | _ => none }
def FnExactReadWordsWrongFalsely : Prop := fnExactReadWordsRow.holds Try.pinned (OpenSpec.ofChange fnExactReadWordsWrong)

/- THE SECOND FORM. 'bulk': how many values and letters a reading holds, each counted each time it is reached (what is shared counts as often as it is met; a slice's spare places count too). A statement '..UptoSaid' is the law's where the arguments, and the package variables that the reading takes, are together of bulk at most 1048576: NARROWER than '..Said'. Prove '..Said' where nothing that the law and all that it calls make is longer than what came in: it says more and counts as full. Else prove '..UptoSaid'. A law counts once. -/
mutual
def uptoBulk {H : Type} : DataW H → Nat
  | .lit (.string bytes) => bytes.length + 1
  | .lit _ => 1
  | .nil => 1
  | .ptr d => uptoBulk d + 1
  | .slice elems spare => uptoBulkAll elems + uptoBulkAll spare + 1
  | .agg parts => uptoBulkAll parts + 1
  | .iface _ d => uptoBulk d + 1
  | .map entries => uptoBulkEntries entries + 1
  | .held _ => 1
def uptoBulkAll {H : Type} : List (DataW H) → Nat
  | [] => 0
  | d :: r => uptoBulk d + uptoBulkAll r
def uptoBulkEntries {H : Type} : List (Lit × DataW H) → Nat
  | [] => 0
  | x :: r => uptoBulkEntry x + uptoBulkEntries r
def uptoBulkEntry {H : Type} : Lit × DataW H → Nat
  | (.string bytes, d) => bytes.length + uptoBulk d + 1
  | (_, d) => uptoBulk d + 1
 end
def uptoSmall : (H : Type) → List (DataW H) → Bool := fun _ ds => decide (uptoBulkAll ds ≤ 1048576)
def OpenSpec.upto (s : _root_.Go.ChangeSpec) : _root_.Go.OpenSpec := { _root_.Go.OpenSpec.ofChange s with cond := some uptoSmall }

/-- 'laws.FnLeastCodes', WHERE WHAT IT READS IS OF BULK AT MOST 1048576: true; the input reads as it did. -/
def fnLeastCodesUptoRow : OpenClaim := { program := "ytgceaffcalkbgaa", sum := "ecfa2790c0c0860feab98270dff248d04ca05fca544e84ef0d0051dd7ab9170d", func := "loop.example/g00940/laws.FnLeastCodes", spec := "fnLeastCodes", unfollowed := true, recurses := true, apart := false, narrowed := true }
def FnLeastCodesUptoSaid : Prop := fnLeastCodesUptoRow.holds Try.pinned (OpenSpec.upto fnLeastCodesSpec)

/-- 'laws.FnCodeWords', WHERE WHAT IT READS IS OF BULK AT MOST 1048576: true; the input reads as it did. -/
def fnCodeWordsUptoRow : OpenClaim := { program := "ytgceaffcalkbgaa", sum := "ecfa2790c0c0860feab98270dff248d04ca05fca544e84ef0d0051dd7ab9170d", func := "loop.example/g00940/laws.FnCodeWords", spec := "fnCodeWords", unfollowed := true, recurses := true, apart := false, narrowed := true }
def FnCodeWordsUptoSaid : Prop := fnCodeWordsUptoRow.holds Try.pinned (OpenSpec.upto fnCodeWordsSpec)

/-- 'laws.FnExactLeastLengths', WHERE WHAT IT READS IS OF BULK AT MOST 1048576: true; the input reads as it did. -/
def fnExactLeastLengthsUptoRow : OpenClaim := { program := "ytgceaffcalkbgaa", sum := "ecfa2790c0c0860feab98270dff248d04ca05fca544e84ef0d0051dd7ab9170d", func := "loop.example/g00940/laws.FnExactLeastLengths", spec := "fnExactLeastLengths", unfollowed := true, recurses := true, apart := false, narrowed := true }
def FnExactLeastLengthsUptoSaid : Prop := fnExactLeastLengthsUptoRow.holds Try.pinned (OpenSpec.upto fnExactLeastLengthsSpec)

/-- 'laws.FnExactLeastCost', WHERE WHAT IT READS IS OF BULK AT MOST 1048576: true; the input reads as it did. -/
def fnExactLeastCostUptoRow : OpenClaim := { program := "ytgceaffcalkbgaa", sum := "ecfa2790c0c0860feab98270dff248d04ca05fca544e84ef0d0051dd7ab9170d", func := "loop.example/g00940/laws.FnExactLeastCost", spec := "fnExactLeastCost", unfollowed := true, recurses := true, apart := false, narrowed := true }
def FnExactLeastCostUptoSaid : Prop := fnExactLeastCostUptoRow.holds Try.pinned (OpenSpec.upto fnExactLeastCostSpec)

/-- 'laws.FnExactCostOf', WHERE WHAT IT READS IS OF BULK AT MOST 1048576: true; the input reads as it did. -/
def fnExactCostOfUptoRow : OpenClaim := { program := "ytgceaffcalkbgaa", sum := "ecfa2790c0c0860feab98270dff248d04ca05fca544e84ef0d0051dd7ab9170d", func := "loop.example/g00940/laws.FnExactCostOf", spec := "fnExactCostOf", apart := false, narrowed := true }
def FnExactCostOfUptoSaid : Prop := fnExactCostOfUptoRow.holds Try.pinned (OpenSpec.upto fnExactCostOfSpec)

/-- 'laws.FnExactKraftSum', WHERE WHAT IT READS IS OF BULK AT MOST 1048576: true; the input reads as it did. -/
def fnExactKraftSumUptoRow : OpenClaim := { program := "ytgceaffcalkbgaa", sum := "ecfa2790c0c0860feab98270dff248d04ca05fca544e84ef0d0051dd7ab9170d", func := "loop.example/g00940/laws.FnExactKraftSum", spec := "fnExactKraftSum", apart := false, narrowed := true }
def FnExactKraftSumUptoSaid : Prop := fnExactKraftSumUptoRow.holds Try.pinned (OpenSpec.upto fnExactKraftSumSpec)

/-- 'laws.FnExactHasCode', WHERE WHAT IT READS IS OF BULK AT MOST 1048576: true; the input reads as it did. -/
def fnExactHasCodeUptoRow : OpenClaim := { program := "ytgceaffcalkbgaa", sum := "ecfa2790c0c0860feab98270dff248d04ca05fca544e84ef0d0051dd7ab9170d", func := "loop.example/g00940/laws.FnExactHasCode", spec := "fnExactHasCode", apart := false, narrowed := true }
def FnExactHasCodeUptoSaid : Prop := fnExactHasCodeUptoRow.holds Try.pinned (OpenSpec.upto fnExactHasCodeSpec)

/-- 'laws.FnExactCanonicalCode', WHERE WHAT IT READS IS OF BULK AT MOST 1048576: true; the input reads as it did. -/
def fnExactCanonicalCodeUptoRow : OpenClaim := { program := "ytgceaffcalkbgaa", sum := "ecfa2790c0c0860feab98270dff248d04ca05fca544e84ef0d0051dd7ab9170d", func := "loop.example/g00940/laws.FnExactCanonicalCode", spec := "fnExactCanonicalCode", unfollowed := true, recurses := true, apart := false, narrowed := true }
def FnExactCanonicalCodeUptoSaid : Prop := fnExactCanonicalCodeUptoRow.holds Try.pinned (OpenSpec.upto fnExactCanonicalCodeSpec)

/-- 'laws.FnExactFlatLength', WHERE WHAT IT READS IS OF BULK AT MOST 1048576: true; the input reads as it did. -/
def fnExactFlatLengthUptoRow : OpenClaim := { program := "ytgceaffcalkbgaa", sum := "ecfa2790c0c0860feab98270dff248d04ca05fca544e84ef0d0051dd7ab9170d", func := "loop.example/g00940/laws.FnExactFlatLength", spec := "fnExactFlatLength", apart := false, narrowed := true }
def FnExactFlatLengthUptoSaid : Prop := fnExactFlatLengthUptoRow.holds Try.pinned (OpenSpec.upto fnExactFlatLengthSpec)

/-- 'laws.FnExactWriteWords', WHERE WHAT IT READS IS OF BULK AT MOST 1048576: true; the input reads as it did. -/
def fnExactWriteWordsUptoRow : OpenClaim := { program := "ytgceaffcalkbgaa", sum := "ecfa2790c0c0860feab98270dff248d04ca05fca544e84ef0d0051dd7ab9170d", func := "loop.example/g00940/laws.FnExactWriteWords", spec := "fnExactWriteWords", apart := false, narrowed := true }
def FnExactWriteWordsUptoSaid : Prop := fnExactWriteWordsUptoRow.holds Try.pinned (OpenSpec.upto fnExactWriteWordsSpec)

/-- 'laws.FnExactReadWords', WHERE WHAT IT READS IS OF BULK AT MOST 1048576: true; the input reads as it did. -/
def fnExactReadWordsUptoRow : OpenClaim := { program := "ytgceaffcalkbgaa", sum := "ecfa2790c0c0860feab98270dff248d04ca05fca544e84ef0d0051dd7ab9170d", func := "loop.example/g00940/laws.FnExactReadWords", spec := "fnExactReadWords", unfollowed := true, recurses := true, apart := false, narrowed := true }
def FnExactReadWordsUptoSaid : Prop := fnExactReadWordsUptoRow.holds Try.pinned (OpenSpec.upto fnExactReadWordsSpec)

end Rows
end Go.Proofs.Ytgceaffcalkbgaa
