/-
  No cell of these rows narrows 'for every input' (looked for: loops, veiled, ifaces, maps, wideKeys, modest, calm, conditions, laid).
  DERIVED. THE GIVEN ROWS OF THIS SEAT. 10 by the template 'for every input the law returns true; each argument reads behind the call as it read before'; 0 by the template 'total and deterministic' (their statements: YtpddnpkhhmjomaaTotals.lean).
  GIVEN WITH THE SEED: the statements are not yours to turn. If you find one false, say at which input.
  Laid BY PROGRAM, IN A SANDBOX (cutbox-rows.mjs): the forced cells as the released guide's own fill.sh prints them over the translation b088559447df7b48… (all of the seat's roots in one cut). By AI agents, Wed Nov 11 2026. No macro, syntax, notation, axiom, sorry.
-/
import Derived.Test.YtpddnpkhhmjomaaChecked
import GoSem.Claim
import GoSem.ClaimJoined
import GoSem.ClaimMapViews
import Derived.JoinedTies
import Derived.KernelRfl
namespace Go.Proofs.Ytpddnpkhhmjomaa
/- THE CELL 'sum', in the pinned program and in every row, IS THE sha256 OF THE DUMP (.gsa) THAT YtpddnpkhhmjomaaProg.lean LOADS. Nothing in Lean hashes anything: it is a label: what it is worth is what the hold of that sum in a sandbox is worth. -/
noncomputable def Try.pinned : Pinned := { name := "ytpddnpkhhmjomaa", sum := "b088559447df7b48e1ed394d7a6754463d7c53117fe1300c058871924f6c05f3", checked := Try.checked }
namespace Rows
def none {H : Type} : Left H := { results := [], args := [] }

/-- 'laws.FnExactIsContent': WHATEVER THE INPUT: true; the input reads as it did. -/
def fnExactIsContentSpec : ChangeSpec := { name := "fnExactIsContent", fn := fun _ => fun
  | [d] => { results := [.lit (.bool true)], args := [d] }
  | _ => none }
def fnExactIsContentRow : OpenClaim := { program := "ytpddnpkhhmjomaa", sum := "b088559447df7b48e1ed394d7a6754463d7c53117fe1300c058871924f6c05f3", func := "loop.example/g00940/laws.FnExactIsContent", spec := "fnExactIsContent", apart := false }
def FnExactIsContentSaid : Prop := fnExactIsContentRow.holds Try.pinned (OpenSpec.ofChange fnExactIsContentSpec)

/-- ITS FALSE NEIGHBOUR: 'it returns false'. Refute it at one input. -/
def fnExactIsContentWrong : ChangeSpec := { name := "fnExactIsContent", fn := fun _ => fun
  | [d] => { results := [.lit (.bool false)], args := [d] }
  | _ => none }
def FnExactIsContentWrongFalsely : Prop := fnExactIsContentRow.holds Try.pinned (OpenSpec.ofChange fnExactIsContentWrong)

/-- 'laws.FnExactClosedShutters': WHATEVER THE INPUT: true; the input reads as it did. -/
def fnExactClosedShuttersSpec : ChangeSpec := { name := "fnExactClosedShutters", fn := fun _ => fun
  | [d] => { results := [.lit (.bool true)], args := [d] }
  | _ => none }
def fnExactClosedShuttersRow : OpenClaim := { program := "ytpddnpkhhmjomaa", sum := "b088559447df7b48e1ed394d7a6754463d7c53117fe1300c058871924f6c05f3", func := "loop.example/g00940/laws.FnExactClosedShutters", spec := "fnExactClosedShutters", apart := false }
def FnExactClosedShuttersSaid : Prop := fnExactClosedShuttersRow.holds Try.pinned (OpenSpec.ofChange fnExactClosedShuttersSpec)

/-- ITS FALSE NEIGHBOUR: 'it returns false'. Refute it at one input. -/
def fnExactClosedShuttersWrong : ChangeSpec := { name := "fnExactClosedShutters", fn := fun _ => fun
  | [d] => { results := [.lit (.bool false)], args := [d] }
  | _ => none }
def FnExactClosedShuttersWrongFalsely : Prop := fnExactClosedShuttersRow.holds Try.pinned (OpenSpec.ofChange fnExactClosedShuttersWrong)

/-- 'laws.FnExactSignalText': WHATEVER THE INPUT: true; the input reads as it did. -/
def fnExactSignalTextSpec : ChangeSpec := { name := "fnExactSignalText", fn := fun _ => fun
  | [d] => { results := [.lit (.bool true)], args := [d] }
  | _ => none }
def fnExactSignalTextRow : OpenClaim := { program := "ytpddnpkhhmjomaa", sum := "b088559447df7b48e1ed394d7a6754463d7c53117fe1300c058871924f6c05f3", func := "loop.example/g00940/laws.FnExactSignalText", spec := "fnExactSignalText", inPlace := ["internal/abi.NoEscape"], apart := false }
def FnExactSignalTextSaid : Prop := fnExactSignalTextRow.holds Try.pinned (OpenSpec.ofChange fnExactSignalTextSpec)

/-- ITS FALSE NEIGHBOUR: 'it returns false'. Refute it at one input. -/
def fnExactSignalTextWrong : ChangeSpec := { name := "fnExactSignalText", fn := fun _ => fun
  | [d] => { results := [.lit (.bool false)], args := [d] }
  | _ => none }
def FnExactSignalTextWrongFalsely : Prop := fnExactSignalTextRow.holds Try.pinned (OpenSpec.ofChange fnExactSignalTextWrong)

/-- 'laws.FnExactReadSignal': WHATEVER THE INPUT: true; the input reads as it did. -/
def fnExactReadSignalSpec : ChangeSpec := { name := "fnExactReadSignal", fn := fun _ => fun
  | [d] => { results := [.lit (.bool true)], args := [d] }
  | _ => none }
def fnExactReadSignalRow : OpenClaim := { program := "ytpddnpkhhmjomaa", sum := "b088559447df7b48e1ed394d7a6754463d7c53117fe1300c058871924f6c05f3", func := "loop.example/g00940/laws.FnExactReadSignal", spec := "fnExactReadSignal", apart := false }
def FnExactReadSignalSaid : Prop := fnExactReadSignalRow.holds Try.pinned (OpenSpec.ofChange fnExactReadSignalSpec)

/-- ITS FALSE NEIGHBOUR: 'it returns false'. Refute it at one input. -/
def fnExactReadSignalWrong : ChangeSpec := { name := "fnExactReadSignal", fn := fun _ => fun
  | [d] => { results := [.lit (.bool false)], args := [d] }
  | _ => none }
def FnExactReadSignalWrongFalsely : Prop := fnExactReadSignalRow.holds Try.pinned (OpenSpec.ofChange fnExactReadSignalWrong)

/-- 'laws.FnExactSignalDistance': WHATEVER THE INPUT: true; the input reads as it did. -/
def fnExactSignalDistanceSpec : ChangeSpec := { name := "fnExactSignalDistance", fn := fun _ => fun
  | [d1, d2] => { results := [.lit (.bool true)], args := [d1, d2] }
  | _ => none }
def fnExactSignalDistanceRow : OpenClaim := { program := "ytpddnpkhhmjomaa", sum := "b088559447df7b48e1ed394d7a6754463d7c53117fe1300c058871924f6c05f3", func := "loop.example/g00940/laws.FnExactSignalDistance", spec := "fnExactSignalDistance", apart := false }
def FnExactSignalDistanceSaid : Prop := fnExactSignalDistanceRow.holds Try.pinned (OpenSpec.ofChange fnExactSignalDistanceSpec)

/-- ITS FALSE NEIGHBOUR: 'it returns false'. Refute it at one input. -/
def fnExactSignalDistanceWrong : ChangeSpec := { name := "fnExactSignalDistance", fn := fun _ => fun
  | [d1, d2] => { results := [.lit (.bool false)], args := [d1, d2] }
  | _ => none }
def FnExactSignalDistanceWrongFalsely : Prop := fnExactSignalDistanceRow.holds Try.pinned (OpenSpec.ofChange fnExactSignalDistanceWrong)

/-- 'laws.FnExactChangedShutters': WHATEVER THE INPUT: true; the input reads as it did. -/
def fnExactChangedShuttersSpec : ChangeSpec := { name := "fnExactChangedShutters", fn := fun _ => fun
  | [d1, d2] => { results := [.lit (.bool true)], args := [d1, d2] }
  | _ => none }
def fnExactChangedShuttersRow : OpenClaim := { program := "ytpddnpkhhmjomaa", sum := "b088559447df7b48e1ed394d7a6754463d7c53117fe1300c058871924f6c05f3", func := "loop.example/g00940/laws.FnExactChangedShutters", spec := "fnExactChangedShutters", apart := false }
def FnExactChangedShuttersSaid : Prop := fnExactChangedShuttersRow.holds Try.pinned (OpenSpec.ofChange fnExactChangedShuttersSpec)

/-- ITS FALSE NEIGHBOUR: 'it returns false'. Refute it at one input. -/
def fnExactChangedShuttersWrong : ChangeSpec := { name := "fnExactChangedShutters", fn := fun _ => fun
  | [d1, d2] => { results := [.lit (.bool false)], args := [d1, d2] }
  | _ => none }
def FnExactChangedShuttersWrongFalsely : Prop := fnExactChangedShuttersRow.holds Try.pinned (OpenSpec.ofChange fnExactChangedShuttersWrong)

/-- 'laws.FnExactMirrorSignal': WHATEVER THE INPUT: true; the input reads as it did. -/
def fnExactMirrorSignalSpec : ChangeSpec := { name := "fnExactMirrorSignal", fn := fun _ => fun
  | [d] => { results := [.lit (.bool true)], args := [d] }
  | _ => none }
def fnExactMirrorSignalRow : OpenClaim := { program := "ytpddnpkhhmjomaa", sum := "b088559447df7b48e1ed394d7a6754463d7c53117fe1300c058871924f6c05f3", func := "loop.example/g00940/laws.FnExactMirrorSignal", spec := "fnExactMirrorSignal", apart := false }
def FnExactMirrorSignalSaid : Prop := fnExactMirrorSignalRow.holds Try.pinned (OpenSpec.ofChange fnExactMirrorSignalSpec)

/-- ITS FALSE NEIGHBOUR: 'it returns false'. Refute it at one input. -/
def fnExactMirrorSignalWrong : ChangeSpec := { name := "fnExactMirrorSignal", fn := fun _ => fun
  | [d] => { results := [.lit (.bool false)], args := [d] }
  | _ => none }
def FnExactMirrorSignalWrongFalsely : Prop := fnExactMirrorSignalRow.holds Try.pinned (OpenSpec.ofChange fnExactMirrorSignalWrong)

/-- 'laws.FnExactTurnSignal': WHATEVER THE INPUT: true; the input reads as it did. -/
def fnExactTurnSignalSpec : ChangeSpec := { name := "fnExactTurnSignal", fn := fun _ => fun
  | [d] => { results := [.lit (.bool true)], args := [d] }
  | _ => none }
def fnExactTurnSignalRow : OpenClaim := { program := "ytpddnpkhhmjomaa", sum := "b088559447df7b48e1ed394d7a6754463d7c53117fe1300c058871924f6c05f3", func := "loop.example/g00940/laws.FnExactTurnSignal", spec := "fnExactTurnSignal", apart := false }
def FnExactTurnSignalSaid : Prop := fnExactTurnSignalRow.holds Try.pinned (OpenSpec.ofChange fnExactTurnSignalSpec)

/-- ITS FALSE NEIGHBOUR: 'it returns false'. Refute it at one input. -/
def fnExactTurnSignalWrong : ChangeSpec := { name := "fnExactTurnSignal", fn := fun _ => fun
  | [d] => { results := [.lit (.bool false)], args := [d] }
  | _ => none }
def FnExactTurnSignalWrongFalsely : Prop := fnExactTurnSignalRow.holds Try.pinned (OpenSpec.ofChange fnExactTurnSignalWrong)

/-- 'laws.FnExactMovementsOf': WHATEVER THE INPUT: true; the input reads as it did. -/
def fnExactMovementsOfSpec : ChangeSpec := { name := "fnExactMovementsOf", fn := fun _ => fun
  | [d] => { results := [.lit (.bool true)], args := [d] }
  | _ => none }
def fnExactMovementsOfRow : OpenClaim := { program := "ytpddnpkhhmjomaa", sum := "b088559447df7b48e1ed394d7a6754463d7c53117fe1300c058871924f6c05f3", func := "loop.example/g00940/laws.FnExactMovementsOf", spec := "fnExactMovementsOf", unfollowed := true, recurses := true, apart := false }
def FnExactMovementsOfSaid : Prop := fnExactMovementsOfRow.holds Try.pinned (OpenSpec.ofChange fnExactMovementsOfSpec)

/-- ITS FALSE NEIGHBOUR: 'it returns false'. Refute it at one input. -/
def fnExactMovementsOfWrong : ChangeSpec := { name := "fnExactMovementsOf", fn := fun _ => fun
  | [d] => { results := [.lit (.bool false)], args := [d] }
  | _ => none }
def FnExactMovementsOfWrongFalsely : Prop := fnExactMovementsOfRow.holds Try.pinned (OpenSpec.ofChange fnExactMovementsOfWrong)

/-- 'laws.FnExactNearestSignals': WHATEVER THE INPUT: true; the input reads as it did. -/
def fnExactNearestSignalsSpec : ChangeSpec := { name := "fnExactNearestSignals", fn := fun _ => fun
  | [d1, d2] => { results := [.lit (.bool true)], args := [d1, d2] }
  | _ => none }
def fnExactNearestSignalsRow : OpenClaim := { program := "ytpddnpkhhmjomaa", sum := "b088559447df7b48e1ed394d7a6754463d7c53117fe1300c058871924f6c05f3", func := "loop.example/g00940/laws.FnExactNearestSignals", spec := "fnExactNearestSignals", apart := false }
def FnExactNearestSignalsSaid : Prop := fnExactNearestSignalsRow.holds Try.pinned (OpenSpec.ofChange fnExactNearestSignalsSpec)

/-- ITS FALSE NEIGHBOUR: 'it returns false'. Refute it at one input. -/
def fnExactNearestSignalsWrong : ChangeSpec := { name := "fnExactNearestSignals", fn := fun _ => fun
  | [d1, d2] => { results := [.lit (.bool false)], args := [d1, d2] }
  | _ => none }
def FnExactNearestSignalsWrongFalsely : Prop := fnExactNearestSignalsRow.holds Try.pinned (OpenSpec.ofChange fnExactNearestSignalsWrong)

/- THE SECOND FORM. 'bulk': how many values and letters a reading holds, each counted each time it is reached (what is shared counts as often as it is met; a slice's spare places count too). A statement '..UptoSaid' is the law's where the arguments, and the package variables that the reading takes, are together of bulk at most 1048576: NARROWER than '..Said'. Prove '..Said' where nothing that the law and all that it calls make is longer than what came in: it says more and counts as full. Else prove '..UptoSaid'. A law counts once. -/
mutual
def uptoBulk {H : Type} : DataW H → Nat
  | .lit (.string bytes) => bytes.length + 1
  | .lit _ => 1
  | .nil => 1
  | .ptr d => uptoBulk d + 1
  | .slice elems spare => uptoBulkAll elems + uptoBulkAll spare + 1
  | .agg parts => uptoBulkAll parts + 1
  | .iface _ d => uptoBulk d + 1
  | .map entries => uptoBulkEntries entries + 1
  | .held _ => 1
def uptoBulkAll {H : Type} : List (DataW H) → Nat
  | [] => 0
  | d :: r => uptoBulk d + uptoBulkAll r
def uptoBulkEntries {H : Type} : List (Lit × DataW H) → Nat
  | [] => 0
  | x :: r => uptoBulkEntry x + uptoBulkEntries r
def uptoBulkEntry {H : Type} : Lit × DataW H → Nat
  | (.string bytes, d) => bytes.length + uptoBulk d + 1
  | (_, d) => uptoBulk d + 1
 end
def uptoSmall : (H : Type) → List (DataW H) → Bool := fun _ ds => decide (uptoBulkAll ds ≤ 1048576)
def OpenSpec.upto (s : _root_.Go.ChangeSpec) : _root_.Go.OpenSpec := { _root_.Go.OpenSpec.ofChange s with cond := some uptoSmall }

/-- 'laws.FnExactIsContent', WHERE WHAT IT READS IS OF BULK AT MOST 1048576: true; the input reads as it did. -/
def fnExactIsContentUptoRow : OpenClaim := { program := "ytpddnpkhhmjomaa", sum := "b088559447df7b48e1ed394d7a6754463d7c53117fe1300c058871924f6c05f3", func := "loop.example/g00940/laws.FnExactIsContent", spec := "fnExactIsContent", apart := false, narrowed := true }
def FnExactIsContentUptoSaid : Prop := fnExactIsContentUptoRow.holds Try.pinned (OpenSpec.upto fnExactIsContentSpec)

/-- 'laws.FnExactClosedShutters', WHERE WHAT IT READS IS OF BULK AT MOST 1048576: true; the input reads as it did. -/
def fnExactClosedShuttersUptoRow : OpenClaim := { program := "ytpddnpkhhmjomaa", sum := "b088559447df7b48e1ed394d7a6754463d7c53117fe1300c058871924f6c05f3", func := "loop.example/g00940/laws.FnExactClosedShutters", spec := "fnExactClosedShutters", apart := false, narrowed := true }
def FnExactClosedShuttersUptoSaid : Prop := fnExactClosedShuttersUptoRow.holds Try.pinned (OpenSpec.upto fnExactClosedShuttersSpec)

/-- 'laws.FnExactSignalText', WHERE WHAT IT READS IS OF BULK AT MOST 1048576: true; the input reads as it did. -/
def fnExactSignalTextUptoRow : OpenClaim := { program := "ytpddnpkhhmjomaa", sum := "b088559447df7b48e1ed394d7a6754463d7c53117fe1300c058871924f6c05f3", func := "loop.example/g00940/laws.FnExactSignalText", spec := "fnExactSignalText", inPlace := ["internal/abi.NoEscape"], apart := false, narrowed := true }
def FnExactSignalTextUptoSaid : Prop := fnExactSignalTextUptoRow.holds Try.pinned (OpenSpec.upto fnExactSignalTextSpec)

/-- 'laws.FnExactReadSignal', WHERE WHAT IT READS IS OF BULK AT MOST 1048576: true; the input reads as it did. -/
def fnExactReadSignalUptoRow : OpenClaim := { program := "ytpddnpkhhmjomaa", sum := "b088559447df7b48e1ed394d7a6754463d7c53117fe1300c058871924f6c05f3", func := "loop.example/g00940/laws.FnExactReadSignal", spec := "fnExactReadSignal", apart := false, narrowed := true }
def FnExactReadSignalUptoSaid : Prop := fnExactReadSignalUptoRow.holds Try.pinned (OpenSpec.upto fnExactReadSignalSpec)

/-- 'laws.FnExactSignalDistance', WHERE WHAT IT READS IS OF BULK AT MOST 1048576: true; the input reads as it did. -/
def fnExactSignalDistanceUptoRow : OpenClaim := { program := "ytpddnpkhhmjomaa", sum := "b088559447df7b48e1ed394d7a6754463d7c53117fe1300c058871924f6c05f3", func := "loop.example/g00940/laws.FnExactSignalDistance", spec := "fnExactSignalDistance", apart := false, narrowed := true }
def FnExactSignalDistanceUptoSaid : Prop := fnExactSignalDistanceUptoRow.holds Try.pinned (OpenSpec.upto fnExactSignalDistanceSpec)

/-- 'laws.FnExactChangedShutters', WHERE WHAT IT READS IS OF BULK AT MOST 1048576: true; the input reads as it did. -/
def fnExactChangedShuttersUptoRow : OpenClaim := { program := "ytpddnpkhhmjomaa", sum := "b088559447df7b48e1ed394d7a6754463d7c53117fe1300c058871924f6c05f3", func := "loop.example/g00940/laws.FnExactChangedShutters", spec := "fnExactChangedShutters", apart := false, narrowed := true }
def FnExactChangedShuttersUptoSaid : Prop := fnExactChangedShuttersUptoRow.holds Try.pinned (OpenSpec.upto fnExactChangedShuttersSpec)

/-- 'laws.FnExactMirrorSignal', WHERE WHAT IT READS IS OF BULK AT MOST 1048576: true; the input reads as it did. -/
def fnExactMirrorSignalUptoRow : OpenClaim := { program := "ytpddnpkhhmjomaa", sum := "b088559447df7b48e1ed394d7a6754463d7c53117fe1300c058871924f6c05f3", func := "loop.example/g00940/laws.FnExactMirrorSignal", spec := "fnExactMirrorSignal", apart := false, narrowed := true }
def FnExactMirrorSignalUptoSaid : Prop := fnExactMirrorSignalUptoRow.holds Try.pinned (OpenSpec.upto fnExactMirrorSignalSpec)

/-- 'laws.FnExactTurnSignal', WHERE WHAT IT READS IS OF BULK AT MOST 1048576: true; the input reads as it did. -/
def fnExactTurnSignalUptoRow : OpenClaim := { program := "ytpddnpkhhmjomaa", sum := "b088559447df7b48e1ed394d7a6754463d7c53117fe1300c058871924f6c05f3", func := "loop.example/g00940/laws.FnExactTurnSignal", spec := "fnExactTurnSignal", apart := false, narrowed := true }
def FnExactTurnSignalUptoSaid : Prop := fnExactTurnSignalUptoRow.holds Try.pinned (OpenSpec.upto fnExactTurnSignalSpec)

/-- 'laws.FnExactMovementsOf', WHERE WHAT IT READS IS OF BULK AT MOST 1048576: true; the input reads as it did. -/
def fnExactMovementsOfUptoRow : OpenClaim := { program := "ytpddnpkhhmjomaa", sum := "b088559447df7b48e1ed394d7a6754463d7c53117fe1300c058871924f6c05f3", func := "loop.example/g00940/laws.FnExactMovementsOf", spec := "fnExactMovementsOf", unfollowed := true, recurses := true, apart := false, narrowed := true }
def FnExactMovementsOfUptoSaid : Prop := fnExactMovementsOfUptoRow.holds Try.pinned (OpenSpec.upto fnExactMovementsOfSpec)

/-- 'laws.FnExactNearestSignals', WHERE WHAT IT READS IS OF BULK AT MOST 1048576: true; the input reads as it did. -/
def fnExactNearestSignalsUptoRow : OpenClaim := { program := "ytpddnpkhhmjomaa", sum := "b088559447df7b48e1ed394d7a6754463d7c53117fe1300c058871924f6c05f3", func := "loop.example/g00940/laws.FnExactNearestSignals", spec := "fnExactNearestSignals", apart := false, narrowed := true }
def FnExactNearestSignalsUptoSaid : Prop := fnExactNearestSignalsUptoRow.holds Try.pinned (OpenSpec.upto fnExactNearestSignalsSpec)

end Rows
end Go.Proofs.Ytpddnpkhhmjomaa
