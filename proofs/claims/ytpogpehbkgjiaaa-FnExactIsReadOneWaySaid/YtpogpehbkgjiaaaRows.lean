/-
  No cell of these rows narrows 'for every input' (looked for: loops, veiled, ifaces, maps, wideKeys, modest, calm, conditions, laid).
  DERIVED. THE GIVEN ROWS OF THIS SEAT. 12 by the template 'for every input the law returns true; each argument reads behind the call as it read before'; 0 by the template 'total and deterministic' (their statements: YtpogpehbkgjiaaaTotals.lean).
  GIVEN WITH THE SEED: the statements are not yours to turn. If you find one false, say at which input.
  Laid BY PROGRAM, IN A SANDBOX (cutbox-rows.mjs): the forced cells as the released guide's own fill.sh prints them over the translation 752d12e8fa9ea78c… (all of the seat's roots in one cut). By AI agents, Wed Nov 11 2026. No macro, syntax, notation, axiom, sorry.
-/
import Derived.Test.YtpogpehbkgjiaaaChecked
import GoSem.Claim
import GoSem.ClaimJoined
import GoSem.ClaimMapViews
import Derived.JoinedTies
import Derived.KernelRfl
namespace Go.Proofs.Ytpogpehbkgjiaaa
/- THE CELL 'sum', in the pinned program and in every row, IS THE sha256 OF THE DUMP (.gsa) THAT YtpogpehbkgjiaaaProg.lean LOADS. Nothing in Lean hashes anything: it is a label: what it is worth is what the hold of that sum in a sandbox is worth. -/
noncomputable def Try.pinned : Pinned := { name := "ytpogpehbkgjiaaa", sum := "752d12e8fa9ea78c6109382a46689f89ab0098ab37af5698fa60366fe5d5f8f0", checked := Try.checked }
namespace Rows
def none {H : Type} : Left H := { results := [], args := [] }

/-- 'laws.FnExactSpellMessage': WHATEVER THE INPUT: true; the input reads as it did. -/
def fnExactSpellMessageSpec : ChangeSpec := { name := "fnExactSpellMessage", fn := fun _ => fun
  | [d1, d2] => { results := [.lit (.bool true)], args := [d1, d2] }
  | _ => none }
def fnExactSpellMessageRow : OpenClaim := { program := "ytpogpehbkgjiaaa", sum := "752d12e8fa9ea78c6109382a46689f89ab0098ab37af5698fa60366fe5d5f8f0", func := "loop.example/g00940/laws.FnExactSpellMessage", spec := "fnExactSpellMessage", unfollowed := true, recurses := true, apart := false }
def FnExactSpellMessageSaid : Prop := fnExactSpellMessageRow.holds Try.pinned (OpenSpec.ofChange fnExactSpellMessageSpec)

/-- ITS FALSE NEIGHBOUR: 'it returns false'. Refute it at one input. -/
def fnExactSpellMessageWrong : ChangeSpec := { name := "fnExactSpellMessage", fn := fun _ => fun
  | [d1, d2] => { results := [.lit (.bool false)], args := [d1, d2] }
  | _ => none }
def FnExactSpellMessageWrongFalsely : Prop := fnExactSpellMessageRow.holds Try.pinned (OpenSpec.ofChange fnExactSpellMessageWrong)

/-- 'laws.FnExactEncodeMessage': WHATEVER THE INPUT: true; the input reads as it did. -/
def fnExactEncodeMessageSpec : ChangeSpec := { name := "fnExactEncodeMessage", fn := fun _ => fun
  | [d1, d2] => { results := [.lit (.bool true)], args := [d1, d2] }
  | _ => none }
def fnExactEncodeMessageRow : OpenClaim := { program := "ytpogpehbkgjiaaa", sum := "752d12e8fa9ea78c6109382a46689f89ab0098ab37af5698fa60366fe5d5f8f0", func := "loop.example/g00940/laws.FnExactEncodeMessage", spec := "fnExactEncodeMessage", unfollowed := true, recurses := true, apart := false }
def FnExactEncodeMessageSaid : Prop := fnExactEncodeMessageRow.holds Try.pinned (OpenSpec.ofChange fnExactEncodeMessageSpec)

/-- ITS FALSE NEIGHBOUR: 'it returns false'. Refute it at one input. -/
def fnExactEncodeMessageWrong : ChangeSpec := { name := "fnExactEncodeMessage", fn := fun _ => fun
  | [d1, d2] => { results := [.lit (.bool false)], args := [d1, d2] }
  | _ => none }
def FnExactEncodeMessageWrongFalsely : Prop := fnExactEncodeMessageRow.holds Try.pinned (OpenSpec.ofChange fnExactEncodeMessageWrong)

/-- 'laws.FnExactLeastSignals': WHATEVER THE INPUT: true; the input reads as it did. -/
def fnExactLeastSignalsSpec : ChangeSpec := { name := "fnExactLeastSignals", fn := fun _ => fun
  | [d1, d2] => { results := [.lit (.bool true)], args := [d1, d2] }
  | _ => none }
def fnExactLeastSignalsRow : OpenClaim := { program := "ytpogpehbkgjiaaa", sum := "752d12e8fa9ea78c6109382a46689f89ab0098ab37af5698fa60366fe5d5f8f0", func := "loop.example/g00940/laws.FnExactLeastSignals", spec := "fnExactLeastSignals", unfollowed := true, recurses := true, apart := false }
def FnExactLeastSignalsSaid : Prop := fnExactLeastSignalsRow.holds Try.pinned (OpenSpec.ofChange fnExactLeastSignalsSpec)

/-- ITS FALSE NEIGHBOUR: 'it returns false'. Refute it at one input. -/
def fnExactLeastSignalsWrong : ChangeSpec := { name := "fnExactLeastSignals", fn := fun _ => fun
  | [d1, d2] => { results := [.lit (.bool false)], args := [d1, d2] }
  | _ => none }
def FnExactLeastSignalsWrongFalsely : Prop := fnExactLeastSignalsRow.holds Try.pinned (OpenSpec.ofChange fnExactLeastSignalsWrong)

/-- 'laws.FnExactCountSpellings': WHATEVER THE INPUT: true; the input reads as it did. -/
def fnExactCountSpellingsSpec : ChangeSpec := { name := "fnExactCountSpellings", fn := fun _ => fun
  | [d1, d2] => { results := [.lit (.bool true)], args := [d1, d2] }
  | _ => none }
def fnExactCountSpellingsRow : OpenClaim := { program := "ytpogpehbkgjiaaa", sum := "752d12e8fa9ea78c6109382a46689f89ab0098ab37af5698fa60366fe5d5f8f0", func := "loop.example/g00940/laws.FnExactCountSpellings", spec := "fnExactCountSpellings", unfollowed := true, recurses := true, apart := false }
def FnExactCountSpellingsSaid : Prop := fnExactCountSpellingsRow.holds Try.pinned (OpenSpec.ofChange fnExactCountSpellingsSpec)

/-- ITS FALSE NEIGHBOUR: 'it returns false'. Refute it at one input. -/
def fnExactCountSpellingsWrong : ChangeSpec := { name := "fnExactCountSpellings", fn := fun _ => fun
  | [d1, d2] => { results := [.lit (.bool false)], args := [d1, d2] }
  | _ => none }
def FnExactCountSpellingsWrongFalsely : Prop := fnExactCountSpellingsRow.holds Try.pinned (OpenSpec.ofChange fnExactCountSpellingsWrong)

/-- 'laws.FnExactSpelledPart': WHATEVER THE INPUT: true; the input reads as it did. -/
def fnExactSpelledPartSpec : ChangeSpec := { name := "fnExactSpelledPart", fn := fun _ => fun
  | [d1, d2] => { results := [.lit (.bool true)], args := [d1, d2] }
  | _ => none }
def fnExactSpelledPartRow : OpenClaim := { program := "ytpogpehbkgjiaaa", sum := "752d12e8fa9ea78c6109382a46689f89ab0098ab37af5698fa60366fe5d5f8f0", func := "loop.example/g00940/laws.FnExactSpelledPart", spec := "fnExactSpelledPart", unfollowed := true, recurses := true, apart := false }
def FnExactSpelledPartSaid : Prop := fnExactSpelledPartRow.holds Try.pinned (OpenSpec.ofChange fnExactSpelledPartSpec)

/-- ITS FALSE NEIGHBOUR: 'it returns false'. Refute it at one input. -/
def fnExactSpelledPartWrong : ChangeSpec := { name := "fnExactSpelledPart", fn := fun _ => fun
  | [d1, d2] => { results := [.lit (.bool false)], args := [d1, d2] }
  | _ => none }
def FnExactSpelledPartWrongFalsely : Prop := fnExactSpelledPartRow.holds Try.pinned (OpenSpec.ofChange fnExactSpelledPartWrong)

/-- 'laws.FnExactTextOfPhrases': WHATEVER THE INPUT: true; the input reads as it did. -/
def fnExactTextOfPhrasesSpec : ChangeSpec := { name := "fnExactTextOfPhrases", fn := fun _ => fun
  | [d1, d2] => { results := [.lit (.bool true)], args := [d1, d2] }
  | _ => none }
def fnExactTextOfPhrasesRow : OpenClaim := { program := "ytpogpehbkgjiaaa", sum := "752d12e8fa9ea78c6109382a46689f89ab0098ab37af5698fa60366fe5d5f8f0", func := "loop.example/g00940/laws.FnExactTextOfPhrases", spec := "fnExactTextOfPhrases", inPlace := ["internal/abi.NoEscape"], unfollowed := true, recurses := true, apart := false }
def FnExactTextOfPhrasesSaid : Prop := fnExactTextOfPhrasesRow.holds Try.pinned (OpenSpec.ofChange fnExactTextOfPhrasesSpec)

/-- ITS FALSE NEIGHBOUR: 'it returns false'. Refute it at one input. -/
def fnExactTextOfPhrasesWrong : ChangeSpec := { name := "fnExactTextOfPhrases", fn := fun _ => fun
  | [d1, d2] => { results := [.lit (.bool false)], args := [d1, d2] }
  | _ => none }
def FnExactTextOfPhrasesWrongFalsely : Prop := fnExactTextOfPhrasesRow.holds Try.pinned (OpenSpec.ofChange fnExactTextOfPhrasesWrong)

/-- 'laws.FnExactCountReadings': WHATEVER THE INPUT: true; the input reads as it did. -/
def fnExactCountReadingsSpec : ChangeSpec := { name := "fnExactCountReadings", fn := fun _ => fun
  | [d1, d2] => { results := [.lit (.bool true)], args := [d1, d2] }
  | _ => none }
def fnExactCountReadingsRow : OpenClaim := { program := "ytpogpehbkgjiaaa", sum := "752d12e8fa9ea78c6109382a46689f89ab0098ab37af5698fa60366fe5d5f8f0", func := "loop.example/g00940/laws.FnExactCountReadings", spec := "fnExactCountReadings", unfollowed := true, recurses := true, apart := false }
def FnExactCountReadingsSaid : Prop := fnExactCountReadingsRow.holds Try.pinned (OpenSpec.ofChange fnExactCountReadingsSpec)

/-- ITS FALSE NEIGHBOUR: 'it returns false'. Refute it at one input. -/
def fnExactCountReadingsWrong : ChangeSpec := { name := "fnExactCountReadings", fn := fun _ => fun
  | [d1, d2] => { results := [.lit (.bool false)], args := [d1, d2] }
  | _ => none }
def FnExactCountReadingsWrongFalsely : Prop := fnExactCountReadingsRow.holds Try.pinned (OpenSpec.ofChange fnExactCountReadingsWrong)

/-- 'laws.FnExactFirstReading': WHATEVER THE INPUT: true; the input reads as it did. -/
def fnExactFirstReadingSpec : ChangeSpec := { name := "fnExactFirstReading", fn := fun _ => fun
  | [d1, d2] => { results := [.lit (.bool true)], args := [d1, d2] }
  | _ => none }
def fnExactFirstReadingRow : OpenClaim := { program := "ytpogpehbkgjiaaa", sum := "752d12e8fa9ea78c6109382a46689f89ab0098ab37af5698fa60366fe5d5f8f0", func := "loop.example/g00940/laws.FnExactFirstReading", spec := "fnExactFirstReading", unfollowed := true, recurses := true, apart := false }
def FnExactFirstReadingSaid : Prop := fnExactFirstReadingRow.holds Try.pinned (OpenSpec.ofChange fnExactFirstReadingSpec)

/-- ITS FALSE NEIGHBOUR: 'it returns false'. Refute it at one input. -/
def fnExactFirstReadingWrong : ChangeSpec := { name := "fnExactFirstReading", fn := fun _ => fun
  | [d1, d2] => { results := [.lit (.bool false)], args := [d1, d2] }
  | _ => none }
def FnExactFirstReadingWrongFalsely : Prop := fnExactFirstReadingRow.holds Try.pinned (OpenSpec.ofChange fnExactFirstReadingWrong)

/-- 'laws.FnExactReadMessage': WHATEVER THE INPUT: true; the input reads as it did. -/
def fnExactReadMessageSpec : ChangeSpec := { name := "fnExactReadMessage", fn := fun _ => fun
  | [d1, d2] => { results := [.lit (.bool true)], args := [d1, d2] }
  | _ => none }
def fnExactReadMessageRow : OpenClaim := { program := "ytpogpehbkgjiaaa", sum := "752d12e8fa9ea78c6109382a46689f89ab0098ab37af5698fa60366fe5d5f8f0", func := "loop.example/g00940/laws.FnExactReadMessage", spec := "fnExactReadMessage", inPlace := ["internal/abi.NoEscape"], unfollowed := true, recurses := true, apart := false }
def FnExactReadMessageSaid : Prop := fnExactReadMessageRow.holds Try.pinned (OpenSpec.ofChange fnExactReadMessageSpec)

/-- ITS FALSE NEIGHBOUR: 'it returns false'. Refute it at one input. -/
def fnExactReadMessageWrong : ChangeSpec := { name := "fnExactReadMessage", fn := fun _ => fun
  | [d1, d2] => { results := [.lit (.bool false)], args := [d1, d2] }
  | _ => none }
def FnExactReadMessageWrongFalsely : Prop := fnExactReadMessageRow.holds Try.pinned (OpenSpec.ofChange fnExactReadMessageWrong)

/-- 'laws.FnExactLoneLetters': WHATEVER THE INPUT: true; the input reads as it did. -/
def fnExactLoneLettersSpec : ChangeSpec := { name := "fnExactLoneLetters", fn := fun _ => fun
  | [d] => { results := [.lit (.bool true)], args := [d] }
  | _ => none }
def fnExactLoneLettersRow : OpenClaim := { program := "ytpogpehbkgjiaaa", sum := "752d12e8fa9ea78c6109382a46689f89ab0098ab37af5698fa60366fe5d5f8f0", func := "loop.example/g00940/laws.FnExactLoneLetters", spec := "fnExactLoneLetters", inPlace := ["internal/abi.NoEscape", "internal/bytealg.MakeNoZero"], unfollowed := true, recurses := true, apart := false }
def FnExactLoneLettersSaid : Prop := fnExactLoneLettersRow.holds Try.pinned (OpenSpec.ofChange fnExactLoneLettersSpec)

/-- ITS FALSE NEIGHBOUR: 'it returns false'. Refute it at one input. -/
def fnExactLoneLettersWrong : ChangeSpec := { name := "fnExactLoneLetters", fn := fun _ => fun
  | [d] => { results := [.lit (.bool false)], args := [d] }
  | _ => none }
def FnExactLoneLettersWrongFalsely : Prop := fnExactLoneLettersRow.holds Try.pinned (OpenSpec.ofChange fnExactLoneLettersWrong)

/-- 'laws.FnExactSavedSignals': WHATEVER THE INPUT: true; the input reads as it did. -/
def fnExactSavedSignalsSpec : ChangeSpec := { name := "fnExactSavedSignals", fn := fun _ => fun
  | [d1, d2] => { results := [.lit (.bool true)], args := [d1, d2] }
  | _ => none }
def fnExactSavedSignalsRow : OpenClaim := { program := "ytpogpehbkgjiaaa", sum := "752d12e8fa9ea78c6109382a46689f89ab0098ab37af5698fa60366fe5d5f8f0", func := "loop.example/g00940/laws.FnExactSavedSignals", spec := "fnExactSavedSignals", unfollowed := true, recurses := true, apart := false }
def FnExactSavedSignalsSaid : Prop := fnExactSavedSignalsRow.holds Try.pinned (OpenSpec.ofChange fnExactSavedSignalsSpec)

/-- ITS FALSE NEIGHBOUR: 'it returns false'. Refute it at one input. -/
def fnExactSavedSignalsWrong : ChangeSpec := { name := "fnExactSavedSignals", fn := fun _ => fun
  | [d1, d2] => { results := [.lit (.bool false)], args := [d1, d2] }
  | _ => none }
def FnExactSavedSignalsWrongFalsely : Prop := fnExactSavedSignalsRow.holds Try.pinned (OpenSpec.ofChange fnExactSavedSignalsWrong)

/-- 'laws.FnExactIsReadOneWay': WHATEVER THE INPUT: true; the input reads as it did. -/
def fnExactIsReadOneWaySpec : ChangeSpec := { name := "fnExactIsReadOneWay", fn := fun _ => fun
  | [d] => { results := [.lit (.bool true)], args := [d] }
  | _ => none }
def fnExactIsReadOneWayRow : OpenClaim := { program := "ytpogpehbkgjiaaa", sum := "752d12e8fa9ea78c6109382a46689f89ab0098ab37af5698fa60366fe5d5f8f0", func := "loop.example/g00940/laws.FnExactIsReadOneWay", spec := "fnExactIsReadOneWay", unfollowed := true, recurses := true, apart := false }
def FnExactIsReadOneWaySaid : Prop := fnExactIsReadOneWayRow.holds Try.pinned (OpenSpec.ofChange fnExactIsReadOneWaySpec)

/-- ITS FALSE NEIGHBOUR: 'it returns false'. Refute it at one input. -/
def fnExactIsReadOneWayWrong : ChangeSpec := { name := "fnExactIsReadOneWay", fn := fun _ => fun
  | [d] => { results := [.lit (.bool false)], args := [d] }
  | _ => none }
def FnExactIsReadOneWayWrongFalsely : Prop := fnExactIsReadOneWayRow.holds Try.pinned (OpenSpec.ofChange fnExactIsReadOneWayWrong)

/- THE SECOND FORM. 'bulk': how many values and letters a reading holds, each counted each time it is reached (what is shared counts as often as it is met; a slice's spare places count too). A statement '..UptoSaid' is the law's where the arguments, and the package variables that the reading takes, are together of bulk at most 1048576: NARROWER than '..Said'. Prove '..Said' where nothing that the law and all that it calls make is longer than what came in: it says more and counts as full. Else prove '..UptoSaid'. A law counts once. -/
mutual
def uptoBulk {H : Type} : DataW H → Nat
  | .lit (.string bytes) => bytes.length + 1
  | .lit _ => 1
  | .nil => 1
  | .ptr d => uptoBulk d + 1
  | .slice elems spare => uptoBulkAll elems + uptoBulkAll spare + 1
  | .agg parts => uptoBulkAll parts + 1
  | .iface _ d => uptoBulk d + 1
  | .map entries => uptoBulkEntries entries + 1
  | .held _ => 1
def uptoBulkAll {H : Type} : List (DataW H) → Nat
  | [] => 0
  | d :: r => uptoBulk d + uptoBulkAll r
def uptoBulkEntries {H : Type} : List (Lit × DataW H) → Nat
  | [] => 0
  | x :: r => uptoBulkEntry x + uptoBulkEntries r
def uptoBulkEntry {H : Type} : Lit × DataW H → Nat
  | (.string bytes, d) => bytes.length + uptoBulk d + 1
  | (_, d) => uptoBulk d + 1
 end
def uptoSmall : (H : Type) → List (DataW H) → Bool := fun _ ds => decide (uptoBulkAll ds ≤ 1048576)
def OpenSpec.upto (s : _root_.Go.ChangeSpec) : _root_.Go.OpenSpec := { _root_.Go.OpenSpec.ofChange s with cond := some uptoSmall }

/-- 'laws.FnExactSpellMessage', WHERE WHAT IT READS IS OF BULK AT MOST 1048576: true; the input reads as it did. -/
def fnExactSpellMessageUptoRow : OpenClaim := { program := "ytpogpehbkgjiaaa", sum := "752d12e8fa9ea78c6109382a46689f89ab0098ab37af5698fa60366fe5d5f8f0", func := "loop.example/g00940/laws.FnExactSpellMessage", spec := "fnExactSpellMessage", unfollowed := true, recurses := true, apart := false, narrowed := true }
def FnExactSpellMessageUptoSaid : Prop := fnExactSpellMessageUptoRow.holds Try.pinned (OpenSpec.upto fnExactSpellMessageSpec)

/-- 'laws.FnExactEncodeMessage', WHERE WHAT IT READS IS OF BULK AT MOST 1048576: true; the input reads as it did. -/
def fnExactEncodeMessageUptoRow : OpenClaim := { program := "ytpogpehbkgjiaaa", sum := "752d12e8fa9ea78c6109382a46689f89ab0098ab37af5698fa60366fe5d5f8f0", func := "loop.example/g00940/laws.FnExactEncodeMessage", spec := "fnExactEncodeMessage", unfollowed := true, recurses := true, apart := false, narrowed := true }
def FnExactEncodeMessageUptoSaid : Prop := fnExactEncodeMessageUptoRow.holds Try.pinned (OpenSpec.upto fnExactEncodeMessageSpec)

/-- 'laws.FnExactLeastSignals', WHERE WHAT IT READS IS OF BULK AT MOST 1048576: true; the input reads as it did. -/
def fnExactLeastSignalsUptoRow : OpenClaim := { program := "ytpogpehbkgjiaaa", sum := "752d12e8fa9ea78c6109382a46689f89ab0098ab37af5698fa60366fe5d5f8f0", func := "loop.example/g00940/laws.FnExactLeastSignals", spec := "fnExactLeastSignals", unfollowed := true, recurses := true, apart := false, narrowed := true }
def FnExactLeastSignalsUptoSaid : Prop := fnExactLeastSignalsUptoRow.holds Try.pinned (OpenSpec.upto fnExactLeastSignalsSpec)

/-- 'laws.FnExactCountSpellings', WHERE WHAT IT READS IS OF BULK AT MOST 1048576: true; the input reads as it did. -/
def fnExactCountSpellingsUptoRow : OpenClaim := { program := "ytpogpehbkgjiaaa", sum := "752d12e8fa9ea78c6109382a46689f89ab0098ab37af5698fa60366fe5d5f8f0", func := "loop.example/g00940/laws.FnExactCountSpellings", spec := "fnExactCountSpellings", unfollowed := true, recurses := true, apart := false, narrowed := true }
def FnExactCountSpellingsUptoSaid : Prop := fnExactCountSpellingsUptoRow.holds Try.pinned (OpenSpec.upto fnExactCountSpellingsSpec)

/-- 'laws.FnExactSpelledPart', WHERE WHAT IT READS IS OF BULK AT MOST 1048576: true; the input reads as it did. -/
def fnExactSpelledPartUptoRow : OpenClaim := { program := "ytpogpehbkgjiaaa", sum := "752d12e8fa9ea78c6109382a46689f89ab0098ab37af5698fa60366fe5d5f8f0", func := "loop.example/g00940/laws.FnExactSpelledPart", spec := "fnExactSpelledPart", unfollowed := true, recurses := true, apart := false, narrowed := true }
def FnExactSpelledPartUptoSaid : Prop := fnExactSpelledPartUptoRow.holds Try.pinned (OpenSpec.upto fnExactSpelledPartSpec)

/-- 'laws.FnExactTextOfPhrases', WHERE WHAT IT READS IS OF BULK AT MOST 1048576: true; the input reads as it did. -/
def fnExactTextOfPhrasesUptoRow : OpenClaim := { program := "ytpogpehbkgjiaaa", sum := "752d12e8fa9ea78c6109382a46689f89ab0098ab37af5698fa60366fe5d5f8f0", func := "loop.example/g00940/laws.FnExactTextOfPhrases", spec := "fnExactTextOfPhrases", inPlace := ["internal/abi.NoEscape"], unfollowed := true, recurses := true, apart := false, narrowed := true }
def FnExactTextOfPhrasesUptoSaid : Prop := fnExactTextOfPhrasesUptoRow.holds Try.pinned (OpenSpec.upto fnExactTextOfPhrasesSpec)

/-- 'laws.FnExactCountReadings', WHERE WHAT IT READS IS OF BULK AT MOST 1048576: true; the input reads as it did. -/
def fnExactCountReadingsUptoRow : OpenClaim := { program := "ytpogpehbkgjiaaa", sum := "752d12e8fa9ea78c6109382a46689f89ab0098ab37af5698fa60366fe5d5f8f0", func := "loop.example/g00940/laws.FnExactCountReadings", spec := "fnExactCountReadings", unfollowed := true, recurses := true, apart := false, narrowed := true }
def FnExactCountReadingsUptoSaid : Prop := fnExactCountReadingsUptoRow.holds Try.pinned (OpenSpec.upto fnExactCountReadingsSpec)

/-- 'laws.FnExactFirstReading', WHERE WHAT IT READS IS OF BULK AT MOST 1048576: true; the input reads as it did. -/
def fnExactFirstReadingUptoRow : OpenClaim := { program := "ytpogpehbkgjiaaa", sum := "752d12e8fa9ea78c6109382a46689f89ab0098ab37af5698fa60366fe5d5f8f0", func := "loop.example/g00940/laws.FnExactFirstReading", spec := "fnExactFirstReading", unfollowed := true, recurses := true, apart := false, narrowed := true }
def FnExactFirstReadingUptoSaid : Prop := fnExactFirstReadingUptoRow.holds Try.pinned (OpenSpec.upto fnExactFirstReadingSpec)

/-- 'laws.FnExactReadMessage', WHERE WHAT IT READS IS OF BULK AT MOST 1048576: true; the input reads as it did. -/
def fnExactReadMessageUptoRow : OpenClaim := { program := "ytpogpehbkgjiaaa", sum := "752d12e8fa9ea78c6109382a46689f89ab0098ab37af5698fa60366fe5d5f8f0", func := "loop.example/g00940/laws.FnExactReadMessage", spec := "fnExactReadMessage", inPlace := ["internal/abi.NoEscape"], unfollowed := true, recurses := true, apart := false, narrowed := true }
def FnExactReadMessageUptoSaid : Prop := fnExactReadMessageUptoRow.holds Try.pinned (OpenSpec.upto fnExactReadMessageSpec)

/-- 'laws.FnExactLoneLetters', WHERE WHAT IT READS IS OF BULK AT MOST 1048576: true; the input reads as it did. -/
def fnExactLoneLettersUptoRow : OpenClaim := { program := "ytpogpehbkgjiaaa", sum := "752d12e8fa9ea78c6109382a46689f89ab0098ab37af5698fa60366fe5d5f8f0", func := "loop.example/g00940/laws.FnExactLoneLetters", spec := "fnExactLoneLetters", inPlace := ["internal/abi.NoEscape", "internal/bytealg.MakeNoZero"], unfollowed := true, recurses := true, apart := false, narrowed := true }
def FnExactLoneLettersUptoSaid : Prop := fnExactLoneLettersUptoRow.holds Try.pinned (OpenSpec.upto fnExactLoneLettersSpec)

/-- 'laws.FnExactSavedSignals', WHERE WHAT IT READS IS OF BULK AT MOST 1048576: true; the input reads as it did. -/
def fnExactSavedSignalsUptoRow : OpenClaim := { program := "ytpogpehbkgjiaaa", sum := "752d12e8fa9ea78c6109382a46689f89ab0098ab37af5698fa60366fe5d5f8f0", func := "loop.example/g00940/laws.FnExactSavedSignals", spec := "fnExactSavedSignals", unfollowed := true, recurses := true, apart := false, narrowed := true }
def FnExactSavedSignalsUptoSaid : Prop := fnExactSavedSignalsUptoRow.holds Try.pinned (OpenSpec.upto fnExactSavedSignalsSpec)

/-- 'laws.FnExactIsReadOneWay', WHERE WHAT IT READS IS OF BULK AT MOST 1048576: true; the input reads as it did. -/
def fnExactIsReadOneWayUptoRow : OpenClaim := { program := "ytpogpehbkgjiaaa", sum := "752d12e8fa9ea78c6109382a46689f89ab0098ab37af5698fa60366fe5d5f8f0", func := "loop.example/g00940/laws.FnExactIsReadOneWay", spec := "fnExactIsReadOneWay", unfollowed := true, recurses := true, apart := false, narrowed := true }
def FnExactIsReadOneWayUptoSaid : Prop := fnExactIsReadOneWayUptoRow.holds Try.pinned (OpenSpec.upto fnExactIsReadOneWaySpec)

end Rows
end Go.Proofs.Ytpogpehbkgjiaaa
