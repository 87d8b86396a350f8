/-
  No cell of these rows narrows 'for every input' (looked for: loops, veiled, ifaces, maps, wideKeys, modest, calm, conditions, laid).
  DERIVED. THE GIVEN ROWS OF THIS SEAT. 11 by the template 'for every input the law returns true; each argument reads behind the call as it read before'; 0 by the template 'total and deterministic' (their statements: YtkknmjioihnpkaaTotals.lean).
  GIVEN WITH THE SEED: the statements are not yours to turn. If you find one false, say at which input.
  Laid BY PROGRAM, IN A SANDBOX (cutbox-rows.mjs): the forced cells as the released guide's own fill.sh prints them over the translation 7786748748b03884… (all of the seat's roots in one cut). By AI agents, Wed Nov 11 2026. No macro, syntax, notation, axiom, sorry.
-/
import Derived.Test.YtkknmjioihnpkaaChecked
import GoSem.Claim
import GoSem.ClaimJoined
import GoSem.ClaimMapViews
import Derived.JoinedTies
import Derived.KernelRfl
namespace Go.Proofs.Ytkknmjioihnpkaa
/- THE CELL 'sum', in the pinned program and in every row, IS THE sha256 OF THE DUMP (.gsa) THAT YtkknmjioihnpkaaProg.lean LOADS. Nothing in Lean hashes anything: it is a label: what it is worth is what the hold of that sum in a sandbox is worth. -/
noncomputable def Try.pinned : Pinned := { name := "ytkknmjioihnpkaa", sum := "7786748748b0388448c6276ec898645ecfa29ff8eff62f9aa32f17a543c30f32", checked := Try.checked }
namespace Rows
def none {H : Type} : Left H := { results := [], args := [] }

/-- 'laws.FnReadOneWay': WHATEVER THE INPUT: true; the input reads as it did. -/
def fnReadOneWaySpec : ChangeSpec := { name := "fnReadOneWay", fn := fun _ => fun
  | [d1, d2] => { results := [.lit (.bool true)], args := [d1, d2] }
  | _ => none }
def fnReadOneWayRow : OpenClaim := { program := "ytkknmjioihnpkaa", sum := "7786748748b0388448c6276ec898645ecfa29ff8eff62f9aa32f17a543c30f32", func := "loop.example/g00940/laws.FnReadOneWay", spec := "fnReadOneWay", unfollowed := true, recurses := true, apart := false }
def FnReadOneWaySaid : Prop := fnReadOneWayRow.holds Try.pinned (OpenSpec.ofChange fnReadOneWaySpec)

/-- ITS FALSE NEIGHBOUR: 'it returns false'. Refute it at one input. -/
def fnReadOneWayWrong : ChangeSpec := { name := "fnReadOneWay", fn := fun _ => fun
  | [d1, d2] => { results := [.lit (.bool false)], args := [d1, d2] }
  | _ => none }
def FnReadOneWayWrongFalsely : Prop := fnReadOneWayRow.holds Try.pinned (OpenSpec.ofChange fnReadOneWayWrong)

/-- 'laws.FnExactIsPhraseText': WHATEVER THE INPUT: true; the input reads as it did. -/
def fnExactIsPhraseTextSpec : ChangeSpec := { name := "fnExactIsPhraseText", fn := fun _ => fun
  | [d] => { results := [.lit (.bool true)], args := [d] }
  | _ => none }
def fnExactIsPhraseTextRow : OpenClaim := { program := "ytkknmjioihnpkaa", sum := "7786748748b0388448c6276ec898645ecfa29ff8eff62f9aa32f17a543c30f32", func := "loop.example/g00940/laws.FnExactIsPhraseText", spec := "fnExactIsPhraseText", apart := false }
def FnExactIsPhraseTextSaid : Prop := fnExactIsPhraseTextRow.holds Try.pinned (OpenSpec.ofChange fnExactIsPhraseTextSpec)

/-- ITS FALSE NEIGHBOUR: 'it returns false'. Refute it at one input. -/
def fnExactIsPhraseTextWrong : ChangeSpec := { name := "fnExactIsPhraseText", fn := fun _ => fun
  | [d] => { results := [.lit (.bool false)], args := [d] }
  | _ => none }
def FnExactIsPhraseTextWrongFalsely : Prop := fnExactIsPhraseTextRow.holds Try.pinned (OpenSpec.ofChange fnExactIsPhraseTextWrong)

/-- 'laws.FnExactIsBook': WHATEVER THE INPUT: true; the input reads as it did. -/
def fnExactIsBookSpec : ChangeSpec := { name := "fnExactIsBook", fn := fun _ => fun
  | [d] => { results := [.lit (.bool true)], args := [d] }
  | _ => none }
def fnExactIsBookRow : OpenClaim := { program := "ytkknmjioihnpkaa", sum := "7786748748b0388448c6276ec898645ecfa29ff8eff62f9aa32f17a543c30f32", func := "loop.example/g00940/laws.FnExactIsBook", spec := "fnExactIsBook", unfollowed := true, recurses := true, apart := false }
def FnExactIsBookSaid : Prop := fnExactIsBookRow.holds Try.pinned (OpenSpec.ofChange fnExactIsBookSpec)

/-- ITS FALSE NEIGHBOUR: 'it returns false'. Refute it at one input. -/
def fnExactIsBookWrong : ChangeSpec := { name := "fnExactIsBook", fn := fun _ => fun
  | [d] => { results := [.lit (.bool false)], args := [d] }
  | _ => none }
def FnExactIsBookWrongFalsely : Prop := fnExactIsBookRow.holds Try.pinned (OpenSpec.ofChange fnExactIsBookWrong)

/-- 'laws.FnExactFindPhrase': WHATEVER THE INPUT: true; the input reads as it did. -/
def fnExactFindPhraseSpec : ChangeSpec := { name := "fnExactFindPhrase", fn := fun _ => fun
  | [d1, d2] => { results := [.lit (.bool true)], args := [d1, d2] }
  | _ => none }
def fnExactFindPhraseRow : OpenClaim := { program := "ytkknmjioihnpkaa", sum := "7786748748b0388448c6276ec898645ecfa29ff8eff62f9aa32f17a543c30f32", func := "loop.example/g00940/laws.FnExactFindPhrase", spec := "fnExactFindPhrase", inPlace := ["internal/bytealg.abigen_runtime_cmpstring"], unfollowed := true, recurses := true, apart := false }
def FnExactFindPhraseSaid : Prop := fnExactFindPhraseRow.holds Try.pinned (OpenSpec.ofChange fnExactFindPhraseSpec)

/-- ITS FALSE NEIGHBOUR: 'it returns false'. Refute it at one input. -/
def fnExactFindPhraseWrong : ChangeSpec := { name := "fnExactFindPhrase", fn := fun _ => fun
  | [d1, d2] => { results := [.lit (.bool false)], args := [d1, d2] }
  | _ => none }
def FnExactFindPhraseWrongFalsely : Prop := fnExactFindPhraseRow.holds Try.pinned (OpenSpec.ofChange fnExactFindPhraseWrong)

/-- 'laws.FnExactPhraseOf': WHATEVER THE INPUT: true; the input reads as it did. -/
def fnExactPhraseOfSpec : ChangeSpec := { name := "fnExactPhraseOf", fn := fun _ => fun
  | [d1, d2] => { results := [.lit (.bool true)], args := [d1, d2] }
  | _ => none }
def fnExactPhraseOfRow : OpenClaim := { program := "ytkknmjioihnpkaa", sum := "7786748748b0388448c6276ec898645ecfa29ff8eff62f9aa32f17a543c30f32", func := "loop.example/g00940/laws.FnExactPhraseOf", spec := "fnExactPhraseOf", unfollowed := true, recurses := true, apart := false }
def FnExactPhraseOfSaid : Prop := fnExactPhraseOfRow.holds Try.pinned (OpenSpec.ofChange fnExactPhraseOfSpec)

/-- ITS FALSE NEIGHBOUR: 'it returns false'. Refute it at one input. -/
def fnExactPhraseOfWrong : ChangeSpec := { name := "fnExactPhraseOf", fn := fun _ => fun
  | [d1, d2] => { results := [.lit (.bool false)], args := [d1, d2] }
  | _ => none }
def FnExactPhraseOfWrongFalsely : Prop := fnExactPhraseOfRow.holds Try.pinned (OpenSpec.ofChange fnExactPhraseOfWrong)

/-- 'laws.FnExactWithBeginning': WHATEVER THE INPUT: true; the input reads as it did. -/
def fnExactWithBeginningSpec : ChangeSpec := { name := "fnExactWithBeginning", fn := fun _ => fun
  | [d1, d2] => { results := [.lit (.bool true)], args := [d1, d2] }
  | _ => none }
def fnExactWithBeginningRow : OpenClaim := { program := "ytkknmjioihnpkaa", sum := "7786748748b0388448c6276ec898645ecfa29ff8eff62f9aa32f17a543c30f32", func := "loop.example/g00940/laws.FnExactWithBeginning", spec := "fnExactWithBeginning", unfollowed := true, recurses := true, apart := false }
def FnExactWithBeginningSaid : Prop := fnExactWithBeginningRow.holds Try.pinned (OpenSpec.ofChange fnExactWithBeginningSpec)

/-- ITS FALSE NEIGHBOUR: 'it returns false'. Refute it at one input. -/
def fnExactWithBeginningWrong : ChangeSpec := { name := "fnExactWithBeginning", fn := fun _ => fun
  | [d1, d2] => { results := [.lit (.bool false)], args := [d1, d2] }
  | _ => none }
def FnExactWithBeginningWrongFalsely : Prop := fnExactWithBeginningRow.holds Try.pinned (OpenSpec.ofChange fnExactWithBeginningWrong)

/-- 'laws.FnExactIsPrefixFree': WHATEVER THE INPUT: true; the input reads as it did. -/
def fnExactIsPrefixFreeSpec : ChangeSpec := { name := "fnExactIsPrefixFree", fn := fun _ => fun
  | [d] => { results := [.lit (.bool true)], args := [d] }
  | _ => none }
def fnExactIsPrefixFreeRow : OpenClaim := { program := "ytkknmjioihnpkaa", sum := "7786748748b0388448c6276ec898645ecfa29ff8eff62f9aa32f17a543c30f32", func := "loop.example/g00940/laws.FnExactIsPrefixFree", spec := "fnExactIsPrefixFree", unfollowed := true, recurses := true, apart := false }
def FnExactIsPrefixFreeSaid : Prop := fnExactIsPrefixFreeRow.holds Try.pinned (OpenSpec.ofChange fnExactIsPrefixFreeSpec)

/-- ITS FALSE NEIGHBOUR: 'it returns false'. Refute it at one input. -/
def fnExactIsPrefixFreeWrong : ChangeSpec := { name := "fnExactIsPrefixFree", fn := fun _ => fun
  | [d] => { results := [.lit (.bool false)], args := [d] }
  | _ => none }
def FnExactIsPrefixFreeWrongFalsely : Prop := fnExactIsPrefixFreeRow.holds Try.pinned (OpenSpec.ofChange fnExactIsPrefixFreeWrong)

/-- 'laws.FnExactFirstPrefix': WHATEVER THE INPUT: true; the input reads as it did. -/
def fnExactFirstPrefixSpec : ChangeSpec := { name := "fnExactFirstPrefix", fn := fun _ => fun
  | [d] => { results := [.lit (.bool true)], args := [d] }
  | _ => none }
def fnExactFirstPrefixRow : OpenClaim := { program := "ytkknmjioihnpkaa", sum := "7786748748b0388448c6276ec898645ecfa29ff8eff62f9aa32f17a543c30f32", func := "loop.example/g00940/laws.FnExactFirstPrefix", spec := "fnExactFirstPrefix", unfollowed := true, recurses := true, apart := false }
def FnExactFirstPrefixSaid : Prop := fnExactFirstPrefixRow.holds Try.pinned (OpenSpec.ofChange fnExactFirstPrefixSpec)

/-- ITS FALSE NEIGHBOUR: 'it returns false'. Refute it at one input. -/
def fnExactFirstPrefixWrong : ChangeSpec := { name := "fnExactFirstPrefix", fn := fun _ => fun
  | [d] => { results := [.lit (.bool false)], args := [d] }
  | _ => none }
def FnExactFirstPrefixWrongFalsely : Prop := fnExactFirstPrefixRow.holds Try.pinned (OpenSpec.ofChange fnExactFirstPrefixWrong)

/-- 'laws.FnExactIsReadOneWay': WHATEVER THE INPUT: true; the input reads as it did. -/
def fnExactIsReadOneWaySpec : ChangeSpec := { name := "fnExactIsReadOneWay", fn := fun _ => fun
  | [d] => { results := [.lit (.bool true)], args := [d] }
  | _ => none }
def fnExactIsReadOneWayRow : OpenClaim := { program := "ytkknmjioihnpkaa", sum := "7786748748b0388448c6276ec898645ecfa29ff8eff62f9aa32f17a543c30f32", func := "loop.example/g00940/laws.FnExactIsReadOneWay", spec := "fnExactIsReadOneWay", unfollowed := true, recurses := true, apart := false }
def FnExactIsReadOneWaySaid : Prop := fnExactIsReadOneWayRow.holds Try.pinned (OpenSpec.ofChange fnExactIsReadOneWaySpec)

/-- ITS FALSE NEIGHBOUR: 'it returns false'. Refute it at one input. -/
def fnExactIsReadOneWayWrong : ChangeSpec := { name := "fnExactIsReadOneWay", fn := fun _ => fun
  | [d] => { results := [.lit (.bool false)], args := [d] }
  | _ => none }
def FnExactIsReadOneWayWrongFalsely : Prop := fnExactIsReadOneWayRow.holds Try.pinned (OpenSpec.ofChange fnExactIsReadOneWayWrong)

/-- 'laws.FnExactAddPhrase': WHATEVER THE INPUT: true; the input reads as it did. -/
def fnExactAddPhraseSpec : ChangeSpec := { name := "fnExactAddPhrase", fn := fun _ => fun
  | [d1, d2] => { results := [.lit (.bool true)], args := [d1, d2] }
  | _ => none }
def fnExactAddPhraseRow : OpenClaim := { program := "ytkknmjioihnpkaa", sum := "7786748748b0388448c6276ec898645ecfa29ff8eff62f9aa32f17a543c30f32", func := "loop.example/g00940/laws.FnExactAddPhrase", spec := "fnExactAddPhrase", inPlace := ["internal/bytealg.abigen_runtime_cmpstring"], unfollowed := true, recurses := true, apart := false }
def FnExactAddPhraseSaid : Prop := fnExactAddPhraseRow.holds Try.pinned (OpenSpec.ofChange fnExactAddPhraseSpec)

/-- ITS FALSE NEIGHBOUR: 'it returns false'. Refute it at one input. -/
def fnExactAddPhraseWrong : ChangeSpec := { name := "fnExactAddPhrase", fn := fun _ => fun
  | [d1, d2] => { results := [.lit (.bool false)], args := [d1, d2] }
  | _ => none }
def FnExactAddPhraseWrongFalsely : Prop := fnExactAddPhraseRow.holds Try.pinned (OpenSpec.ofChange fnExactAddPhraseWrong)

/-- 'laws.FnExactDropPhrase': WHATEVER THE INPUT: true; the input reads as it did. -/
def fnExactDropPhraseSpec : ChangeSpec := { name := "fnExactDropPhrase", fn := fun _ => fun
  | [d1, d2] => { results := [.lit (.bool true)], args := [d1, d2] }
  | _ => none }
def fnExactDropPhraseRow : OpenClaim := { program := "ytkknmjioihnpkaa", sum := "7786748748b0388448c6276ec898645ecfa29ff8eff62f9aa32f17a543c30f32", func := "loop.example/g00940/laws.FnExactDropPhrase", spec := "fnExactDropPhrase", inPlace := ["internal/bytealg.abigen_runtime_cmpstring"], unfollowed := true, recurses := true, apart := false }
def FnExactDropPhraseSaid : Prop := fnExactDropPhraseRow.holds Try.pinned (OpenSpec.ofChange fnExactDropPhraseSpec)

/-- ITS FALSE NEIGHBOUR: 'it returns false'. Refute it at one input. -/
def fnExactDropPhraseWrong : ChangeSpec := { name := "fnExactDropPhrase", fn := fun _ => fun
  | [d1, d2] => { results := [.lit (.bool false)], args := [d1, d2] }
  | _ => none }
def FnExactDropPhraseWrongFalsely : Prop := fnExactDropPhraseRow.holds Try.pinned (OpenSpec.ofChange fnExactDropPhraseWrong)

/- THE SECOND FORM. 'bulk': how many values and letters a reading holds, each counted each time it is reached (what is shared counts as often as it is met; a slice's spare places count too). A statement '..UptoSaid' is the law's where the arguments, and the package variables that the reading takes, are together of bulk at most 1048576: NARROWER than '..Said'. Prove '..Said' where nothing that the law and all that it calls make is longer than what came in: it says more and counts as full. Else prove '..UptoSaid'. A law counts once. -/
mutual
def uptoBulk {H : Type} : DataW H → Nat
  | .lit (.string bytes) => bytes.length + 1
  | .lit _ => 1
  | .nil => 1
  | .ptr d => uptoBulk d + 1
  | .slice elems spare => uptoBulkAll elems + uptoBulkAll spare + 1
  | .agg parts => uptoBulkAll parts + 1
  | .iface _ d => uptoBulk d + 1
  | .map entries => uptoBulkEntries entries + 1
  | .held _ => 1
def uptoBulkAll {H : Type} : List (DataW H) → Nat
  | [] => 0
  | d :: r => uptoBulk d + uptoBulkAll r
def uptoBulkEntries {H : Type} : List (Lit × DataW H) → Nat
  | [] => 0
  | x :: r => uptoBulkEntry x + uptoBulkEntries r
def uptoBulkEntry {H : Type} : Lit × DataW H → Nat
  | (.string bytes, d) => bytes.length + uptoBulk d + 1
  | (_, d) => uptoBulk d + 1
 end
def uptoSmall : (H : Type) → List (DataW H) → Bool := fun _ ds => decide (uptoBulkAll ds ≤ 1048576)
def OpenSpec.upto (s : _root_.Go.ChangeSpec) : _root_.Go.OpenSpec := { _root_.Go.OpenSpec.ofChange s with cond := some uptoSmall }

/-- 'laws.FnReadOneWay', WHERE WHAT IT READS IS OF BULK AT MOST 1048576: true; the input reads as it did. -/
def fnReadOneWayUptoRow : OpenClaim := { program := "ytkknmjioihnpkaa", sum := "7786748748b0388448c6276ec898645ecfa29ff8eff62f9aa32f17a543c30f32", func := "loop.example/g00940/laws.FnReadOneWay", spec := "fnReadOneWay", unfollowed := true, recurses := true, apart := false, narrowed := true }
def FnReadOneWayUptoSaid : Prop := fnReadOneWayUptoRow.holds Try.pinned (OpenSpec.upto fnReadOneWaySpec)

/-- 'laws.FnExactIsPhraseText', WHERE WHAT IT READS IS OF BULK AT MOST 1048576: true; the input reads as it did. -/
def fnExactIsPhraseTextUptoRow : OpenClaim := { program := "ytkknmjioihnpkaa", sum := "7786748748b0388448c6276ec898645ecfa29ff8eff62f9aa32f17a543c30f32", func := "loop.example/g00940/laws.FnExactIsPhraseText", spec := "fnExactIsPhraseText", apart := false, narrowed := true }
def FnExactIsPhraseTextUptoSaid : Prop := fnExactIsPhraseTextUptoRow.holds Try.pinned (OpenSpec.upto fnExactIsPhraseTextSpec)

/-- 'laws.FnExactIsBook', WHERE WHAT IT READS IS OF BULK AT MOST 1048576: true; the input reads as it did. -/
def fnExactIsBookUptoRow : OpenClaim := { program := "ytkknmjioihnpkaa", sum := "7786748748b0388448c6276ec898645ecfa29ff8eff62f9aa32f17a543c30f32", func := "loop.example/g00940/laws.FnExactIsBook", spec := "fnExactIsBook", unfollowed := true, recurses := true, apart := false, narrowed := true }
def FnExactIsBookUptoSaid : Prop := fnExactIsBookUptoRow.holds Try.pinned (OpenSpec.upto fnExactIsBookSpec)

/-- 'laws.FnExactFindPhrase', WHERE WHAT IT READS IS OF BULK AT MOST 1048576: true; the input reads as it did. -/
def fnExactFindPhraseUptoRow : OpenClaim := { program := "ytkknmjioihnpkaa", sum := "7786748748b0388448c6276ec898645ecfa29ff8eff62f9aa32f17a543c30f32", func := "loop.example/g00940/laws.FnExactFindPhrase", spec := "fnExactFindPhrase", inPlace := ["internal/bytealg.abigen_runtime_cmpstring"], unfollowed := true, recurses := true, apart := false, narrowed := true }
def FnExactFindPhraseUptoSaid : Prop := fnExactFindPhraseUptoRow.holds Try.pinned (OpenSpec.upto fnExactFindPhraseSpec)

/-- 'laws.FnExactPhraseOf', WHERE WHAT IT READS IS OF BULK AT MOST 1048576: true; the input reads as it did. -/
def fnExactPhraseOfUptoRow : OpenClaim := { program := "ytkknmjioihnpkaa", sum := "7786748748b0388448c6276ec898645ecfa29ff8eff62f9aa32f17a543c30f32", func := "loop.example/g00940/laws.FnExactPhraseOf", spec := "fnExactPhraseOf", unfollowed := true, recurses := true, apart := false, narrowed := true }
def FnExactPhraseOfUptoSaid : Prop := fnExactPhraseOfUptoRow.holds Try.pinned (OpenSpec.upto fnExactPhraseOfSpec)

/-- 'laws.FnExactWithBeginning', WHERE WHAT IT READS IS OF BULK AT MOST 1048576: true; the input reads as it did. -/
def fnExactWithBeginningUptoRow : OpenClaim := { program := "ytkknmjioihnpkaa", sum := "7786748748b0388448c6276ec898645ecfa29ff8eff62f9aa32f17a543c30f32", func := "loop.example/g00940/laws.FnExactWithBeginning", spec := "fnExactWithBeginning", unfollowed := true, recurses := true, apart := false, narrowed := true }
def FnExactWithBeginningUptoSaid : Prop := fnExactWithBeginningUptoRow.holds Try.pinned (OpenSpec.upto fnExactWithBeginningSpec)

/-- 'laws.FnExactIsPrefixFree', WHERE WHAT IT READS IS OF BULK AT MOST 1048576: true; the input reads as it did. -/
def fnExactIsPrefixFreeUptoRow : OpenClaim := { program := "ytkknmjioihnpkaa", sum := "7786748748b0388448c6276ec898645ecfa29ff8eff62f9aa32f17a543c30f32", func := "loop.example/g00940/laws.FnExactIsPrefixFree", spec := "fnExactIsPrefixFree", unfollowed := true, recurses := true, apart := false, narrowed := true }
def FnExactIsPrefixFreeUptoSaid : Prop := fnExactIsPrefixFreeUptoRow.holds Try.pinned (OpenSpec.upto fnExactIsPrefixFreeSpec)

/-- 'laws.FnExactFirstPrefix', WHERE WHAT IT READS IS OF BULK AT MOST 1048576: true; the input reads as it did. -/
def fnExactFirstPrefixUptoRow : OpenClaim := { program := "ytkknmjioihnpkaa", sum := "7786748748b0388448c6276ec898645ecfa29ff8eff62f9aa32f17a543c30f32", func := "loop.example/g00940/laws.FnExactFirstPrefix", spec := "fnExactFirstPrefix", unfollowed := true, recurses := true, apart := false, narrowed := true }
def FnExactFirstPrefixUptoSaid : Prop := fnExactFirstPrefixUptoRow.holds Try.pinned (OpenSpec.upto fnExactFirstPrefixSpec)

/-- 'laws.FnExactIsReadOneWay', WHERE WHAT IT READS IS OF BULK AT MOST 1048576: true; the input reads as it did. -/
def fnExactIsReadOneWayUptoRow : OpenClaim := { program := "ytkknmjioihnpkaa", sum := "7786748748b0388448c6276ec898645ecfa29ff8eff62f9aa32f17a543c30f32", func := "loop.example/g00940/laws.FnExactIsReadOneWay", spec := "fnExactIsReadOneWay", unfollowed := true, recurses := true, apart := false, narrowed := true }
def FnExactIsReadOneWayUptoSaid : Prop := fnExactIsReadOneWayUptoRow.holds Try.pinned (OpenSpec.upto fnExactIsReadOneWaySpec)

/-- 'laws.FnExactAddPhrase', WHERE WHAT IT READS IS OF BULK AT MOST 1048576: true; the input reads as it did. -/
def fnExactAddPhraseUptoRow : OpenClaim := { program := "ytkknmjioihnpkaa", sum := "7786748748b0388448c6276ec898645ecfa29ff8eff62f9aa32f17a543c30f32", func := "loop.example/g00940/laws.FnExactAddPhrase", spec := "fnExactAddPhrase", inPlace := ["internal/bytealg.abigen_runtime_cmpstring"], unfollowed := true, recurses := true, apart := false, narrowed := true }
def FnExactAddPhraseUptoSaid : Prop := fnExactAddPhraseUptoRow.holds Try.pinned (OpenSpec.upto fnExactAddPhraseSpec)

/-- 'laws.FnExactDropPhrase', WHERE WHAT IT READS IS OF BULK AT MOST 1048576: true; the input reads as it did. -/
def fnExactDropPhraseUptoRow : OpenClaim := { program := "ytkknmjioihnpkaa", sum := "7786748748b0388448c6276ec898645ecfa29ff8eff62f9aa32f17a543c30f32", func := "loop.example/g00940/laws.FnExactDropPhrase", spec := "fnExactDropPhrase", inPlace := ["internal/bytealg.abigen_runtime_cmpstring"], unfollowed := true, recurses := true, apart := false, narrowed := true }
def FnExactDropPhraseUptoSaid : Prop := fnExactDropPhraseUptoRow.holds Try.pinned (OpenSpec.upto fnExactDropPhraseSpec)

end Rows
end Go.Proofs.Ytkknmjioihnpkaa
