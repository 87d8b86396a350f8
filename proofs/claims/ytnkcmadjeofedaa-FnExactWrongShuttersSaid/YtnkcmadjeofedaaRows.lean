/-
  No cell of these rows narrows 'for every input' (looked for: loops, veiled, ifaces, maps, wideKeys, modest, calm, conditions, laid).
  DERIVED. THE GIVEN ROWS OF THIS SEAT. 8 by the template 'for every input the law returns true; each argument reads behind the call as it read before'; 0 by the template 'total and deterministic' (their statements: YtnkcmadjeofedaaTotals.lean).
  GIVEN WITH THE SEED: the statements are not yours to turn. If you find one false, say at which input.
  Laid BY PROGRAM, IN A SANDBOX (cutbox-rows.mjs): the forced cells as the released guide's own fill.sh prints them over the translation fab6d5d7d76a62a4… (all of the seat's roots in one cut). By AI agents, Wed Nov 11 2026. No macro, syntax, notation, axiom, sorry.
-/
import Derived.Test.YtnkcmadjeofedaaChecked
import GoSem.Claim
import GoSem.ClaimJoined
import GoSem.ClaimMapViews
import Derived.JoinedTies
import Derived.KernelRfl
namespace Go.Proofs.Ytnkcmadjeofedaa
/- THE CELL 'sum', in the pinned program and in every row, IS THE sha256 OF THE DUMP (.gsa) THAT YtnkcmadjeofedaaProg.lean LOADS. Nothing in Lean hashes anything: it is a label: what it is worth is what the hold of that sum in a sandbox is worth. -/
noncomputable def Try.pinned : Pinned := { name := "ytnkcmadjeofedaa", sum := "fab6d5d7d76a62a402d827059e9fb8c5eb3415a394587ded00e463de24058f11", checked := Try.checked }
namespace Rows
def none {H : Type} : Left H := { results := [], args := [] }

/-- 'laws.FnExactSumCheck': WHATEVER THE INPUT: true; the input reads as it did. -/
def fnExactSumCheckSpec : ChangeSpec := { name := "fnExactSumCheck", fn := fun _ => fun
  | [d] => { results := [.lit (.bool true)], args := [d] }
  | _ => none }
def fnExactSumCheckRow : OpenClaim := { program := "ytnkcmadjeofedaa", sum := "fab6d5d7d76a62a402d827059e9fb8c5eb3415a394587ded00e463de24058f11", func := "loop.example/g00940/laws.FnExactSumCheck", spec := "fnExactSumCheck", apart := false }
def FnExactSumCheckSaid : Prop := fnExactSumCheckRow.holds Try.pinned (OpenSpec.ofChange fnExactSumCheckSpec)

/-- ITS FALSE NEIGHBOUR: 'it returns false'. Refute it at one input. -/
def fnExactSumCheckWrong : ChangeSpec := { name := "fnExactSumCheck", fn := fun _ => fun
  | [d] => { results := [.lit (.bool false)], args := [d] }
  | _ => none }
def FnExactSumCheckWrongFalsely : Prop := fnExactSumCheckRow.holds Try.pinned (OpenSpec.ofChange fnExactSumCheckWrong)

/-- 'laws.FnExactSumHolds': WHATEVER THE INPUT: true; the input reads as it did. -/
def fnExactSumHoldsSpec : ChangeSpec := { name := "fnExactSumHolds", fn := fun _ => fun
  | [d] => { results := [.lit (.bool true)], args := [d] }
  | _ => none }
def fnExactSumHoldsRow : OpenClaim := { program := "ytnkcmadjeofedaa", sum := "fab6d5d7d76a62a402d827059e9fb8c5eb3415a394587ded00e463de24058f11", func := "loop.example/g00940/laws.FnExactSumHolds", spec := "fnExactSumHolds", apart := false }
def FnExactSumHoldsSaid : Prop := fnExactSumHoldsRow.holds Try.pinned (OpenSpec.ofChange fnExactSumHoldsSpec)

/-- ITS FALSE NEIGHBOUR: 'it returns false'. Refute it at one input. -/
def fnExactSumHoldsWrong : ChangeSpec := { name := "fnExactSumHolds", fn := fun _ => fun
  | [d] => { results := [.lit (.bool false)], args := [d] }
  | _ => none }
def FnExactSumHoldsWrongFalsely : Prop := fnExactSumHoldsRow.holds Try.pinned (OpenSpec.ofChange fnExactSumHoldsWrong)

/-- 'laws.FnExactPairChecks': WHATEVER THE INPUT: true; the input reads as it did. -/
def fnExactPairChecksSpec : ChangeSpec := { name := "fnExactPairChecks", fn := fun _ => fun
  | [d] => { results := [.lit (.bool true)], args := [d] }
  | _ => none }
def fnExactPairChecksRow : OpenClaim := { program := "ytnkcmadjeofedaa", sum := "fab6d5d7d76a62a402d827059e9fb8c5eb3415a394587ded00e463de24058f11", func := "loop.example/g00940/laws.FnExactPairChecks", spec := "fnExactPairChecks", apart := false }
def FnExactPairChecksSaid : Prop := fnExactPairChecksRow.holds Try.pinned (OpenSpec.ofChange fnExactPairChecksSpec)

/-- ITS FALSE NEIGHBOUR: 'it returns false'. Refute it at one input. -/
def fnExactPairChecksWrong : ChangeSpec := { name := "fnExactPairChecks", fn := fun _ => fun
  | [d] => { results := [.lit (.bool false)], args := [d] }
  | _ => none }
def FnExactPairChecksWrongFalsely : Prop := fnExactPairChecksRow.holds Try.pinned (OpenSpec.ofChange fnExactPairChecksWrong)

/-- 'laws.FnExactWithPair': WHATEVER THE INPUT: true; the input reads as it did. -/
def fnExactWithPairSpec : ChangeSpec := { name := "fnExactWithPair", fn := fun _ => fun
  | [d] => { results := [.lit (.bool true)], args := [d] }
  | _ => none }
def fnExactWithPairRow : OpenClaim := { program := "ytnkcmadjeofedaa", sum := "fab6d5d7d76a62a402d827059e9fb8c5eb3415a394587ded00e463de24058f11", func := "loop.example/g00940/laws.FnExactWithPair", spec := "fnExactWithPair", apart := false }
def FnExactWithPairSaid : Prop := fnExactWithPairRow.holds Try.pinned (OpenSpec.ofChange fnExactWithPairSpec)

/-- ITS FALSE NEIGHBOUR: 'it returns false'. Refute it at one input. -/
def fnExactWithPairWrong : ChangeSpec := { name := "fnExactWithPair", fn := fun _ => fun
  | [d] => { results := [.lit (.bool false)], args := [d] }
  | _ => none }
def FnExactWithPairWrongFalsely : Prop := fnExactWithPairRow.holds Try.pinned (OpenSpec.ofChange fnExactWithPairWrong)

/-- 'laws.FnExactSyndromesOf': WHATEVER THE INPUT: true; the input reads as it did. -/
def fnExactSyndromesOfSpec : ChangeSpec := { name := "fnExactSyndromesOf", fn := fun _ => fun
  | [d] => { results := [.lit (.bool true)], args := [d] }
  | _ => none }
def fnExactSyndromesOfRow : OpenClaim := { program := "ytnkcmadjeofedaa", sum := "fab6d5d7d76a62a402d827059e9fb8c5eb3415a394587ded00e463de24058f11", func := "loop.example/g00940/laws.FnExactSyndromesOf", spec := "fnExactSyndromesOf", apart := false }
def FnExactSyndromesOfSaid : Prop := fnExactSyndromesOfRow.holds Try.pinned (OpenSpec.ofChange fnExactSyndromesOfSpec)

/-- ITS FALSE NEIGHBOUR: 'it returns false'. Refute it at one input. -/
def fnExactSyndromesOfWrong : ChangeSpec := { name := "fnExactSyndromesOf", fn := fun _ => fun
  | [d] => { results := [.lit (.bool false)], args := [d] }
  | _ => none }
def FnExactSyndromesOfWrongFalsely : Prop := fnExactSyndromesOfRow.holds Try.pinned (OpenSpec.ofChange fnExactSyndromesOfWrong)

/-- 'laws.FnExactFillErased': WHATEVER THE INPUT: true; the input reads as it did. -/
def fnExactFillErasedSpec : ChangeSpec := { name := "fnExactFillErased", fn := fun _ => fun
  | [d1, d2] => { results := [.lit (.bool true)], args := [d1, d2] }
  | _ => none }
def fnExactFillErasedRow : OpenClaim := { program := "ytnkcmadjeofedaa", sum := "fab6d5d7d76a62a402d827059e9fb8c5eb3415a394587ded00e463de24058f11", func := "loop.example/g00940/laws.FnExactFillErased", spec := "fnExactFillErased", apart := false }
def FnExactFillErasedSaid : Prop := fnExactFillErasedRow.holds Try.pinned (OpenSpec.ofChange fnExactFillErasedSpec)

/-- ITS FALSE NEIGHBOUR: 'it returns false'. Refute it at one input. -/
def fnExactFillErasedWrong : ChangeSpec := { name := "fnExactFillErased", fn := fun _ => fun
  | [d1, d2] => { results := [.lit (.bool false)], args := [d1, d2] }
  | _ => none }
def FnExactFillErasedWrongFalsely : Prop := fnExactFillErasedRow.holds Try.pinned (OpenSpec.ofChange fnExactFillErasedWrong)

/-- 'laws.FnExactSeesExchange': WHATEVER THE INPUT: true; the input reads as it did. -/
def fnExactSeesExchangeSpec : ChangeSpec := { name := "fnExactSeesExchange", fn := fun _ => fun
  | [d1, d2, d3] => { results := [.lit (.bool true)], args := [d1, d2, d3] }
  | _ => none }
def fnExactSeesExchangeRow : OpenClaim := { program := "ytnkcmadjeofedaa", sum := "fab6d5d7d76a62a402d827059e9fb8c5eb3415a394587ded00e463de24058f11", func := "loop.example/g00940/laws.FnExactSeesExchange", spec := "fnExactSeesExchange", apart := false }
def FnExactSeesExchangeSaid : Prop := fnExactSeesExchangeRow.holds Try.pinned (OpenSpec.ofChange fnExactSeesExchangeSpec)

/-- ITS FALSE NEIGHBOUR: 'it returns false'. Refute it at one input. -/
def fnExactSeesExchangeWrong : ChangeSpec := { name := "fnExactSeesExchange", fn := fun _ => fun
  | [d1, d2, d3] => { results := [.lit (.bool false)], args := [d1, d2, d3] }
  | _ => none }
def FnExactSeesExchangeWrongFalsely : Prop := fnExactSeesExchangeRow.holds Try.pinned (OpenSpec.ofChange fnExactSeesExchangeWrong)

/-- 'laws.FnExactWrongShutters': WHATEVER THE INPUT: true; the input reads as it did. -/
def fnExactWrongShuttersSpec : ChangeSpec := { name := "fnExactWrongShutters", fn := fun _ => fun
  | [d1, d2] => { results := [.lit (.bool true)], args := [d1, d2] }
  | _ => none }
def fnExactWrongShuttersRow : OpenClaim := { program := "ytnkcmadjeofedaa", sum := "fab6d5d7d76a62a402d827059e9fb8c5eb3415a394587ded00e463de24058f11", func := "loop.example/g00940/laws.FnExactWrongShutters", spec := "fnExactWrongShutters", apart := false }
def FnExactWrongShuttersSaid : Prop := fnExactWrongShuttersRow.holds Try.pinned (OpenSpec.ofChange fnExactWrongShuttersSpec)

/-- ITS FALSE NEIGHBOUR: 'it returns false'. Refute it at one input. -/
def fnExactWrongShuttersWrong : ChangeSpec := { name := "fnExactWrongShutters", fn := fun _ => fun
  | [d1, d2] => { results := [.lit (.bool false)], args := [d1, d2] }
  | _ => none }
def FnExactWrongShuttersWrongFalsely : Prop := fnExactWrongShuttersRow.holds Try.pinned (OpenSpec.ofChange fnExactWrongShuttersWrong)

/- THE SECOND FORM. 'bulk': how many values and letters a reading holds, each counted each time it is reached (what is shared counts as often as it is met; a slice's spare places count too). A statement '..UptoSaid' is the law's where the arguments, and the package variables that the reading takes, are together of bulk at most 1048576: NARROWER than '..Said'. Prove '..Said' where nothing that the law and all that it calls make is longer than what came in: it says more and counts as full. Else prove '..UptoSaid'. A law counts once. -/
mutual
def uptoBulk {H : Type} : DataW H → Nat
  | .lit (.string bytes) => bytes.length + 1
  | .lit _ => 1
  | .nil => 1
  | .ptr d => uptoBulk d + 1
  | .slice elems spare => uptoBulkAll elems + uptoBulkAll spare + 1
  | .agg parts => uptoBulkAll parts + 1
  | .iface _ d => uptoBulk d + 1
  | .map entries => uptoBulkEntries entries + 1
  | .held _ => 1
def uptoBulkAll {H : Type} : List (DataW H) → Nat
  | [] => 0
  | d :: r => uptoBulk d + uptoBulkAll r
def uptoBulkEntries {H : Type} : List (Lit × DataW H) → Nat
  | [] => 0
  | x :: r => uptoBulkEntry x + uptoBulkEntries r
def uptoBulkEntry {H : Type} : Lit × DataW H → Nat
  | (.string bytes, d) => bytes.length + uptoBulk d + 1
  | (_, d) => uptoBulk d + 1
 end
def uptoSmall : (H : Type) → List (DataW H) → Bool := fun _ ds => decide (uptoBulkAll ds ≤ 1048576)
def OpenSpec.upto (s : _root_.Go.ChangeSpec) : _root_.Go.OpenSpec := { _root_.Go.OpenSpec.ofChange s with cond := some uptoSmall }

/-- 'laws.FnExactSumCheck', WHERE WHAT IT READS IS OF BULK AT MOST 1048576: true; the input reads as it did. -/
def fnExactSumCheckUptoRow : OpenClaim := { program := "ytnkcmadjeofedaa", sum := "fab6d5d7d76a62a402d827059e9fb8c5eb3415a394587ded00e463de24058f11", func := "loop.example/g00940/laws.FnExactSumCheck", spec := "fnExactSumCheck", apart := false, narrowed := true }
def FnExactSumCheckUptoSaid : Prop := fnExactSumCheckUptoRow.holds Try.pinned (OpenSpec.upto fnExactSumCheckSpec)

/-- 'laws.FnExactSumHolds', WHERE WHAT IT READS IS OF BULK AT MOST 1048576: true; the input reads as it did. -/
def fnExactSumHoldsUptoRow : OpenClaim := { program := "ytnkcmadjeofedaa", sum := "fab6d5d7d76a62a402d827059e9fb8c5eb3415a394587ded00e463de24058f11", func := "loop.example/g00940/laws.FnExactSumHolds", spec := "fnExactSumHolds", apart := false, narrowed := true }
def FnExactSumHoldsUptoSaid : Prop := fnExactSumHoldsUptoRow.holds Try.pinned (OpenSpec.upto fnExactSumHoldsSpec)

/-- 'laws.FnExactPairChecks', WHERE WHAT IT READS IS OF BULK AT MOST 1048576: true; the input reads as it did. -/
def fnExactPairChecksUptoRow : OpenClaim := { program := "ytnkcmadjeofedaa", sum := "fab6d5d7d76a62a402d827059e9fb8c5eb3415a394587ded00e463de24058f11", func := "loop.example/g00940/laws.FnExactPairChecks", spec := "fnExactPairChecks", apart := false, narrowed := true }
def FnExactPairChecksUptoSaid : Prop := fnExactPairChecksUptoRow.holds Try.pinned (OpenSpec.upto fnExactPairChecksSpec)

/-- 'laws.FnExactWithPair', WHERE WHAT IT READS IS OF BULK AT MOST 1048576: true; the input reads as it did. -/
def fnExactWithPairUptoRow : OpenClaim := { program := "ytnkcmadjeofedaa", sum := "fab6d5d7d76a62a402d827059e9fb8c5eb3415a394587ded00e463de24058f11", func := "loop.example/g00940/laws.FnExactWithPair", spec := "fnExactWithPair", apart := false, narrowed := true }
def FnExactWithPairUptoSaid : Prop := fnExactWithPairUptoRow.holds Try.pinned (OpenSpec.upto fnExactWithPairSpec)

/-- 'laws.FnExactSyndromesOf', WHERE WHAT IT READS IS OF BULK AT MOST 1048576: true; the input reads as it did. -/
def fnExactSyndromesOfUptoRow : OpenClaim := { program := "ytnkcmadjeofedaa", sum := "fab6d5d7d76a62a402d827059e9fb8c5eb3415a394587ded00e463de24058f11", func := "loop.example/g00940/laws.FnExactSyndromesOf", spec := "fnExactSyndromesOf", apart := false, narrowed := true }
def FnExactSyndromesOfUptoSaid : Prop := fnExactSyndromesOfUptoRow.holds Try.pinned (OpenSpec.upto fnExactSyndromesOfSpec)

/-- 'laws.FnExactFillErased', WHERE WHAT IT READS IS OF BULK AT MOST 1048576: true; the input reads as it did. -/
def fnExactFillErasedUptoRow : OpenClaim := { program := "ytnkcmadjeofedaa", sum := "fab6d5d7d76a62a402d827059e9fb8c5eb3415a394587ded00e463de24058f11", func := "loop.example/g00940/laws.FnExactFillErased", spec := "fnExactFillErased", apart := false, narrowed := true }
def FnExactFillErasedUptoSaid : Prop := fnExactFillErasedUptoRow.holds Try.pinned (OpenSpec.upto fnExactFillErasedSpec)

/-- 'laws.FnExactSeesExchange', WHERE WHAT IT READS IS OF BULK AT MOST 1048576: true; the input reads as it did. -/
def fnExactSeesExchangeUptoRow : OpenClaim := { program := "ytnkcmadjeofedaa", sum := "fab6d5d7d76a62a402d827059e9fb8c5eb3415a394587ded00e463de24058f11", func := "loop.example/g00940/laws.FnExactSeesExchange", spec := "fnExactSeesExchange", apart := false, narrowed := true }
def FnExactSeesExchangeUptoSaid : Prop := fnExactSeesExchangeUptoRow.holds Try.pinned (OpenSpec.upto fnExactSeesExchangeSpec)

/-- 'laws.FnExactWrongShutters', WHERE WHAT IT READS IS OF BULK AT MOST 1048576: true; the input reads as it did. -/
def fnExactWrongShuttersUptoRow : OpenClaim := { program := "ytnkcmadjeofedaa", sum := "fab6d5d7d76a62a402d827059e9fb8c5eb3415a394587ded00e463de24058f11", func := "loop.example/g00940/laws.FnExactWrongShutters", spec := "fnExactWrongShutters", apart := false, narrowed := true }
def FnExactWrongShuttersUptoSaid : Prop := fnExactWrongShuttersUptoRow.holds Try.pinned (OpenSpec.upto fnExactWrongShuttersSpec)

end Rows
end Go.Proofs.Ytnkcmadjeofedaa
