/-
  No cell of these rows narrows 'for every input' (looked for: loops, veiled, ifaces, maps, wideKeys, modest, calm, conditions, laid).
  DERIVED. THE GIVEN ROWS OF THIS SEAT. 10 by the template 'for every input the law returns true; each argument reads behind the call as it read before'; 0 by the template 'total and deterministic' (their statements: YteickcpmicifgaaTotals.lean).
  GIVEN WITH THE SEED: the statements are not yours to turn. If you find one false, say at which input.
  Laid BY PROGRAM, IN A SANDBOX (cutbox-rows.mjs): the forced cells as the released guide's own fill.sh prints them over the translation d25c08c5c724e749… (all of the seat's roots in one cut). By AI agents, Wed Nov 11 2026. No macro, syntax, notation, axiom, sorry.
-/
import Derived.Test.YteickcpmicifgaaChecked
import GoSem.Claim
import GoSem.ClaimJoined
import GoSem.ClaimMapViews
import Derived.JoinedTies
import Derived.KernelRfl
namespace Go.Proofs.Yteickcpmicifgaa
/- THE CELL 'sum', in the pinned program and in every row, IS THE sha256 OF THE DUMP (.gsa) THAT YteickcpmicifgaaProg.lean LOADS. Nothing in Lean hashes anything: it is a label: what it is worth is what the hold of that sum in a sandbox is worth. -/
noncomputable def Try.pinned : Pinned := { name := "yteickcpmicifgaa", sum := "d25c08c5c724e74941abab9ac6e1362dd19c86f3fad528cd7a2f8b70e071aa1b", checked := Try.checked }
namespace Rows
def none {H : Type} : Left H := { results := [], args := [] }

/-- 'laws.FnExactIsNet': WHATEVER THE INPUT: true; the input reads as it did. -/
def fnExactIsNetSpec : ChangeSpec := { name := "fnExactIsNet", fn := fun _ => fun
  | [d] => { results := [.lit (.bool true)], args := [d] }
  | _ => none }
def fnExactIsNetRow : OpenClaim := { program := "yteickcpmicifgaa", sum := "d25c08c5c724e74941abab9ac6e1362dd19c86f3fad528cd7a2f8b70e071aa1b", func := "loop.example/g00940/laws.FnExactIsNet", spec := "fnExactIsNet", apart := false }
def FnExactIsNetSaid : Prop := fnExactIsNetRow.holds Try.pinned (OpenSpec.ofChange fnExactIsNetSpec)

/-- ITS FALSE NEIGHBOUR: 'it returns false'. Refute it at one input. -/
def fnExactIsNetWrong : ChangeSpec := { name := "fnExactIsNet", fn := fun _ => fun
  | [d] => { results := [.lit (.bool false)], args := [d] }
  | _ => none }
def FnExactIsNetWrongFalsely : Prop := fnExactIsNetRow.holds Try.pinned (OpenSpec.ofChange fnExactIsNetWrong)

/-- 'laws.FnExactLinkBetween': WHATEVER THE INPUT: true; the input reads as it did. -/
def fnExactLinkBetweenSpec : ChangeSpec := { name := "fnExactLinkBetween", fn := fun _ => fun
  | [d1, d2, d3] => { results := [.lit (.bool true)], args := [d1, d2, d3] }
  | _ => none }
def fnExactLinkBetweenRow : OpenClaim := { program := "yteickcpmicifgaa", sum := "d25c08c5c724e74941abab9ac6e1362dd19c86f3fad528cd7a2f8b70e071aa1b", func := "loop.example/g00940/laws.FnExactLinkBetween", spec := "fnExactLinkBetween", unfollowed := true, recurses := true, apart := false }
def FnExactLinkBetweenSaid : Prop := fnExactLinkBetweenRow.holds Try.pinned (OpenSpec.ofChange fnExactLinkBetweenSpec)

/-- ITS FALSE NEIGHBOUR: 'it returns false'. Refute it at one input. -/
def fnExactLinkBetweenWrong : ChangeSpec := { name := "fnExactLinkBetween", fn := fun _ => fun
  | [d1, d2, d3] => { results := [.lit (.bool false)], args := [d1, d2, d3] }
  | _ => none }
def FnExactLinkBetweenWrongFalsely : Prop := fnExactLinkBetweenRow.holds Try.pinned (OpenSpec.ofChange fnExactLinkBetweenWrong)

/-- 'laws.FnExactNeighboursOf': WHATEVER THE INPUT: true; the input reads as it did. -/
def fnExactNeighboursOfSpec : ChangeSpec := { name := "fnExactNeighboursOf", fn := fun _ => fun
  | [d1, d2] => { results := [.lit (.bool true)], args := [d1, d2] }
  | _ => none }
def fnExactNeighboursOfRow : OpenClaim := { program := "yteickcpmicifgaa", sum := "d25c08c5c724e74941abab9ac6e1362dd19c86f3fad528cd7a2f8b70e071aa1b", func := "loop.example/g00940/laws.FnExactNeighboursOf", spec := "fnExactNeighboursOf", apart := false }
def FnExactNeighboursOfSaid : Prop := fnExactNeighboursOfRow.holds Try.pinned (OpenSpec.ofChange fnExactNeighboursOfSpec)

/-- ITS FALSE NEIGHBOUR: 'it returns false'. Refute it at one input. -/
def fnExactNeighboursOfWrong : ChangeSpec := { name := "fnExactNeighboursOf", fn := fun _ => fun
  | [d1, d2] => { results := [.lit (.bool false)], args := [d1, d2] }
  | _ => none }
def FnExactNeighboursOfWrongFalsely : Prop := fnExactNeighboursOfRow.holds Try.pinned (OpenSpec.ofChange fnExactNeighboursOfWrong)

/-- 'laws.FnExactReachFrom': WHATEVER THE INPUT: true; the input reads as it did. -/
def fnExactReachFromSpec : ChangeSpec := { name := "fnExactReachFrom", fn := fun _ => fun
  | [d1, d2] => { results := [.lit (.bool true)], args := [d1, d2] }
  | _ => none }
def fnExactReachFromRow : OpenClaim := { program := "yteickcpmicifgaa", sum := "d25c08c5c724e74941abab9ac6e1362dd19c86f3fad528cd7a2f8b70e071aa1b", func := "loop.example/g00940/laws.FnExactReachFrom", spec := "fnExactReachFrom", unfollowed := true, recurses := true, apart := false }
def FnExactReachFromSaid : Prop := fnExactReachFromRow.holds Try.pinned (OpenSpec.ofChange fnExactReachFromSpec)

/-- ITS FALSE NEIGHBOUR: 'it returns false'. Refute it at one input. -/
def fnExactReachFromWrong : ChangeSpec := { name := "fnExactReachFrom", fn := fun _ => fun
  | [d1, d2] => { results := [.lit (.bool false)], args := [d1, d2] }
  | _ => none }
def FnExactReachFromWrongFalsely : Prop := fnExactReachFromRow.holds Try.pinned (OpenSpec.ofChange fnExactReachFromWrong)

/-- 'laws.FnExactIsJoined': WHATEVER THE INPUT: true; the input reads as it did. -/
def fnExactIsJoinedSpec : ChangeSpec := { name := "fnExactIsJoined", fn := fun _ => fun
  | [d] => { results := [.lit (.bool true)], args := [d] }
  | _ => none }
def fnExactIsJoinedRow : OpenClaim := { program := "yteickcpmicifgaa", sum := "d25c08c5c724e74941abab9ac6e1362dd19c86f3fad528cd7a2f8b70e071aa1b", func := "loop.example/g00940/laws.FnExactIsJoined", spec := "fnExactIsJoined", unfollowed := true, recurses := true, apart := false }
def FnExactIsJoinedSaid : Prop := fnExactIsJoinedRow.holds Try.pinned (OpenSpec.ofChange fnExactIsJoinedSpec)

/-- ITS FALSE NEIGHBOUR: 'it returns false'. Refute it at one input. -/
def fnExactIsJoinedWrong : ChangeSpec := { name := "fnExactIsJoined", fn := fun _ => fun
  | [d] => { results := [.lit (.bool false)], args := [d] }
  | _ => none }
def FnExactIsJoinedWrongFalsely : Prop := fnExactIsJoinedRow.holds Try.pinned (OpenSpec.ofChange fnExactIsJoinedWrong)

/-- 'laws.FnExactSquareBetween': WHATEVER THE INPUT: true; the input reads as it did. -/
def fnExactSquareBetweenSpec : ChangeSpec := { name := "fnExactSquareBetween", fn := fun _ => fun
  | [d1, d2, d3] => { results := [.lit (.bool true)], args := [d1, d2, d3] }
  | _ => none }
def fnExactSquareBetweenRow : OpenClaim := { program := "yteickcpmicifgaa", sum := "d25c08c5c724e74941abab9ac6e1362dd19c86f3fad528cd7a2f8b70e071aa1b", func := "loop.example/g00940/laws.FnExactSquareBetween", spec := "fnExactSquareBetween", apart := false }
def FnExactSquareBetweenSaid : Prop := fnExactSquareBetweenRow.holds Try.pinned (OpenSpec.ofChange fnExactSquareBetweenSpec)

/-- ITS FALSE NEIGHBOUR: 'it returns false'. Refute it at one input. -/
def fnExactSquareBetweenWrong : ChangeSpec := { name := "fnExactSquareBetween", fn := fun _ => fun
  | [d1, d2, d3] => { results := [.lit (.bool false)], args := [d1, d2, d3] }
  | _ => none }
def FnExactSquareBetweenWrongFalsely : Prop := fnExactSquareBetweenRow.holds Try.pinned (OpenSpec.ofChange fnExactSquareBetweenWrong)

/-- 'laws.FnExactLongestLink': WHATEVER THE INPUT: true; the input reads as it did. -/
def fnExactLongestLinkSpec : ChangeSpec := { name := "fnExactLongestLink", fn := fun _ => fun
  | [d] => { results := [.lit (.bool true)], args := [d] }
  | _ => none }
def fnExactLongestLinkRow : OpenClaim := { program := "yteickcpmicifgaa", sum := "d25c08c5c724e74941abab9ac6e1362dd19c86f3fad528cd7a2f8b70e071aa1b", func := "loop.example/g00940/laws.FnExactLongestLink", spec := "fnExactLongestLink", apart := false }
def FnExactLongestLinkSaid : Prop := fnExactLongestLinkRow.holds Try.pinned (OpenSpec.ofChange fnExactLongestLinkSpec)

/-- ITS FALSE NEIGHBOUR: 'it returns false'. Refute it at one input. -/
def fnExactLongestLinkWrong : ChangeSpec := { name := "fnExactLongestLink", fn := fun _ => fun
  | [d] => { results := [.lit (.bool false)], args := [d] }
  | _ => none }
def FnExactLongestLinkWrongFalsely : Prop := fnExactLongestLinkRow.holds Try.pinned (OpenSpec.ofChange fnExactLongestLinkWrong)

/-- 'laws.FnExactBridgesOf': WHATEVER THE INPUT: true; the input reads as it did. -/
def fnExactBridgesOfSpec : ChangeSpec := { name := "fnExactBridgesOf", fn := fun _ => fun
  | [d] => { results := [.lit (.bool true)], args := [d] }
  | _ => none }
def fnExactBridgesOfRow : OpenClaim := { program := "yteickcpmicifgaa", sum := "d25c08c5c724e74941abab9ac6e1362dd19c86f3fad528cd7a2f8b70e071aa1b", func := "loop.example/g00940/laws.FnExactBridgesOf", spec := "fnExactBridgesOf", unfollowed := true, recurses := true, apart := false }
def FnExactBridgesOfSaid : Prop := fnExactBridgesOfRow.holds Try.pinned (OpenSpec.ofChange fnExactBridgesOfSpec)

/-- ITS FALSE NEIGHBOUR: 'it returns false'. Refute it at one input. -/
def fnExactBridgesOfWrong : ChangeSpec := { name := "fnExactBridgesOf", fn := fun _ => fun
  | [d] => { results := [.lit (.bool false)], args := [d] }
  | _ => none }
def FnExactBridgesOfWrongFalsely : Prop := fnExactBridgesOfRow.holds Try.pinned (OpenSpec.ofChange fnExactBridgesOfWrong)

/-- 'laws.FnExactAddLink': WHATEVER THE INPUT: true; the input reads as it did. -/
def fnExactAddLinkSpec : ChangeSpec := { name := "fnExactAddLink", fn := fun _ => fun
  | [d1, d2] => { results := [.lit (.bool true)], args := [d1, d2] }
  | _ => none }
def fnExactAddLinkRow : OpenClaim := { program := "yteickcpmicifgaa", sum := "d25c08c5c724e74941abab9ac6e1362dd19c86f3fad528cd7a2f8b70e071aa1b", func := "loop.example/g00940/laws.FnExactAddLink", spec := "fnExactAddLink", unfollowed := true, recurses := true, apart := false }
def FnExactAddLinkSaid : Prop := fnExactAddLinkRow.holds Try.pinned (OpenSpec.ofChange fnExactAddLinkSpec)

/-- ITS FALSE NEIGHBOUR: 'it returns false'. Refute it at one input. -/
def fnExactAddLinkWrong : ChangeSpec := { name := "fnExactAddLink", fn := fun _ => fun
  | [d1, d2] => { results := [.lit (.bool false)], args := [d1, d2] }
  | _ => none }
def FnExactAddLinkWrongFalsely : Prop := fnExactAddLinkRow.holds Try.pinned (OpenSpec.ofChange fnExactAddLinkWrong)

/-- 'laws.FnExactDropTower': WHATEVER THE INPUT: true; the input reads as it did. -/
def fnExactDropTowerSpec : ChangeSpec := { name := "fnExactDropTower", fn := fun _ => fun
  | [d1, d2] => { results := [.lit (.bool true)], args := [d1, d2] }
  | _ => none }
def fnExactDropTowerRow : OpenClaim := { program := "yteickcpmicifgaa", sum := "d25c08c5c724e74941abab9ac6e1362dd19c86f3fad528cd7a2f8b70e071aa1b", func := "loop.example/g00940/laws.FnExactDropTower", spec := "fnExactDropTower", apart := false }
def FnExactDropTowerSaid : Prop := fnExactDropTowerRow.holds Try.pinned (OpenSpec.ofChange fnExactDropTowerSpec)

/-- ITS FALSE NEIGHBOUR: 'it returns false'. Refute it at one input. -/
def fnExactDropTowerWrong : ChangeSpec := { name := "fnExactDropTower", fn := fun _ => fun
  | [d1, d2] => { results := [.lit (.bool false)], args := [d1, d2] }
  | _ => none }
def FnExactDropTowerWrongFalsely : Prop := fnExactDropTowerRow.holds Try.pinned (OpenSpec.ofChange fnExactDropTowerWrong)

/- THE SECOND FORM. 'bulk': how many values and letters a reading holds, each counted each time it is reached (what is shared counts as often as it is met; a slice's spare places count too). A statement '..UptoSaid' is the law's where the arguments, and the package variables that the reading takes, are together of bulk at most 1048576: NARROWER than '..Said'. Prove '..Said' where nothing that the law and all that it calls make is longer than what came in: it says more and counts as full. Else prove '..UptoSaid'. A law counts once. -/
mutual
def uptoBulk {H : Type} : DataW H → Nat
  | .lit (.string bytes) => bytes.length + 1
  | .lit _ => 1
  | .nil => 1
  | .ptr d => uptoBulk d + 1
  | .slice elems spare => uptoBulkAll elems + uptoBulkAll spare + 1
  | .agg parts => uptoBulkAll parts + 1
  | .iface _ d => uptoBulk d + 1
  | .map entries => uptoBulkEntries entries + 1
  | .held _ => 1
def uptoBulkAll {H : Type} : List (DataW H) → Nat
  | [] => 0
  | d :: r => uptoBulk d + uptoBulkAll r
def uptoBulkEntries {H : Type} : List (Lit × DataW H) → Nat
  | [] => 0
  | x :: r => uptoBulkEntry x + uptoBulkEntries r
def uptoBulkEntry {H : Type} : Lit × DataW H → Nat
  | (.string bytes, d) => bytes.length + uptoBulk d + 1
  | (_, d) => uptoBulk d + 1
 end
def uptoSmall : (H : Type) → List (DataW H) → Bool := fun _ ds => decide (uptoBulkAll ds ≤ 1048576)
def OpenSpec.upto (s : _root_.Go.ChangeSpec) : _root_.Go.OpenSpec := { _root_.Go.OpenSpec.ofChange s with cond := some uptoSmall }

/-- 'laws.FnExactIsNet', WHERE WHAT IT READS IS OF BULK AT MOST 1048576: true; the input reads as it did. -/
def fnExactIsNetUptoRow : OpenClaim := { program := "yteickcpmicifgaa", sum := "d25c08c5c724e74941abab9ac6e1362dd19c86f3fad528cd7a2f8b70e071aa1b", func := "loop.example/g00940/laws.FnExactIsNet", spec := "fnExactIsNet", apart := false, narrowed := true }
def FnExactIsNetUptoSaid : Prop := fnExactIsNetUptoRow.holds Try.pinned (OpenSpec.upto fnExactIsNetSpec)

/-- 'laws.FnExactLinkBetween', WHERE WHAT IT READS IS OF BULK AT MOST 1048576: true; the input reads as it did. -/
def fnExactLinkBetweenUptoRow : OpenClaim := { program := "yteickcpmicifgaa", sum := "d25c08c5c724e74941abab9ac6e1362dd19c86f3fad528cd7a2f8b70e071aa1b", func := "loop.example/g00940/laws.FnExactLinkBetween", spec := "fnExactLinkBetween", unfollowed := true, recurses := true, apart := false, narrowed := true }
def FnExactLinkBetweenUptoSaid : Prop := fnExactLinkBetweenUptoRow.holds Try.pinned (OpenSpec.upto fnExactLinkBetweenSpec)

/-- 'laws.FnExactNeighboursOf', WHERE WHAT IT READS IS OF BULK AT MOST 1048576: true; the input reads as it did. -/
def fnExactNeighboursOfUptoRow : OpenClaim := { program := "yteickcpmicifgaa", sum := "d25c08c5c724e74941abab9ac6e1362dd19c86f3fad528cd7a2f8b70e071aa1b", func := "loop.example/g00940/laws.FnExactNeighboursOf", spec := "fnExactNeighboursOf", apart := false, narrowed := true }
def FnExactNeighboursOfUptoSaid : Prop := fnExactNeighboursOfUptoRow.holds Try.pinned (OpenSpec.upto fnExactNeighboursOfSpec)

/-- 'laws.FnExactReachFrom', WHERE WHAT IT READS IS OF BULK AT MOST 1048576: true; the input reads as it did. -/
def fnExactReachFromUptoRow : OpenClaim := { program := "yteickcpmicifgaa", sum := "d25c08c5c724e74941abab9ac6e1362dd19c86f3fad528cd7a2f8b70e071aa1b", func := "loop.example/g00940/laws.FnExactReachFrom", spec := "fnExactReachFrom", unfollowed := true, recurses := true, apart := false, narrowed := true }
def FnExactReachFromUptoSaid : Prop := fnExactReachFromUptoRow.holds Try.pinned (OpenSpec.upto fnExactReachFromSpec)

/-- 'laws.FnExactIsJoined', WHERE WHAT IT READS IS OF BULK AT MOST 1048576: true; the input reads as it did. -/
def fnExactIsJoinedUptoRow : OpenClaim := { program := "yteickcpmicifgaa", sum := "d25c08c5c724e74941abab9ac6e1362dd19c86f3fad528cd7a2f8b70e071aa1b", func := "loop.example/g00940/laws.FnExactIsJoined", spec := "fnExactIsJoined", unfollowed := true, recurses := true, apart := false, narrowed := true }
def FnExactIsJoinedUptoSaid : Prop := fnExactIsJoinedUptoRow.holds Try.pinned (OpenSpec.upto fnExactIsJoinedSpec)

/-- 'laws.FnExactSquareBetween', WHERE WHAT IT READS IS OF BULK AT MOST 1048576: true; the input reads as it did. -/
def fnExactSquareBetweenUptoRow : OpenClaim := { program := "yteickcpmicifgaa", sum := "d25c08c5c724e74941abab9ac6e1362dd19c86f3fad528cd7a2f8b70e071aa1b", func := "loop.example/g00940/laws.FnExactSquareBetween", spec := "fnExactSquareBetween", apart := false, narrowed := true }
def FnExactSquareBetweenUptoSaid : Prop := fnExactSquareBetweenUptoRow.holds Try.pinned (OpenSpec.upto fnExactSquareBetweenSpec)

/-- 'laws.FnExactLongestLink', WHERE WHAT IT READS IS OF BULK AT MOST 1048576: true; the input reads as it did. -/
def fnExactLongestLinkUptoRow : OpenClaim := { program := "yteickcpmicifgaa", sum := "d25c08c5c724e74941abab9ac6e1362dd19c86f3fad528cd7a2f8b70e071aa1b", func := "loop.example/g00940/laws.FnExactLongestLink", spec := "fnExactLongestLink", apart := false, narrowed := true }
def FnExactLongestLinkUptoSaid : Prop := fnExactLongestLinkUptoRow.holds Try.pinned (OpenSpec.upto fnExactLongestLinkSpec)

/-- 'laws.FnExactBridgesOf', WHERE WHAT IT READS IS OF BULK AT MOST 1048576: true; the input reads as it did. -/
def fnExactBridgesOfUptoRow : OpenClaim := { program := "yteickcpmicifgaa", sum := "d25c08c5c724e74941abab9ac6e1362dd19c86f3fad528cd7a2f8b70e071aa1b", func := "loop.example/g00940/laws.FnExactBridgesOf", spec := "fnExactBridgesOf", unfollowed := true, recurses := true, apart := false, narrowed := true }
def FnExactBridgesOfUptoSaid : Prop := fnExactBridgesOfUptoRow.holds Try.pinned (OpenSpec.upto fnExactBridgesOfSpec)

/-- 'laws.FnExactAddLink', WHERE WHAT IT READS IS OF BULK AT MOST 1048576: true; the input reads as it did. -/
def fnExactAddLinkUptoRow : OpenClaim := { program := "yteickcpmicifgaa", sum := "d25c08c5c724e74941abab9ac6e1362dd19c86f3fad528cd7a2f8b70e071aa1b", func := "loop.example/g00940/laws.FnExactAddLink", spec := "fnExactAddLink", unfollowed := true, recurses := true, apart := false, narrowed := true }
def FnExactAddLinkUptoSaid : Prop := fnExactAddLinkUptoRow.holds Try.pinned (OpenSpec.upto fnExactAddLinkSpec)

/-- 'laws.FnExactDropTower', WHERE WHAT IT READS IS OF BULK AT MOST 1048576: true; the input reads as it did. -/
def fnExactDropTowerUptoRow : OpenClaim := { program := "yteickcpmicifgaa", sum := "d25c08c5c724e74941abab9ac6e1362dd19c86f3fad528cd7a2f8b70e071aa1b", func := "loop.example/g00940/laws.FnExactDropTower", spec := "fnExactDropTower", apart := false, narrowed := true }
def FnExactDropTowerUptoSaid : Prop := fnExactDropTowerUptoRow.holds Try.pinned (OpenSpec.upto fnExactDropTowerSpec)

end Rows
end Go.Proofs.Yteickcpmicifgaa
