/-
  DERIVED. GIVEN WITH THE SEED: THE CARDS: each row of YtnkcmadjeofedaaDoorRows.lean that lists a variable, with what it lists TIED to the program's text (the seventh form; the later family's looks); each row that meets fmt, with fmt's text TOLD by the authors' own Lean function (tested against real Go, not proved from fmt's source: count such statements apart). THE CARD IS WHAT COUNTS. Prove the row's statement (the work); the ties are given (YtnkcmadjeofedaaDoorTie.lean); close each card by the builder's one call (the guide's Derived/Test/ToyasCard.lean, 'card_holds'). Laid BY PROGRAM, IN A SANDBOX (cutbox-door.mjs). By AI agents, Wed Nov 11 2026. No macro, syntax, notation, axiom, sorry.
-/
import Derived.Test.YtnkcmadjeofedaaDoorRows
import GoSem.ClaimSeven
namespace Go.Proofs.YtnkcmadjeofedaaDoor
namespace Rows

/-- THE TIED CARD OF 'laws.FnExactCorrectOne'. -/
def fnExactCorrectOneCard : Claim7 := { stood := { row := fnExactCorrectOneRow, standIns := [], harness := (true, "8b2ecd18a7dc472560e7d9f6b2187a2f31bdeeb630ad8781bd5249bf6e9ebc42"), looks := false }, kinds := [], alts := [], laidByText := true, laidKinds := [.data], laidTests := true, laidLooks := .later }
def FnExactCorrectOneCardSaid : Prop := Claim7.holds Tryd.pinned (.plain (OpenSpec.ofChange fnExactCorrectOneSpec)) fnExactCorrectOneCard

/-- THE TIED CARD OF 'laws.FnExactCheckAll'. -/
def fnExactCheckAllCard : Claim7 := { stood := { row := fnExactCheckAllRow, standIns := [], harness := (true, "8b2ecd18a7dc472560e7d9f6b2187a2f31bdeeb630ad8781bd5249bf6e9ebc42"), looks := false }, kinds := [], alts := [], laidByText := true, laidKinds := [.data], laidTests := true, laidLooks := .later }
def FnExactCheckAllCardSaid : Prop := Claim7.holds Tryd.pinned (.plain (OpenSpec.ofChange fnExactCheckAllSpec)) fnExactCheckAllCard

/-- THE SECOND FORM's CARD OF 'laws.FnExactCorrectOne'. -/
def fnExactCorrectOneUptoCard : Claim7 := { stood := { row := fnExactCorrectOneUptoRow, standIns := [], harness := (true, "8b2ecd18a7dc472560e7d9f6b2187a2f31bdeeb630ad8781bd5249bf6e9ebc42"), looks := false }, kinds := [], alts := [], laidByText := true, laidKinds := [.data], laidTests := true, laidLooks := .later }
def FnExactCorrectOneUptoCardSaid : Prop := Claim7.holds Tryd.pinned (.plain (OpenSpec.upto fnExactCorrectOneSpec)) fnExactCorrectOneUptoCard

/-- THE SECOND FORM's CARD OF 'laws.FnExactCheckAll'. -/
def fnExactCheckAllUptoCard : Claim7 := { stood := { row := fnExactCheckAllUptoRow, standIns := [], harness := (true, "8b2ecd18a7dc472560e7d9f6b2187a2f31bdeeb630ad8781bd5249bf6e9ebc42"), looks := false }, kinds := [], alts := [], laidByText := true, laidKinds := [.data], laidTests := true, laidLooks := .later }
def FnExactCheckAllUptoCardSaid : Prop := Claim7.holds Tryd.pinned (.plain (OpenSpec.upto fnExactCheckAllSpec)) fnExactCheckAllUptoCard
end Rows
end Go.Proofs.YtnkcmadjeofedaaDoor
