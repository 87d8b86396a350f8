/- The laws' own helpers on phrases and books: the look at the size. -/
import Derived.Test.YtkdmjeonlghnjaaBk1
import Derived.Test.YtkdmjeonlghnjaaHelp
namespace Go.Proofs.Ytkdmjeonlghnjaa
open Go.RowKit
set_option linter.unusedSimpArgs false
set_option linter.unusedVariables false

/-- What a look at the size hands back: -1, or what is left; then P holds. -/
def SzPost (left : Int) (P : Prop) (w : World) (e : Ending) (w' : World) : Prop :=
  ∃ r : Int, e = .returned (.int .i64 r) ∧ Below w.heap.size w w' ∧ (r = -1 ∨ (0 ≤ r ∧ r ≤ left ∧ P))

end Go.Proofs.Ytkdmjeonlghnjaa
