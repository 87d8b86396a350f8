/- Walks of laws of chapter 1 that hold no memory. -/
import Derived.Test.YtpddnpkhhmjomaaRows
import Derived.Test.YtpddnpkhhmjomaaLib
import Derived.WalkKit
import Derived.ProofKit
namespace Go.Proofs.Ytpddnpkhhmjomaa
open Go.ChangeShapes Go.WideShapes Go.ChangeAt Go.RowKit
set_option linter.unusedVariables false

theorem walk_FnExactIsContent (a0 : Int) (w : World) (w0 : (Lit.int .i64 a0).wf = true) :
    Calls Try.prog 3 #[.int .i64 a0] w fun e w' => e = .returned (.bool true) ∧ Below w.heap.size w w' := by
  by_cases h1 : 1 ≤ a0
  · by_cases h2 : a0 ≤ 60
    all_goals
      go_enter Try.func3, Try.ntmps3
      go_wp2
      go_ret
      exact ⟨rfl, Below.refl _ _⟩
  · go_enter Try.func3, Try.ntmps3
    go_wp2
    go_ret
    exact ⟨rfl, Below.refl _ _⟩
end Go.Proofs.Ytpddnpkhhmjomaa
