/- The laws' own helpers on phrases and books: the look at the size. -/
import Derived.Test.YtpmdjdlojbpcfaaBk1
import Derived.Test.YtpmdjdlojbpcfaaHelp
namespace Go.Proofs.Ytpmdjdlojbpcfaa
open Go.RowKit
set_option linter.unusedSimpArgs false
set_option linter.unusedVariables false

/-- What a look at the size hands back: -1, or what is left; then P holds. -/
def SzPost (left : Int) (P : Prop) (w : World) (e : Ending) (w' : World) : Prop :=
  ∃ r : Int, e = .returned (.int .i64 r) ∧ Below w.heap.size w w' ∧ (r = -1 ∨ (0 ≤ r ∧ r ≤ left ∧ P))

theorem szIntS_any (v : Value) (zs : List Int) (left : Int) (w : World) (h0 : 0 ≤ left) (h1 : left ≤ 1048576) (hr : RdC w v zs) :
    Calls Try.prog 86 #[v, .int .i64 left] w (SzPost left (zs.length ≤ left) w) := by
  have hm : (zs.length : Int) ≤ 9223372036854775807 := by
    rcases hr.1 with ⟨rfl, -⟩ | ⟨g, off, cap, -, -, hm, -⟩
    · simp
    · unfold maxLen at hm; omega
  obtain ⟨-, a, cap, rfl, -⟩ := hr
  by_cases h : (zs.length : Int) ≤ left
  · go_enter Try.func86, Try.ntmps86
    go_wp2
    go_ret
    exact ⟨_, rfl, Below.refl _ _, .inr ⟨by omega, by omega, h⟩⟩
  · go_enter Try.func86, Try.ntmps86
    go_wp2
    go_ret
    exact ⟨_, rfl, Below.refl _ _, .inl rfl⟩

end Go.Proofs.Ytpmdjdlojbpcfaa
