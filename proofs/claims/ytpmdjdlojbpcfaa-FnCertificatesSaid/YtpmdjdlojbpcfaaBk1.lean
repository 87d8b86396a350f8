/- Chapter 2: phrase texts. -/
import Derived.Test.YtpmdjdlojbpcfaaBk0
import Derived.Test.YtpmdjdlojbpcfaaChecked
import Derived.Outline
import Derived.Deep.QuietTactic
import Derived.BigQuiet
namespace Go.Proofs.Ytpmdjdlojbpcfaa
open Go.RowKit
set_option linter.unusedSimpArgs false
set_option linter.unusedVariables false

theorem ret_int {k : IntKind} {a b : Int} (h : a = b) : Ending.returned (.int k a) = .returned (.int k b) := by rw [h]
theorem ret_bool {a b : Bool} (h : a = b) : Ending.returned (.bool a) = .returned (.bool b) := by rw [h]

theorem textB_eq (s : ByteArray) (h : 0 < s.size) : textB s = begB s := by simp [textB, h]
theorem textB_empty (s : ByteArray) (h : ¬ 0 < s.size) : textB s = false := by simp [textB, h]
theorem str_empty {s : ByteArray} (h : ¬ 0 < s.size) : s.toList = [] := by
  rw [ByteArray.toList_eq]; apply List.eq_nil_of_length_eq_zero; simpa using (by omega : s.size = 0)
theorem str_some {s : ByteArray} (h : 0 < s.size) : s.toList.isEmpty = false := by
  rw [ByteArray.toList_eq]
  cases hl : s.data.toList with
  | nil =>
    have h1 : s.data.toList.length = 0 := by rw [hl]; rfl
    have h2 : s.data.toList.length = s.size := by simp
    omega
  | cons a l => rfl

end Go.Proofs.Ytpmdjdlojbpcfaa
