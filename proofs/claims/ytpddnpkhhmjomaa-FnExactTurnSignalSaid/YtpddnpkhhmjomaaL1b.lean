/- Walks of laws of chapter 1 that hold no memory, over bits. -/
import Derived.Test.YtpddnpkhhmjomaaRows
import Derived.Test.YtpddnpkhhmjomaaLib
import Derived.WalkKit
import Derived.ProofKit
namespace Go.Proofs.Ytpddnpkhhmjomaa
open Go.ChangeShapes Go.WideShapes Go.ChangeAt Go.RowKit
set_option linter.unusedVariables false

theorem below64 {P : Int → Prop} (h : ∀ k : Fin 64, P (k.val : Int)) {a : Int} (h0 : 0 ≤ a) (h1 : a ≤ 63) : P a := by
  have := h ⟨a.toNat, by omega⟩
  simpa [Int.toNat_of_nonneg h0] using this
theorem mirror_bits {a : Int} (h0 : 0 ≤ a) (h1 : a ≤ 63) : bits BinOp.or IntKind.i64 (a / 8) (bits BinOp.and IntKind.i64 (a * 8) 63) = a / 8 + a % 8 * 8 :=
  below64 (P := fun a => bits BinOp.or IntKind.i64 (a / 8) (bits BinOp.and IntKind.i64 (a * 8) 63) = a / 8 + a % 8 * 8) (by decide +kernel) h0 h1
theorem turn_bits {a : Int} (h0 : 0 ≤ a) (h1 : a ≤ 63) : bits BinOp.xor IntKind.i64 a 63 = 63 - a :=
  below64 (P := fun a => bits BinOp.xor IntKind.i64 a 63 = 63 - a) (by decide +kernel) h0 h1

theorem walk_FnExactMirrorSignal (a0 : Int) (w : World) (w0 : (Lit.int .i64 a0).wf = true) :
    Calls Try.prog 9 #[.int .i64 a0] w fun e w' => e = .returned (.bool true) ∧ Below w.heap.size w w' := by
  by_cases h1 : 0 ≤ a0
  · by_cases h2 : a0 ≤ 63
    · have e := mirror_bits h1 h2
      go_enter Try.func9, Try.ntmps9
      go_wp2
      go_ret
      exact ⟨rfl, Below.refl _ _⟩
    · go_enter Try.func9, Try.ntmps9
      go_wp2
      go_ret
      exact ⟨rfl, Below.refl _ _⟩
  · go_enter Try.func9, Try.ntmps9
    go_wp2
    go_ret
    exact ⟨rfl, Below.refl _ _⟩

theorem walk_FnExactTurnSignal (a0 : Int) (w : World) (w0 : (Lit.int .i64 a0).wf = true) :
    Calls Try.prog 10 #[.int .i64 a0] w fun e w' => e = .returned (.bool true) ∧ Below w.heap.size w w' := by
  by_cases h1 : 0 ≤ a0
  · by_cases h2 : a0 ≤ 63
    · have e := turn_bits h1 h2
      go_enter Try.func10, Try.ntmps10
      go_wp2
      go_ret
      exact ⟨rfl, Below.refl _ _⟩
    · go_enter Try.func10, Try.ntmps10
      go_wp2
      go_ret
      exact ⟨rfl, Below.refl _ _⟩
  · go_enter Try.func10, Try.ntmps10
    go_wp2
    go_ret
    exact ⟨rfl, Below.refl _ _⟩
end Go.Proofs.Ytpddnpkhhmjomaa
