/- Chapter 1: SignalText. -/
import Derived.Test.YtpddnpkhhmjomaaRows
import Derived.Test.YtpddnpkhhmjomaaS1c
import Derived.Test.YtpddnpkhhmjomaaBuild
import Derived.Test.YtpddnpkhhmjomaaShelf
namespace Go.Proofs.Ytpddnpkhhmjomaa
open Go.ChangeShapes Go.WideShapes Go.ChangeAt Go.RowKit
set_option linter.unusedVariables false
set_option linter.unusedSimpArgs false

def rn (b : Bool) : Int := if b then 35 else 46
theorem rn_bd (b : Bool) : 0 ≤ rn b ∧ rn b ≤ 127 := by cases b <;> decide
theorem shutterRune_any (n i : Int) (w : World) (h0 : 0 ≤ n) (h1 : n ≤ 63) (i0 : 0 ≤ i) (i1 : i ≤ 5) :
    Calls Try.prog 44 #[.int .i64 n, .int .i64 i] w fun e w' => e = .returned (.int .i32 (rn (clB n i))) ∧ w = w' := by
  cases hb : clB n i
  all_goals
    go_enter Try.func44, Try.ntmps44
    go_wp2_with (go_at_call 56; refine (isClosed_any _ _ _ h0 h1 i0 i1).mono ?_; rintro e w' ⟨rfl, rfl⟩)
    go_ret
    exact ⟨rfl, rfl⟩

theorem txL_cells (n : Int) (k : Nat) : Lib.byteCells (txL n (k + 1)) = Lib.byteCells (txL n k) ++ [.int .u8 (rn (clB n k))] := by
  have e : txL n (k + 1) = txL n k ++ [if clB n k then 35 else 46] := by simp [txL, List.range_succ]
  rw [e, Lib.byteCells_append]
  congr 1
  cases clB n k <;> rfl

theorem specText_yes (n : Int) (w : World) (h : isSig n = true) :
    Calls Try.prog 20 #[.int .i64 n] w fun e w' => e = .returned (.tuple #[.string (tx n 6), .bool true]) ∧ w = w' := by
  have b := isSig_iff.1 h
  go_enter Try.func20, Try.ntmps20
  go_wp2_with (first
    | (go_at_call 38; refine (sgGood_any _ _).mono ?_; rintro e w' ⟨rfl, rfl⟩)
    | (go_at_call 42; refine (sgText_any _ _ b.1 b.2).mono ?_; rintro e w' ⟨rfl, rfl⟩))
  go_ret2
  exact ⟨rfl, rfl⟩
theorem specText_no (n : Int) (w : World) (h : isSig n = false) :
    Calls Try.prog 20 #[.int .i64 n] w fun e w' => e = .returned (.tuple #[.string ⟨#[]⟩, .bool false]) ∧ w = w' := by
  go_enter Try.func20, Try.ntmps20
  go_wp2_with (go_at_call 38; refine (sgGood_any _ _).mono ?_; rintro e w' ⟨rfl, rfl⟩)
  go_ret2
  exact ⟨rfl, rfl⟩
theorem implText_no (n : Int) (w : World) (h : isSig n = false) :
    Calls Try.prog 21 #[.int .i64 n] w fun e w' => e = .returned (.tuple #[.string ⟨#[]⟩, .bool false]) ∧ w = w' := by
  go_enter Try.func21, Try.ntmps21
  go_wp2_with (go_at_call 40; refine (isSignal_any _ _).mono ?_; rintro e w' ⟨rfl, rfl⟩)
  go_ret2
  exact ⟨rfl, rfl⟩
theorem implText_yes (n : Int) (w : World) (h : isSig n = true) :
    Calls Try.prog 21 #[.int .i64 n] w fun e w' => e = .returned (.tuple #[.string (tx n 6), .bool true]) ∧ Below w.heap.size w w' := by
  have hr := isSig_iff.1 h
  go_enter Try.func21, Try.ntmps21
  go_wp2_with (go_at_call 40; refine (isSignal_any _ _).mono ?_; rintro e w' ⟨rfl, rfl⟩)
  go_loopw [9] (fun i wr => ∃ k : Nat, k ≤ 6 ∧ i = .int .i64 k ∧ Bld wr w.heap.size w.heap.size (Lib.byteCells (txL n k)) ∧ Below w.heap.size w wr) (fun i _ => 6 - (intOf i).toNat)
  case atStart => exact ⟨0, by omega, rfl, Lib.IsBuilderF.of (Lib.fresh_isBuilder _ _ w), (Below.refl _ w).alloc (Nat.le_refl _) _⟩
  case round =>
    obtain ⟨k, hk, rfl, hbl, hb⟩ := hrel
    have hs := hb.size
    by_cases hlt : k < 6
    · have hc := Lib.hid (txL_cells n k)
      have hrn := rn_bd (clB n k)
      have hln : (Lib.byteCells (txL n k)).length ≤ 1099511627776 := by rw [Lib.byteCells_length, txL_len]; omega
      go_wp2_with (first
        | (go_at_call 44; refine (shutterRune_any _ _ _ hr.1 hr.2 (by omega) (by omega)).mono ?_; rintro e w' ⟨rfl, rfl⟩)
        | (go_at_call 43; refine (WriteRune_ascii w.heap.size w.heap.size _ _ hrn.1 hrn.2 _ hbl hln hs).mono ?_; rintro e w' ⟨rfl, hbl', hb'⟩))
      go_roundw
      case rel => exact ⟨k + 1, by omega, by go_num, by rw [hc.out]; exact hbl', hb.trans hb'⟩
      case measure => simp [intOf]; omega
    · obtain rfl : k = 6 := by omega
      go_wp2_with (go_at_call 45; refine (Try.Builder_String_any_k w.heap.size w.heap.size (txL n 6) _ hbl hs).mono ?_; rintro e w' ⟨rfl, _, hb', _⟩)
      go_ret2
      exact ⟨rfl, hb.trans hb'⟩

theorem walk_FnExactSignalText (a0 : Int) (w : World) (w0 : (Lit.int .i64 a0).wf = true) :
    Calls Try.prog 5 #[.int .i64 a0] w fun e w' => e = .returned (.bool true) ∧ Below w.heap.size w w' := by
  cases h : isSig a0 with
  | true =>
    go_enter Try.func5, Try.ntmps5
    go_wp2_with fail
    refine (specText_yes _ _ h).mono ?_
    rintro e w1 ⟨rfl, rfl⟩
    go_wp2_with fail
    refine (implText_yes _ _ h).mono ?_
    rintro e w1 ⟨rfl, hb⟩
    go_wp2
    go_ret
    exact ⟨rfl, hb⟩
  | false =>
    go_enter Try.func5, Try.ntmps5
    go_wp2_with fail
    refine (specText_no _ _ h).mono ?_
    rintro e w1 ⟨rfl, rfl⟩
    go_wp2_with fail
    refine (implText_no _ _ h).mono ?_
    rintro e w1 ⟨rfl, rfl⟩
    go_wp2
    go_ret
    exact ⟨rfl, Below.refl _ _⟩
end Go.Proofs.Ytpddnpkhhmjomaa
