/- Walks of laws of chapter 1 whose results are slices; SignalDistance. -/
import Derived.Test.YtpddnpkhhmjomaaRows
import Derived.Test.YtpddnpkhhmjomaaS1
namespace Go.Proofs.Ytpddnpkhhmjomaa
open Go.ChangeShapes Go.WideShapes Go.ChangeAt Go.RowKit
set_option linter.unusedVariables false

set_option maxHeartbeats 400000 in
theorem FnExactClosedShutters_yes (a0 : Int) (w : World) (h : isSig a0 = true) :
    Calls Try.prog 4 #[.int .i64 a0] w fun e w' => e = .returned (.bool true) ∧ Below w.heap.size w w' := by
  have hlen : (shut a0).length ≤ 1000000 := by have := shut_len a0; omega
  go_enter Try.func4, Try.ntmps4
  go_wp2_with fail
  refine (specClosed_yes _ _ h).mono ?_
  rintro e w1 ⟨v1, rfl, ho1, hb1⟩
  go_wp2_with fail
  refine (implClosed_yes _ _ h).mono ?_
  rintro e w2 ⟨v2, rfl, ho2, hb2⟩
  have hs1 := hb1.size
  have hs2 := hb2.size
  have ap := ho1.apart (Nat.le_refl _) ho2
  have ho1 := ho1.later hb2
  have hb := hb1.trans (hb2.mono hs1)
  clear hb1 hb2
  go_wp2_with fail
  refine (eqIntS_true _ _ _ _ ho2.rd ho1.rd).mono ?_
  rintro e w3 ⟨rfl, n3, rfl⟩
  have ho1 := ho1.drewN n3
  have ho2 := ho2.drewN n3
  have hb := below_drewN hb n3
  generalize w2.drewN n3 = w3 at *
  go_wp2_with fail
  refine (markIntS_any _ _ (shut a0) 1 _ (by decide) (by decide) (by omega) ho2).mono ?_
  rintro e w4 ⟨rfl, ho2, hg⟩
  have ho1 := ho1.kept hg ap
  have hb := hb.grown hg hb.size (fun k hk => by have := (ho2.lt k hk).1; omega)
  clear hg
  go_wp2_with fail
  refine (heldIntS_any _ _ 1 _ (by decide) (by decide) (by omega) ho2.rd).mono ?_
  rintro e w5 ⟨rfl, rfl⟩
  go_wp2_with fail
  refine (implClosed_yes _ _ h).mono ?_
  rintro e w6 ⟨v6, rfl, ho6, hb6⟩
  have ho1 := ho1.later hb6
  have ho2 := ho2.later hb6
  have hb := hb.trans (hb6.mono hb.size)
  clear hb6
  go_wp2_with fail
  refine (eqIntS_true _ _ _ _ ho6.rd ho1.rd).mono ?_
  rintro e w7 ⟨rfl, n7, rfl⟩
  have ho2 := ho2.drewN n7
  have hb := below_drewN hb n7
  go_wp2_with fail
  refine (heldIntS_any _ _ 1 _ (by decide) (by decide) (by omega) ho2.rd).mono ?_
  rintro e w8 ⟨rfl, rfl⟩
  go_wp2
  go_ret
  exact ⟨rfl, hb⟩

set_option maxHeartbeats 400000 in
theorem FnExactClosedShutters_no (a0 : Int) (w : World) (h : isSig a0 = false) :
    Calls Try.prog 4 #[.int .i64 a0] w fun e w' => e = .returned (.bool true) ∧ Below w.heap.size w w' := by
  have on := fun wr => Own.nil wr w.heap.size
  go_enter Try.func4, Try.ntmps4
  go_wp2_with fail
  refine (specClosed_no _ _ h).mono ?_
  rintro e w1 ⟨rfl, rfl⟩
  go_wp2_with fail
  refine (implClosed_no _ _ h).mono ?_
  rintro e w1 ⟨rfl, rfl⟩
  go_wp2_with fail
  refine (eqIntS_true _ _ _ _ (on _).rd (on _).rd).mono ?_
  rintro e w3 ⟨rfl, n3, rfl⟩
  go_wp2_with fail
  refine (markIntS_any w.heap.size _ [] 1 _ (by decide) (by decide) (by decide) (on _)).mono ?_
  rintro e w4 ⟨rfl, ho2, hg⟩
  have hb := (below_drewN (Below.refl w.heap.size w) n3).grown hg (by simp) (fun k hk => by cases hk)
  clear hg
  go_wp2_with fail
  refine (heldIntS_any _ 0 1 _ (by decide) (by decide) (by decide) (on _).rd).mono ?_
  rintro e w5 ⟨rfl, rfl⟩
  go_wp2_with fail
  refine (implClosed_no _ _ h).mono ?_
  rintro e w6 ⟨rfl, rfl⟩
  go_wp2_with fail
  refine (eqIntS_true _ _ _ _ (on _).rd (on _).rd).mono ?_
  rintro e w7 ⟨rfl, n7, rfl⟩
  have hb := below_drewN hb n7
  go_wp2_with fail
  refine (heldIntS_any _ 0 1 _ (by decide) (by decide) (by decide) (on _).rd).mono ?_
  rintro e w8 ⟨rfl, rfl⟩
  go_wp2
  go_ret
  exact ⟨rfl, hb⟩

theorem walk_FnExactClosedShutters (a0 : Int) (w : World) (w0 : (Lit.int .i64 a0).wf = true) :
    Calls Try.prog 4 #[.int .i64 a0] w fun e w' => e = .returned (.bool true) ∧ Below w.heap.size w w' := by
  cases h : isSig a0 with
  | true => exact FnExactClosedShutters_yes a0 w h
  | false => exact FnExactClosedShutters_no a0 w h

set_option maxHeartbeats 400000 in
theorem FnExactChangedShutters_yes (a0 a1 : Int) (w : World) (h : isSig a0 = true) (h' : isSig a1 = true) :
    Calls Try.prog 8 #[.int .i64 a0, .int .i64 a1] w fun e w' => e = .returned (.bool true) ∧ Below w.heap.size w w' := by
  have hlen : (shut (bits BinOp.xor IntKind.i64 a0 a1)).length ≤ 1000000 := by have := shut_len (bits BinOp.xor IntKind.i64 a0 a1); omega
  go_enter Try.func8, Try.ntmps8
  go_wp2_with fail
  refine (specChanged_yes _ _ _ h h').mono ?_
  rintro e w1 ⟨v1, rfl, ho1, hb1⟩
  go_wp2_with fail
  refine (implChanged_yes _ _ _ h h').mono ?_
  rintro e w2 ⟨v2, rfl, ho2, hb2⟩
  have hs1 := hb1.size
  have hs2 := hb2.size
  have ap := ho1.apart (Nat.le_refl _) ho2
  have ho1 := ho1.later hb2
  have hb := hb1.trans (hb2.mono hs1)
  clear hb1 hb2
  go_wp2_with fail
  refine (eqIntS_true _ _ _ _ ho2.rd ho1.rd).mono ?_
  rintro e w3 ⟨rfl, n3, rfl⟩
  have ho1 := ho1.drewN n3
  have ho2 := ho2.drewN n3
  have hb := below_drewN hb n3
  generalize w2.drewN n3 = w3 at *
  go_wp2_with fail
  refine (markIntS_any _ _ (shut (bits BinOp.xor IntKind.i64 a0 a1)) 1 _ (by decide) (by decide) (by omega) ho2).mono ?_
  rintro e w4 ⟨rfl, ho2, hg⟩
  have ho1 := ho1.kept hg ap
  have hb := hb.grown hg hb.size (fun k hk => by have := (ho2.lt k hk).1; omega)
  clear hg
  go_wp2_with fail
  refine (heldIntS_any _ _ 1 _ (by decide) (by decide) (by omega) ho2.rd).mono ?_
  rintro e w5 ⟨rfl, rfl⟩
  go_wp2_with fail
  refine (implChanged_yes _ _ _ h h').mono ?_
  rintro e w6 ⟨v6, rfl, ho6, hb6⟩
  have ho1 := ho1.later hb6
  have ho2 := ho2.later hb6
  have hb := hb.trans (hb6.mono hb.size)
  clear hb6
  go_wp2_with fail
  refine (eqIntS_true _ _ _ _ ho6.rd ho1.rd).mono ?_
  rintro e w7 ⟨rfl, n7, rfl⟩
  have ho2 := ho2.drewN n7
  have hb := below_drewN hb n7
  go_wp2_with fail
  refine (heldIntS_any _ _ 1 _ (by decide) (by decide) (by omega) ho2.rd).mono ?_
  rintro e w8 ⟨rfl, rfl⟩
  go_wp2
  go_ret
  exact ⟨rfl, hb⟩

set_option maxHeartbeats 400000 in
theorem FnExactChangedShutters_no (a0 a1 : Int) (w : World) (h : isSig a0 = false ∨ isSig a1 = false) :
    Calls Try.prog 8 #[.int .i64 a0, .int .i64 a1] w fun e w' => e = .returned (.bool true) ∧ Below w.heap.size w w' := by
  have on := fun wr => Own.nil wr w.heap.size
  go_enter Try.func8, Try.ntmps8
  go_wp2_with fail
  refine (specChanged_no _ _ _ h).mono ?_
  rintro e w1 ⟨rfl, rfl⟩
  go_wp2_with fail
  refine (implChanged_no _ _ _ h).mono ?_
  rintro e w1 ⟨rfl, rfl⟩
  go_wp2_with fail
  refine (eqIntS_true _ _ _ _ (on _).rd (on _).rd).mono ?_
  rintro e w3 ⟨rfl, n3, rfl⟩
  go_wp2_with fail
  refine (markIntS_any w.heap.size _ [] 1 _ (by decide) (by decide) (by decide) (on _)).mono ?_
  rintro e w4 ⟨rfl, ho2, hg⟩
  have hb := (below_drewN (Below.refl w.heap.size w) n3).grown hg (by simp) (fun k hk => by cases hk)
  clear hg
  go_wp2_with fail
  refine (heldIntS_any _ 0 1 _ (by decide) (by decide) (by decide) (on _).rd).mono ?_
  rintro e w5 ⟨rfl, rfl⟩
  go_wp2_with fail
  refine (implChanged_no _ _ _ h).mono ?_
  rintro e w6 ⟨rfl, rfl⟩
  go_wp2_with fail
  refine (eqIntS_true _ _ _ _ (on _).rd (on _).rd).mono ?_
  rintro e w7 ⟨rfl, n7, rfl⟩
  have hb := below_drewN hb n7
  go_wp2_with fail
  refine (heldIntS_any _ 0 1 _ (by decide) (by decide) (by decide) (on _).rd).mono ?_
  rintro e w8 ⟨rfl, rfl⟩
  go_wp2
  go_ret
  exact ⟨rfl, hb⟩

theorem walk_FnExactChangedShutters (a0 a1 : Int) (w : World) (w0 : (Lit.int .i64 a0).wf = true) (w1 : (Lit.int .i64 a1).wf = true) :
    Calls Try.prog 8 #[.int .i64 a0, .int .i64 a1] w fun e w' => e = .returned (.bool true) ∧ Below w.heap.size w w' := by
  cases h : isSig a0 with
  | false => exact FnExactChangedShutters_no a0 a1 w (.inl h)
  | true =>
    cases h' : isSig a1 with
    | true => exact FnExactChangedShutters_yes a0 a1 w h h'
    | false => exact FnExactChangedShutters_no a0 a1 w (.inr h')

theorem SignalDistance_no (a0 a1 : Int) (w : World) (h : isSig a0 = false ∨ isSig a1 = false) :
    Calls Try.prog 7 #[.int .i64 a0, .int .i64 a1] w fun e w' => e = .returned (.bool true) ∧ Below w.heap.size w w' := by
  go_enter Try.func7, Try.ntmps7
  go_wp2_with fail
  refine (specDistance_no _ _ _ h).mono ?_
  rintro e w1 ⟨rfl, rfl⟩
  go_wp2_with fail
  refine (implDistance_no _ _ _ h).mono ?_
  rintro e w1 ⟨rfl, rfl⟩
  go_wp2
  go_ret
  exact ⟨rfl, Below.refl _ _⟩
theorem walk_FnExactSignalDistance (a0 a1 : Int) (w : World) (w0 : (Lit.int .i64 a0).wf = true) (w1 : (Lit.int .i64 a1).wf = true) :
    Calls Try.prog 7 #[.int .i64 a0, .int .i64 a1] w fun e w' => e = .returned (.bool true) ∧ Below w.heap.size w w' := by
  cases h : isSig a0 with
  | false => exact SignalDistance_no a0 a1 w (.inl h)
  | true =>
    cases h' : isSig a1 with
    | false => exact SignalDistance_no a0 a1 w (.inr h')
    | true =>
      go_enter Try.func7, Try.ntmps7
      go_wp2_with fail
      refine (specDistance_yes _ _ _ h h').mono ?_
      rintro e w1 ⟨rfl, hb1⟩
      go_wp2_with fail
      refine (implDistance_yes _ _ _ h h').mono ?_
      rintro e w2 ⟨rfl, hb2⟩
      have hb := hb1.trans (hb2.mono hb1.size)
      go_wp2
      go_ret
      exact ⟨rfl, hb⟩
end Go.Proofs.Ytpddnpkhhmjomaa
