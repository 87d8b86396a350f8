/- Chapter 4: CanonicalCode of the program, whatever comes. -/
import Derived.Test.YtgceaffcalkbgaaCc4
namespace Go.Proofs.Ytgceaffcalkbgaa
open Go.RowKit
set_option linter.unusedSimpArgs false
set_option linter.unusedVariables false

theorem implCanon_any (v : Value) (ls : List Int) (r : Int) (w : World) (h1 : Rd w v ls) :
    Calls Try.prog 29 #[v, .int .i64 r] w fun e w' => ∃ v, e = .returned (.tuple #[v, .bool (caB ls r)]) ∧ OwnJ w' w.heap.size w'.heap.size v (caL ls r) ∧ Below w.heap.size w w' := by
  cases hl : lgB ls with
  | false =>
    have hf : Hid (caB ls r = false) := Lib.hid (by simp [caB, kfB, hl])
    obtain ⟨a1, c1, rfl⟩ := h1.len
    have hbW := (Below.refl w.heap.size w).alloc (Nat.le_refl _) (.cells #[.slice a1 ls.length c1] 23)
    have hrW := Lib.hid (h1.later hbW)
    clear h1
    go_enter Try.func29, Try.ntmps29
    go_wp2_with fail
    refine (areLengths_any _ ls _ hrW.out).mono ?_
    rintro e w0 ⟨rfl, rfl⟩
    rw [hl]
    go_wp2
    go_ret2
    exact ⟨_, by rw [hf.out]; rfl, by rw [caL_no hf.out]; exact OwnJ.nil _ _ _, hbW⟩
  | true =>
    cases hb : baB r with
    | true => exact implCanonGo v ls r w h1 hl hb
    | false =>
      have hf : Hid (caB ls r = false) := Lib.hid (by simp [caB, kfB, hb])
      obtain ⟨a1, c1, rfl⟩ := h1.len
      have hbW := (Below.refl w.heap.size w).alloc (Nat.le_refl _) (.cells #[.slice a1 ls.length c1] 23)
      have hrW := Lib.hid (h1.later hbW)
      clear h1
      go_enter Try.func29, Try.ntmps29
      go_wp2_with fail
      refine (areLengths_any _ ls _ hrW.out).mono ?_
      rintro e w0 ⟨rfl, rfl⟩
      rw [hl]
      go_wp2_with fail
      refine (isBase_any _ _).mono ?_
      rintro e w0 ⟨rfl, rfl⟩
      rw [hb]
      go_wp2
      go_ret2
      exact ⟨_, by rw [hf.out]; rfl, by rw [caL_no hf.out]; exact OwnJ.nil _ _ _, hbW⟩
theorem caL_small (ls : List Int) (r : Int) : SmallJ (caL ls r) := by
  cases h : caB ls r with
  | false => rw [caL_no h]; exact ⟨by simp, by simp [sumTo]⟩
  | true =>
    rw [caL_yes h]
    have hl : lgB ls = true := by simp only [caB, kfB, Bool.and_eq_true] at h; exact h.1.1
    have h20 := lgB_len hl
    have hb : ∀ k, k ≤ ls.length → sumTo (canT r ls) k ≤ 6 * k := by
      intro k hk
      induction k with
      | zero => simp [sumTo]
      | succ k ih =>
        have := nth_lg hl (show k < ls.length by omega)
        have := ih (by omega)
        simp only [sumTo, rowAt_canT (show k < ls.length by omega), wdC, dig_len]
        omega
    refine ⟨by rw [canT_len]; omega, ?_⟩
    have := hb ls.length (Nat.le_refl _)
    rw [canT_len]
    omega
end Go.Proofs.Ytgceaffcalkbgaa
