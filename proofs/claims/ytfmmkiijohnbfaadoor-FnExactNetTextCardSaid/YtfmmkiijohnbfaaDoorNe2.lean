/- Chapter 6: is it a net? The program's own check and the model's. -/
import Derived.Test.YtfmmkiijohnbfaaDoorNe1
import Derived.Test.YtfmmkiijohnbfaaDoorAw
import Derived.Lib.QuietBelow
namespace Go.Proofs.YtfmmkiijohnbfaaDoor
open Go.RowKit
set_option linter.unusedSimpArgs false
set_option linter.unusedVariables false

theorem Rd_two (w : World) (x y : Int) (h : Nat) (hh : h = w.heap.size) : Rd (w.alloc (.cells #[.int .i64 x, .int .i64 y] 3)) (.slice (some ⟨h, 0, none⟩) 2 2) [x, y] := by
  subst hh
  refine .inr ⟨w.heap.size, 0, 2, rfl, by simp, by unfold maxLen; simp, fun i hi => ?_⟩
  match i, hi with
  | 0, _ => simp [go_sem]
  | 1, _ => simp [go_sem]
  | m + 2, h => exact absurd h (by simp)
theorem allIn_two (x y lo hi : Int) : allIn [x, y] lo hi = (inB x lo hi && inB y lo hi) := by simp [allIn]

theorem isTower_any (x0 x1 x2 : Int) (w : World) :
    Calls Tryd.prog 41 #[.agg #[.int .i64 x0, .int .i64 x1, .int .i64 x2]] w fun e w' => e = .returned (.bool (towB ⟨x0, x1, x2⟩)) ∧ Below w.heap.size w w' := by
  have hB := fun o1 o2 => ((Below.refl w.heap.size w).alloc (Nat.le_refl _) o1).alloc (by simp) o2
  cases hb : allIn [x0, x1] 0 999 with
  | false =>
    have hf : Hid (towB ⟨x0, x1, x2⟩ = false) := Lib.hid (by unfold towB; rw [allIn_two] at hb; simp [hb])
    have HB := Lib.hid hb
    clear hb
    go_enter Tryd.func41, Tryd.ntmps41
    go_wp2_with fail
    refine (areWithin_b _ [x0, x1] _ _ _ (Rd_two _ _ _ _ (by simp)) HB.out).mono ?_
    rintro e w1 ⟨rfl, rfl⟩
    go_wp2
    go_ret
    exact ⟨ret_bool hf.out.symm, hB _ _⟩
  | true =>
    by_cases h0 : 0 ≤ x2
    · by_cases h1 : x2 ≤ 500
      · have hf : Hid (towB ⟨x0, x1, x2⟩ = true) := Lib.hid (by unfold towB; rw [allIn_two] at hb; rw [hb, inB_yes h0 h1]; rfl)
        have HB := Lib.hid hb
        clear hb
        go_enter Tryd.func41, Tryd.ntmps41
        go_wp2_with fail
        refine (areWithin_b _ [x0, x1] _ _ _ (Rd_two _ _ _ _ (by simp)) HB.out).mono ?_
        rintro e w1 ⟨rfl, rfl⟩
        go_wp2
        go_ret
        exact ⟨ret_bool hf.out.symm, hB _ _⟩
      · have hf : Hid (towB ⟨x0, x1, x2⟩ = false) := Lib.hid (by unfold towB; rw [inB_no (n := x2) (by omega)]; simp)
        have HB := Lib.hid hb
        clear hb
        go_enter Tryd.func41, Tryd.ntmps41
        go_wp2_with fail
        refine (areWithin_b _ [x0, x1] _ _ _ (Rd_two _ _ _ _ (by simp)) HB.out).mono ?_
        rintro e w1 ⟨rfl, rfl⟩
        go_wp2
        go_ret
        exact ⟨ret_bool (by rw [hf.out]; simp; omega), hB _ _⟩
    · have hf : Hid (towB ⟨x0, x1, x2⟩ = false) := Lib.hid (by unfold towB; rw [inB_no (n := x2) (by omega)]; simp)
      have HB := Lib.hid hb
      clear hb
      go_enter Tryd.func41, Tryd.ntmps41
      go_wp2_with fail
      refine (areWithin_b _ [x0, x1] _ _ _ (Rd_two _ _ _ _ (by simp)) HB.out).mono ?_
      rintro e w1 ⟨rfl, rfl⟩
      go_wp2
      go_ret
      exact ⟨ret_bool hf.out.symm, hB _ _⟩

theorem isLink_any (x0 x1 x2 : Int) (m : Nat) (w : World) :
    Calls Tryd.prog 42 #[.agg #[.int .i64 x0, .int .i64 x1, .int .i64 x2], .int .i64 m] w fun e w' => e = .returned (.bool (lnkB m ⟨x0, x1, x2⟩)) ∧ Below w.heap.size w w' := by
  have hB := fun o1 => (Below.refl w.heap.size w).alloc (Nat.le_refl _) o1
  have key : ∀ b, (b = true ↔ 0 ≤ x0 ∧ x0 < x1 ∧ x1 < (m : Int) ∧ 1 ≤ x2 ∧ x2 ≤ 60) → Hid (lnkB m ⟨x0, x1, x2⟩ = b) := fun b hb => Lib.hid (by
    cases b with
    | true => exact lnkB_iff.2 (hb.1 rfl)
    | false => cases e : lnkB m ⟨x0, x1, x2⟩ with
      | false => rfl
      | true => exact absurd (hb.2 (lnkB_iff.1 e)) (by simp))
  by_cases h0 : 0 ≤ x0
  · by_cases h1 : x0 < x1
    · by_cases h2 : x1 < (m : Int)
      · by_cases h3 : 1 ≤ x2
        · by_cases h4 : x2 ≤ 60
          · have hf := key true (by simp [*])
            clear key
            go_enter Tryd.func42, Tryd.ntmps42
            go_wp2
            go_ret
            exact ⟨ret_bool hf.out.symm, hB _⟩
          · have hf := key false (by simp; omega)
            clear key
            go_enter Tryd.func42, Tryd.ntmps42
            go_wp2
            go_ret
            exact ⟨ret_bool hf.out.symm, hB _⟩
        · have hf := key false (by simp; omega)
          clear key
          go_enter Tryd.func42, Tryd.ntmps42
          go_wp2
          go_ret
          exact ⟨ret_bool hf.out.symm, hB _⟩
      · have hf := key false (by simp; omega)
        clear key
        go_enter Tryd.func42, Tryd.ntmps42
        go_wp2
        go_ret
        exact ⟨ret_bool hf.out.symm, hB _⟩
    · have hf := key false (by simp; omega)
      clear key
      go_enter Tryd.func42, Tryd.ntmps42
      go_wp2
      go_ret
      exact ⟨ret_bool hf.out.symm, hB _⟩
  · have hf := key false (by simp; omega)
    clear key
    go_enter Tryd.func42, Tryd.ntmps42
    go_wp2
    go_ret
    exact ⟨ret_bool hf.out.symm, hB _⟩

theorem neBefore_any (x0 x1 x2 y0 y1 y2 : Int) (w : World) :
    Calls Tryd.prog 37 #[.agg #[.int .i64 x0, .int .i64 x1, .int .i64 x2], .agg #[.int .i64 y0, .int .i64 y1, .int .i64 y2]] w fun e w' => e = .returned (.bool (befB ⟨x0, x1, x2⟩ ⟨y0, y1, y2⟩)) ∧ Below w.heap.size w w' := by
  have hB := fun o1 o2 => ((Below.refl w.heap.size w).alloc (Nat.le_refl _) o1).alloc (by simp) o2
  by_cases h0 : x0 < y0
  · have hf : Hid (befB ⟨x0, x1, x2⟩ ⟨y0, y1, y2⟩ = true) := Lib.hid (befB_iff.2 (.inl h0))
    go_enter Tryd.func37, Tryd.ntmps37
    go_wp2
    go_ret
    exact ⟨ret_bool hf.out.symm, hB _ _⟩
  · by_cases h1 : x0 = y0
    · subst h1
      have he : (x0 == x0) = true := by simp
      by_cases h2 : x1 < y1
      · have hf : Hid (befB ⟨x0, x1, x2⟩ ⟨x0, y1, y2⟩ = true) := Lib.hid (befB_iff.2 (.inr ⟨rfl, h2⟩))
        go_enter Tryd.func37, Tryd.ntmps37
        go_wp2
        go_ret
        exact ⟨ret_bool hf.out.symm, hB _ _⟩
      · have hf : Hid (befB ⟨x0, x1, x2⟩ ⟨x0, y1, y2⟩ = false) := Lib.hid (befB_no (by simp; omega))
        go_enter Tryd.func37, Tryd.ntmps37
        go_wp2
        go_ret
        exact ⟨ret_bool hf.out.symm, hB _ _⟩
    · have hf : Hid (befB ⟨x0, x1, x2⟩ ⟨y0, y1, y2⟩ = false) := Lib.hid (befB_no (by simp; omega))
      have he : (x0 == y0) = false := by simpa using h1
      clear h1
      go_enter Tryd.func37, Tryd.ntmps37
      go_wp2
      go_ret
      exact ⟨ret_bool hf.out.symm, hB _ _⟩
end Go.Proofs.YtfmmkiijohnbfaaDoor
