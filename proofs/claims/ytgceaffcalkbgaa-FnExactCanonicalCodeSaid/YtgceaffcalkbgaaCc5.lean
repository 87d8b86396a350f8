/- Chapter 4: arrays of six: whether all are 0; a slice of the first of them. -/
import Derived.Test.YtgceaffcalkbgaaCc3
import Derived.ChangeKeysEq
namespace Go.Proofs.Ytgceaffcalkbgaa
open Go.RowKit
set_option linter.unusedSimpArgs false
set_option linter.unusedVariables false

set_option maxRecDepth 100000 in
theorem eq6_any (a0 a1 a2 a3 a4 a5 : Int) (w : World) : ∃ b : Bool, (b = true ↔ a0 = 0 ∧ a1 = 0 ∧ a2 = 0 ∧ a3 = 0 ∧ a4 = 0 ∧ a5 = 0) ∧
    (Op.equalIn 10000 81 (.agg #[.int .i64 a0, .int .i64 a1, .int .i64 a2, .int .i64 a3, .int .i64 a4, .int .i64 a5]) (.agg #[.int .i64 0, .int .i64 0, .int .i64 0, .int .i64 0, .int .i64 0, .int .i64 0])).run Try.prog w = .ok b w := by
  obtain ⟨i0, hi, hz0, hz1, hz2⟩ := info_parts Try_info_int
  have hpk : Try.prog.plainKey 3 = true := by kernel_rfl
  have hc : Try.prog.cellsOf 3 = 1 := by kernel_rfl
  have hq : ∀ (a b : Int) (w : World), (Op.equalIn 9999 3 (.int .i64 a) (.int .i64 b)).run Try.prog w = .ok (a == b) w := fun a b w => run_equalIn_int w 9998 3 .i64 .i64 a b Try.underlying3
  have hx : ∀ (xs : Array Value) (k : Nat) (v : Value) (w : World), xs[k]? = some v → (part 3 xs k).run Try.prog w = .ok v w := fun xs k v w h => run_part_plain w hpk h
  have hr : List.range 6 = [0, 1, 2, 3, 4, 5] := rfl
  refine ⟨a0 == 0 && (a1 == 0 && (a2 == 0 && (a3 == 0 && (a4 == 0 && a5 == 0)))), by simp, ?_⟩
  rw [run_equalIn_array w 9999 _ _ Try.underlying81 hi, hc, hr]
  obtain ⟨xs, hxs⟩ : ∃ xs : Array Value, xs = #[.int .i64 a0, .int .i64 a1, .int .i64 a2, .int .i64 a3, .int .i64 a4, .int .i64 a5] := ⟨_, rfl⟩
  obtain ⟨ys, hys⟩ : ∃ ys : Array Value, ys = #[.int .i64 0, .int .i64 0, .int .i64 0, .int .i64 0, .int .i64 0, .int .i64 0] := ⟨_, rfl⟩
  have x0 := hx xs 0 (.int .i64 a0) w (by rw [hxs]; rfl)
  have x1 := hx xs 1 (.int .i64 a1) w (by rw [hxs]; rfl)
  have x2 := hx xs 2 (.int .i64 a2) w (by rw [hxs]; rfl)
  have x3 := hx xs 3 (.int .i64 a3) w (by rw [hxs]; rfl)
  have x4 := hx xs 4 (.int .i64 a4) w (by rw [hxs]; rfl)
  have x5 := hx xs 5 (.int .i64 a5) w (by rw [hxs]; rfl)
  have y0 := hx ys 0 (.int .i64 0) w (by rw [hys]; rfl)
  have y1 := hx ys 1 (.int .i64 0) w (by rw [hys]; rfl)
  have y2 := hx ys 2 (.int .i64 0) w (by rw [hys]; rfl)
  have y3 := hx ys 3 (.int .i64 0) w (by rw [hys]; rfl)
  have y4 := hx ys 4 (.int .i64 0) w (by rw [hys]; rfl)
  have y5 := hx ys 5 (.int .i64 0) w (by rw [hys]; rfl)
  rw [← hxs, ← hys]
  clear hxs hys
  simp only [Op.eqItems, Sem.run_bind, Nat.zero_mul, Nat.mul_one, x0, x1, x2, x3, x4, x5, y0, y1, y2, y3, y4, y5, hq, Result.andThen_ok, Sem.run_ite, Sem.run_pure]
  by_cases h0 : a0 = 0 <;> by_cases h1 : a1 = 0 <;> by_cases h2 : a2 = 0 <;> by_cases h3 : a3 = 0 <;> by_cases h4 : a4 = 0 <;> by_cases h5 : a5 = 0 <;> simp [h0, h1, h2, h3, h4, h5]

theorem slice6 (F l : Nat) (hl : (l : Int) ≤ 6) (h1 : 1 ≤ l) (w : World) : (Instr.sliceAt 81 (.pointer (some ⟨F, 0, none⟩)) none (some (.int .i64 (l : Int))) none).run Try.prog w = .ok (.slice (some ⟨F, 0, none⟩) l 6) w := by
  have ht := Try.underlying81
  have hn : Try.prog.arrayLen 81 = 6 := by kernel_rfl
  have he : Try.prog.elem 81 = 3 := by kernel_rfl
  have hs : ∀ w, (sizeOf 3).run Try.prog w = .ok 1 w := fun w => Try.sizeOf3 w
  rw [run_sliceAt_array_h w _ _ (by rw [hn, he]; exact ht) _ _ (by omega) (by rw [hn]; exact hl), he, hs]
  simp [slicedAt, hn, Addr.add]
end Go.Proofs.Ytgceaffcalkbgaa
