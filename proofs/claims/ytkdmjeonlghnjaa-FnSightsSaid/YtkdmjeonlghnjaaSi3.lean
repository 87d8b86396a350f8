/- Chapter 7: the room above a Ground, on both sides; what is blocked; do the towers see each other? -/
import Derived.Test.YtkdmjeonlghnjaaSi2
namespace Go.Proofs.Ytkdmjeonlghnjaa
open Go.RowKit Go.Sort
set_option linter.unusedSimpArgs false
set_option linter.unusedVariables false

theorem curvatureOf_any (n : Int) (w : World) (h0 : 0 ≤ n) (h3 : n ≤ 3) : Calls Try.prog 81 #[.int .i64 n] w fun e w' => e = .returned (.int .i64 (5 * (8 - n))) ∧ w = w' := by
  go_enter Try.func81, Try.ntmps81
  go_wp2
  go_ret
  exact ⟨rfl, rfl⟩
theorem bulgeOf_any (D x n : Int) (w : World) (h0 : 0 ≤ n) (h3 : n ≤ 3) (hx : 0 ≤ x) (hD : x ≤ D) (h9 : D ≤ 999) : Calls Try.prog 69 #[.int .i64 D, .int .i64 x, .int .i64 n] w fun e w' => e = .returned (.int .i64 (5 * (8 - n) * x * (D - x))) ∧ w = w' := by
  have p := mul_le (a := 5 * (8 - n)) (b := x) (x := 40) (y := 999) (by omega) (by omega) (by omega) (by omega)
  have q := mul_le (a := 5 * (8 - n) * x) (b := D - x) (x := 40 * 999) (y := 999) p.1 (by omega) p.2 (by omega)
  obtain ⟨p1, p2⟩ := p
  obtain ⟨q1, q2⟩ := q
  go_enter Try.func69, Try.ntmps69
  go_wp2_with fail
  refine (curvatureOf_any n _ h0 h3).mono ?_
  rintro e w' ⟨rfl, rfl⟩
  go_wp2
  go_ret
  exact ⟨rfl, rfl⟩
theorem siBulge_any (D x n : Int) (w : World) (h0 : 0 ≤ n) (h3 : n ≤ 3) (hx : 0 ≤ x) (hD : x ≤ D) (h9 : D ≤ 999) : Calls Try.prog 74 #[.int .i64 D, .int .i64 x, .int .i64 n] w fun e w' => e = .returned (.int .i64 (5 * (8 - n) * x * (D - x))) ∧ w = w' := by
  have p := mul_le (a := 5 * (8 - n)) (b := x) (x := 40) (y := 999) (by omega) (by omega) (by omega) (by omega)
  have q := mul_le (a := 5 * (8 - n) * x) (b := D - x) (x := 40 * 999) (y := 999) p.1 (by omega) p.2 (by omega)
  obtain ⟨p1, p2⟩ := p
  obtain ⟨q1, q2⟩ := q
  go_enter Try.func74, Try.ntmps74
  go_wp2
  go_ret
  exact ⟨rfl, rfl⟩

/-- The sums' bounds, each at a product. -/
theorem Bnd.prods {D A B n : Int} {g : T2} (h : Bnd D A B n g) :
    (0 ≤ A * (D - g.x0) ∧ A * (D - g.x0) ≤ 6001 * 999) ∧ (0 ≤ B * g.x0 ∧ B * g.x0 ≤ 6001 * 999) ∧ (0 ≤ g.x1 * D ∧ g.x1 * D ≤ 3000 * 999) ∧ (0 ≤ 5 * (8 - n) * g.x0 * (D - g.x0) * D ∧ 5 * (8 - n) * g.x0 * (D - g.x0) * D ≤ 40 * 999 * 999 * 999) ∧ (0 ≤ A * D ∧ A * D ≤ 6001 * 999) ∧ (-(6001 * 999) ≤ (B - A) * g.x0 ∧ (B - A) * g.x0 ≤ 6001 * 999) ∧ (0 ≤ (g.x1 * 50968 + 5 * (8 - n) * g.x0 * (D - g.x0)) * D ∧ (g.x1 * 50968 + 5 * (8 - n) * g.x0 * (D - g.x0)) * D ≤ (3000 * 50968 + 40 * 999 * 999) * 999) := by
  have hb := h.bul
  obtain ⟨h1, h2, h3, h4, h5, h6, h7, h8, h9, ha, hh, hc⟩ := h
  exact ⟨mul_le (by omega) (by omega) (by omega) (by omega), mul_le (by omega) (by omega) (by omega) (by omega), mul_le (by omega) (by omega) (by omega) (by omega), mul_le hb.2.1 (by omega) hb.2.2 (by omega), mul_le (by omega) (by omega) (by omega) (by omega), mul_abs ⟨by omega, by omega⟩ ⟨by omega, by omega⟩ (by decide), mul_le (by omega) (by omega) (by omega) (by omega)⟩

set_option maxRecDepth 100000 in
set_option maxHeartbeats 1000000 in
theorem roomAbove_any (D A B n x0 x1 : Int) (c : Value) (w : World) (h : Bnd D A B n ⟨x0, x1⟩) :
    Calls Try.prog 57 #[.agg #[.int .i64 D, .int .i64 A, .int .i64 B, c], .agg #[.int .i64 x0, .int .i64 x1], .int .i64 n] w fun e w' => e = .returned (.int .i64 (ovr D A B n ⟨x0, x1⟩)) ∧ Below w.heap.size w w' := by
  have hB : Below w.heap.size w ((w.alloc (.cells #[.int .i64 D, .int .i64 A, .int .i64 B, c] 25)).alloc (.cells #[.int .i64 x0, .int .i64 x1] 72)) := ((Below.refl _ _).alloc (Nat.le_refl _) _).alloc (by simp) _
  have hp := h.prods
  have hu := h.bul
  have hR := Lib.hid (ovr_room D A B n ⟨x0, x1⟩)
  obtain ⟨h1, h2, h3, h4, h5, h6, h7, h8, h9, ha, hh, hc⟩ := h
  obtain ⟨pa, pb, pc, pd, pe, pf, pg⟩ := hp
  obtain ⟨-, pu⟩ := hu
  dsimp only at *
  obtain ⟨bu, hbu⟩ : ∃ bu, bu = 5 * (8 - n) * x0 * (D - x0) := ⟨_, rfl⟩
  rw [← hbu] at pd pg pu
  have HBU := Lib.hid hbu
  clear hbu
  have e0 : IntKind.i64.wrap (x1 * D) = x1 * D := IntWalk.i64_in _ (by omega)
  have e1 : IntKind.i64.wrap (A * (D - x0) + B * x0 - x1 * D) = A * (D - x0) + B * x0 - x1 * D := IntWalk.i64_in _ (by omega)
  have e2 : IntKind.i64.wrap (50968 * (A * (D - x0) + B * x0 - x1 * D)) = 50968 * (A * (D - x0) + B * x0 - x1 * D) := IntWalk.i64_in _ (by omega)
  have e3 : IntKind.i64.wrap (bu * D) = bu * D := IntWalk.i64_in _ (by omega)
  have e4 : IntKind.i64.wrap (50968 * (A * (D - x0) + B * x0 - x1 * D) - bu * D) = 50968 * (A * (D - x0) + B * x0 - x1 * D) - bu * D := IntWalk.i64_in _ (by omega)
  go_enter Try.func57, Try.ntmps57
  go_wp2
  have n0 : ((w.alloc (.cells #[.int .i64 D, .int .i64 A, .int .i64 B, c] 25)).alloc (.cells #[.int .i64 x0, .int .i64 x1] 72)).cell? ⟨w.heap.size, 0, none⟩ = some (.int .i64 D) := by simp [go_sem]
  have n1 : ((w.alloc (.cells #[.int .i64 D, .int .i64 A, .int .i64 B, c] 25)).alloc (.cells #[.int .i64 x0, .int .i64 x1] 72)).cell? ⟨w.heap.size, 1, none⟩ = some (.int .i64 A) := by simp [go_sem]
  have n2 : ((w.alloc (.cells #[.int .i64 D, .int .i64 A, .int .i64 B, c] 25)).alloc (.cells #[.int .i64 x0, .int .i64 x1] 72)).cell? ⟨w.heap.size, 2, none⟩ = some (.int .i64 B) := by simp [go_sem]
  have n3 : ((w.alloc (.cells #[.int .i64 D, .int .i64 A, .int .i64 B, c] 25)).alloc (.cells #[.int .i64 x0, .int .i64 x1] 72)).cell? ⟨w.heap.size, 3, none⟩ = some (c) := by simp [go_sem]
  have m0 : ((w.alloc (.cells #[.int .i64 D, .int .i64 A, .int .i64 B, c] 25)).alloc (.cells #[.int .i64 x0, .int .i64 x1] 72)).cell? ⟨w.heap.size + 1, 0, none⟩ = some (.int .i64 x0) := by simp [go_sem]
  have m1 : ((w.alloc (.cells #[.int .i64 D, .int .i64 A, .int .i64 B, c] 25)).alloc (.cells #[.int .i64 x0, .int .i64 x1] 72)).cell? ⟨w.heap.size + 1, 1, none⟩ = some (.int .i64 x1) := by simp [go_sem]
  generalize (w.alloc (.cells #[.int .i64 D, .int .i64 A, .int .i64 B, c] 25)).alloc (.cells #[.int .i64 x0, .int .i64 x1] 72) = W at *
  have K0 := cell_regrown n0
  have K1 := cell_regrown n1
  have K2 := cell_regrown n2
  have K3 := cell_regrown n3
  have K4 := cell_regrown m0
  have K5 := cell_regrown m1
  have C0 : ∀ d os, Calls Try.prog 69 #[.int .i64 D, .int .i64 x0, .int .i64 n] (grow (redrawn W d) os) fun e w'' => e = .returned (.int .i64 bu) ∧ ∃ p : Regrown, w'' = grow (redrawn W p.d) p.os := fun d os => Calls.regrown_same (by rw [HBU.out]; exact bulgeOf_any D x0 n _ h7 h8 (by omega) (by omega) h2)
  clear n0 n1 n2 n3 m0 m1
  refine wp_region_quiet_below (by kernel_rfl) (by kernel_rfl) ?_
  repeat (go_big_quiet_step (first | (with_reducible exact C0 _ _)))
  refine wpQuiet_nil ?_
  intro _ hw'
  obtain ⟨⟨dq, osq⟩, hw''⟩ := hw'
  subst hw''
  have hb3 := hB.trans ((below_regrown W dq osq).mono hB.size)
  go_wp2
  go_ret
  exact ⟨ret_int (by rw [← hR.out, ← HBU.out]), hb3⟩

set_option maxRecDepth 100000 in
set_option maxHeartbeats 1000000 in
theorem siOver_any (D A B n x0 x1 : Int) (c : Value) (w : World) (h : Bnd D A B n ⟨x0, x1⟩) :
    Calls Try.prog 60 #[.agg #[.int .i64 D, .int .i64 A, .int .i64 B, c], .agg #[.int .i64 x0, .int .i64 x1], .int .i64 n] w fun e w' => e = .returned (.int .i64 (ovr D A B n ⟨x0, x1⟩)) ∧ Below w.heap.size w w' := by
  have hB : Below w.heap.size w ((w.alloc (.cells #[.int .i64 D, .int .i64 A, .int .i64 B, c] 25)).alloc (.cells #[.int .i64 x0, .int .i64 x1] 72)) := ((Below.refl _ _).alloc (Nat.le_refl _) _).alloc (by simp) _
  have hp := h.prods
  have hu := h.bul
  have hR := Lib.hid (ovr_room D A B n ⟨x0, x1⟩)
  obtain ⟨h1, h2, h3, h4, h5, h6, h7, h8, h9, ha, hh, hc⟩ := h
  obtain ⟨pa, pb, pc, pd, pe, pf, pg⟩ := hp
  obtain ⟨-, pu⟩ := hu
  dsimp only at *
  obtain ⟨bu, hbu⟩ : ∃ bu, bu = 5 * (8 - n) * x0 * (D - x0) := ⟨_, rfl⟩
  rw [← hbu] at pd pg pu
  have HBU := Lib.hid hbu
  clear hbu
  have e0 : IntKind.i64.wrap ((A * D + (B - A) * x0) * 50968) = (A * D + (B - A) * x0) * 50968 := IntWalk.i64_in _ (by omega)
  have e1 : IntKind.i64.wrap (x1 * 50968) = x1 * 50968 := IntWalk.i64_in _ (by omega)
  have e2 : IntKind.i64.wrap (x1 * 50968 + bu) = x1 * 50968 + bu := IntWalk.i64_in _ (by omega)
  have e3 : IntKind.i64.wrap ((x1 * 50968 + bu) * D) = (x1 * 50968 + bu) * D := IntWalk.i64_in _ (by omega)
  have e4 : IntKind.i64.wrap ((A * D + (B - A) * x0) * 50968 - (x1 * 50968 + bu) * D) = (A * D + (B - A) * x0) * 50968 - (x1 * 50968 + bu) * D := IntWalk.i64_in _ (by omega)
  go_enter Try.func60, Try.ntmps60
  go_wp2
  have n0 : ((w.alloc (.cells #[.int .i64 D, .int .i64 A, .int .i64 B, c] 25)).alloc (.cells #[.int .i64 x0, .int .i64 x1] 72)).cell? ⟨w.heap.size, 0, none⟩ = some (.int .i64 D) := by simp [go_sem]
  have n1 : ((w.alloc (.cells #[.int .i64 D, .int .i64 A, .int .i64 B, c] 25)).alloc (.cells #[.int .i64 x0, .int .i64 x1] 72)).cell? ⟨w.heap.size, 1, none⟩ = some (.int .i64 A) := by simp [go_sem]
  have n2 : ((w.alloc (.cells #[.int .i64 D, .int .i64 A, .int .i64 B, c] 25)).alloc (.cells #[.int .i64 x0, .int .i64 x1] 72)).cell? ⟨w.heap.size, 2, none⟩ = some (.int .i64 B) := by simp [go_sem]
  have n3 : ((w.alloc (.cells #[.int .i64 D, .int .i64 A, .int .i64 B, c] 25)).alloc (.cells #[.int .i64 x0, .int .i64 x1] 72)).cell? ⟨w.heap.size, 3, none⟩ = some (c) := by simp [go_sem]
  have m0 : ((w.alloc (.cells #[.int .i64 D, .int .i64 A, .int .i64 B, c] 25)).alloc (.cells #[.int .i64 x0, .int .i64 x1] 72)).cell? ⟨w.heap.size + 1, 0, none⟩ = some (.int .i64 x0) := by simp [go_sem]
  have m1 : ((w.alloc (.cells #[.int .i64 D, .int .i64 A, .int .i64 B, c] 25)).alloc (.cells #[.int .i64 x0, .int .i64 x1] 72)).cell? ⟨w.heap.size + 1, 1, none⟩ = some (.int .i64 x1) := by simp [go_sem]
  generalize (w.alloc (.cells #[.int .i64 D, .int .i64 A, .int .i64 B, c] 25)).alloc (.cells #[.int .i64 x0, .int .i64 x1] 72) = W at *
  have K0 := cell_regrown n0
  have K1 := cell_regrown n1
  have K2 := cell_regrown n2
  have K3 := cell_regrown n3
  have K4 := cell_regrown m0
  have K5 := cell_regrown m1
  have C0 : ∀ d os, Calls Try.prog 74 #[.int .i64 D, .int .i64 x0, .int .i64 n] (grow (redrawn W d) os) fun e w'' => e = .returned (.int .i64 bu) ∧ ∃ p : Regrown, w'' = grow (redrawn W p.d) p.os := fun d os => Calls.regrown_same (by rw [HBU.out]; exact siBulge_any D x0 n _ h7 h8 (by omega) (by omega) h2)
  clear n0 n1 n2 n3 m0 m1
  refine wp_region_quiet_below (by kernel_rfl) (by kernel_rfl) ?_
  repeat (go_big_quiet_step (first | (with_reducible exact C0 _ _)))
  refine wpQuiet_nil ?_
  intro _ hw'
  obtain ⟨⟨dq, osq⟩, hw''⟩ := hw'
  subst hw''
  have hb3 := hB.trans ((below_regrown W dq osq).mono hB.size)
  go_wp2
  go_ret
  exact ⟨ret_int (by unfold ovr; rw [HBU.out]), hb3⟩
end Go.Proofs.Ytkdmjeonlghnjaa
