/- Chapter 2: the exact law of IsBook. -/
import Derived.Test.YtkknmjioihnpkaaBk7
namespace Go.Proofs.Ytkknmjioihnpkaa
open Go.RowKit
set_option linter.unusedSimpArgs false
set_option linter.unusedVariables false

theorem specIsBook_any (v : Value) (ps : List Ph) (w : World) (hr : RdPs w v ps) :
    Calls Try.prog 27 #[.agg #[v]] w fun e w' => e = .returned (.bool (bookB ps)) ∧ Below w.heap.size w w' := by
  have hb0 := fun o1 => (Below.refl w.heap.size w).alloc (Nat.le_refl _) o1
  obtain ⟨a, cap, rfl, hcap⟩ := hr.len
  go_enter Try.func27, Try.ntmps27
  go_wp2_with fail
  refine (bkGood_any _ ps _ (hr.later (hb0 _))).mono ?_
  rintro e w1 ⟨rfl, hb⟩
  have hb1 := (hb0 (.cells #[.slice a ps.length cap] 25)).trans (hb.mono (by simp))
  go_wp2
  go_ret
  exact ⟨rfl, hb1⟩

set_option maxHeartbeats 400000 in
theorem walk_FnExactIsBook (v0 : Value) (ps : List Ph) (w : World) (w0 : RdPs w v0 ps) :
    Calls Try.prog 5 #[.agg #[v0]] w fun e w' => e = .returned (.bool true) ∧ Below w.heap.size w w' := by
  obtain ⟨a, cap, rfl, -⟩ := w0.len
  have hbW := (Below.refl w.heap.size w).alloc (Nat.le_refl _) (.cells #[.slice a ps.length cap] 41)
  have hrW := w0.later hbW
  have hcW : (w.alloc (.cells #[.slice a ps.length cap] 41)).cell? ⟨w.heap.size, 0, none⟩ = some (.slice a ps.length cap) := by simp [go_sem]
  have hsW : w.heap.size < (w.alloc (.cells #[.slice a ps.length cap] 41)).heap.size := by simp
  go_enter Try.func5, Try.ntmps5
  go_wp2_with fail
  generalize w.alloc (.cells #[.slice a ps.length cap] 41) = W at *
  refine (szBook_any _ ps _ _ (by omega) (by omega) hrW).mono ?_
  rintro e w1 ⟨r, rfl, hb1, hr⟩
  have c1 := hcW ▸ hb1.cell (p := ⟨w.heap.size, 0, none⟩) hsW
  rcases hr with rfl | ⟨r0, r1, hsm⟩
  · go_wp2
    go_ret
    exact ⟨rfl, hbW.trans (hb1.mono hbW.size)⟩
  · go_wp2_with fail
    refine (toBook_any _ ps _ hsm (hrW.later hb1)).mono ?_
    rintro e w2 ⟨v2, rfl, ho2, hb2⟩
    have hB2 := hb1.trans (hb2.mono hb1.size)
    have c2 := hcW ▸ hB2.cell (p := ⟨w.heap.size, 0, none⟩) hsW
    clear c1
    go_wp2_with fail
    refine (specIsBook_any _ ps _ ho2.rd).mono ?_
    rintro e w3 ⟨rfl, hb3⟩
    have hB3 := hB2.trans (hb3.mono hB2.size)
    have c3 := hcW ▸ hB3.cell (p := ⟨w.heap.size, 0, none⟩) hsW
    clear c2
    go_wp2_with fail
    refine (toBook_any _ ps _ hsm (hrW.later hB3)).mono ?_
    rintro e w4 ⟨v4, rfl, ho4, hb4⟩
    obtain ⟨a4, cap4, rfl, -⟩ := ho4.rd.len
    have hB4 := (hB3.trans (hb4.mono hB3.size)).alloc (hB3.trans (hb4.mono hB3.size)).size (.cells #[.slice a4 ps.length cap4] 25)
    have r4 := ho4.rd.later ((Below.refl _ w4).alloc (Nat.le_refl _) (.cells #[.slice a4 ps.length cap4] 25))
    have x4 : (w4.alloc (.cells #[.slice a4 ps.length cap4] 25)).cell? ⟨w4.heap.size, 0, none⟩ = some (.slice a4 ps.length cap4) := by simp [go_sem]
    have s4 : w4.heap.size < (w4.alloc (.cells #[.slice a4 ps.length cap4] 25)).heap.size := by simp
    clear c3
    go_wp2_with fail
    generalize w4.alloc (.cells #[.slice a4 ps.length cap4] 25) = W4 at *
    generalize w4.heap.size = B4 at *
    refine (implIsBook_any _ ps _ r4).mono ?_
    rintro e w5 ⟨rfl, hb5⟩
    have hB5 := hB4.trans (hb5.mono hB4.size)
    have c5 := hcW ▸ hB5.cell (p := ⟨w.heap.size, 0, none⟩) hsW
    have x5 := x4 ▸ hb5.cell (p := ⟨B4, 0, none⟩) s4
    go_wp2
    have hBD := hB5.drew
    have K1 : Hid (∀ w1 : World, Below w5.drew.heap.size w5.drew w1 → w1.cell? ⟨w.heap.size, 0, none⟩ = some (.slice a ps.length cap) ∧ w1.cell? ⟨B4, 0, none⟩ = some (.slice a4 ps.length cap4)) := Lib.hid fun w1 h =>
      ⟨by rw [h.cell (p := ⟨w.heap.size, 0, none⟩) (Nat.lt_of_lt_of_le hsW hB5.size)]; exact c5, by rw [h.cell (p := ⟨B4, 0, none⟩) (Nat.lt_of_lt_of_le s4 hb5.size)]; exact x5⟩
    go_region_held3 (fun w' => w'.cell? ⟨w.heap.size, 0, none⟩ = some (.slice a ps.length cap) ∧ w'.cell? ⟨B4, 0, none⟩ = some (.slice a4 ps.length cap4))
      (first | go_keep | exact K1.out _ hb6 | exact K1.out _ hb7)
      (first | (go_at_call 28; refine (toBook_any _ ps w5.drew hsm (hrW.later hBD)).mono ?_; rintro e w6 ⟨v6, rfl, ho6, hb6⟩) | (go_at_call 30; refine (eqBook_true _ _ ps _ (((r4.later hb5).later (Below.refl _ w5).drew).later hb6) ho6.rd).mono ?_; rintro e w7 ⟨rfl, hb7'⟩; have hb7 := hb6.trans (hb7'.mono hb6.size)))
    go_wp2
    go_ret
    exact ⟨rfl, hbW.trans ((hBD.trans (hb7.mono hBD.size)).mono hbW.size)⟩
end Go.Proofs.Ytkknmjioihnpkaa
