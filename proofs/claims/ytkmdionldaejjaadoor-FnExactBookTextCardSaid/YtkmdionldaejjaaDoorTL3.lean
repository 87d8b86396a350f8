/- Chapter 2: the exact law of BookText. Written by a generator of this claim's author. -/
import Derived.Test.YtkmdionldaejjaaDoorTb2
import Derived.Test.YtkmdionldaejjaaDoorBk3
import Derived.Deep.RegionHeld3
namespace Go.Proofs.YtkmdionldaejjaaDoor
open Go.RowKit
set_option linter.unusedSimpArgs false
set_option linter.unusedVariables false

set_option maxHeartbeats 800000 in
theorem walk_FnExactBookText (v0 : Value) (ps : List Ph) (w : World) (w0 : RdPs w v0 ps) :
    Calls Tryd.prog 5 #[.agg #[v0]] w fun e w' => e = .returned (.bool true) ∧ Below w.heap.size w w' := by
  obtain ⟨a, cap, rfl, -⟩ := w0.len
  have hbW := (Below.refl w.heap.size w).alloc (Nat.le_refl _) (.cells #[.slice a ps.length cap] 34)
  have hrW := w0.later hbW
  have hcW : (w.alloc (.cells #[.slice a ps.length cap] 34)).cell? ⟨w.heap.size, 0, none⟩ = some (.slice a ps.length cap) := by simp [go_sem]
  have hsW : w.heap.size < (w.alloc (.cells #[.slice a ps.length cap] 34)).heap.size := by simp
  go_enter Tryd.func5, Tryd.ntmps5
  go_wp2_with fail
  generalize w.alloc (.cells #[.slice a ps.length cap] 34) = W at *
  refine (szBook_any _ ps _ _ (by omega) (by omega) hrW).mono ?_
  rintro e w1 ⟨r, rfl, hb1, hr⟩
  have c1 := hcW ▸ hb1.cell (p := ⟨w.heap.size, 0, none⟩) hsW
  rcases hr with rfl | ⟨r0, r1, hsm⟩
  · go_wp2
    go_ret
    exact ⟨rfl, hbW.trans (hb1.mono hbW.size)⟩
  · go_wp2_with fail
    refine (toBook_any _ ps _ hsm (hrW.later hb1)).mono ?_
    rintro e w2 ⟨v2, rfl, ho2, hb2⟩
    have hB2 := hb1.trans (hb2.mono hb1.size)
    have c2 := hcW ▸ hB2.cell (p := ⟨w.heap.size, 0, none⟩) hsW
    clear c1
    go_wp2_with fail
    refine (specBookText_any _ ps _ ho2.rd).mono ?_
    rintro e w3 ⟨rfl, hb3⟩
    have hB3 := hB2.trans (hb3.mono hB2.size)
    have c3 := hcW ▸ hB3.cell (p := ⟨w.heap.size, 0, none⟩) hsW
    clear c2
    go_wp2_with fail
    refine (toBook_any _ ps _ hsm (hrW.later hB3)).mono ?_
    rintro e w4 ⟨v4, rfl, ho4, hb4⟩
    have hB4 := hB3.trans (hb4.mono hB3.size)
    have c4 := hcW ▸ hB4.cell (p := ⟨w.heap.size, 0, none⟩) hsW
    clear c3
    obtain ⟨aX, capX, rfl, -⟩ := ho4.rd.len
    have hBX := hB4.alloc hB4.size (.cells #[.slice aX ps.length capX] 39)
    have rX := ho4.rd.later ((Below.refl _ w4).alloc (Nat.le_refl _) (.cells #[.slice aX ps.length capX] 39))
    have xX : (w4.alloc (.cells #[.slice aX ps.length capX] 39)).cell? ⟨w4.heap.size, 0, none⟩ = some (.slice aX ps.length capX) := by simp [go_sem]
    have sX : w4.heap.size < (w4.alloc (.cells #[.slice aX ps.length capX] 39)).heap.size := by simp
    have cX := hcW ▸ hBX.cell (p := ⟨w.heap.size, 0, none⟩) hsW
    clear c4
    go_wp2_with fail
    generalize w4.alloc (.cells #[.slice aX ps.length capX] 39) = WX at *
    generalize w4.heap.size = BX at *
    refine (implBookText_any _ ps _ rX).mono ?_
    rintro e w5 ⟨rfl, hb5⟩
    have hX5 := hb5
    have hB5 := hBX.trans (hX5.mono hBX.size)
    have c5 := hcW ▸ hB5.cell (p := ⟨w.heap.size, 0, none⟩) hsW
    have x5 := xX ▸ hX5.cell (p := ⟨BX, 0, none⟩) sX
    clear cX
    go_wp2
    have hBD := hB5.drew
    have K1 : Hid (∀ w1 : World, Below w5.drew.heap.size w5.drew w1 → w1.cell? ⟨w.heap.size, 0, none⟩ = some (.slice a ps.length cap) ∧ w1.cell? ⟨BX, 0, none⟩ = some (.slice aX ps.length capX)) := Lib.hid fun w1 h =>
      ⟨by rw [h.cell (p := ⟨w.heap.size, 0, none⟩) (Nat.lt_of_lt_of_le hsW hB5.size)]; exact c5, by rw [h.cell (p := ⟨BX, 0, none⟩) (Nat.lt_of_lt_of_le sX hX5.size)]; exact x5⟩
    have rXD := (rX.later hX5).later (Below.refl _ w5).drew
    go_region_held3 (fun w' => w'.cell? ⟨w.heap.size, 0, none⟩ = some (.slice a ps.length cap) ∧ w'.cell? ⟨BX, 0, none⟩ = some (.slice aX ps.length capX))
      (first | go_keep | exact K1.out _ hbY | exact K1.out _ hbZ)
      (first | (go_at_call 17; refine (toBook_any _ ps w5.drew hsm (hrW.later hBD)).mono ?_; rintro e wY ⟨vY, rfl, hoY, hbY⟩) | (go_at_call 19; refine (eqBook_true _ _ ps _ (rXD.later hbY) hoY.rd).mono ?_; rintro e wZ ⟨rfl, hbZ'⟩; have hbZ := hbY.trans (hbZ'.mono hbY.size)))
    go_wp2
    go_ret
    exact ⟨rfl, hbW.trans ((hBD.trans (hbZ.mono hBD.size)).mono hbW.size)⟩
end Go.Proofs.YtkmdionldaejjaaDoor
