/- Chapter 3: the exact law of ReadMessage. Written by a generator of this claim's author. -/
import Derived.Test.YtpogpehbkgjiaaaSpC
import Derived.Deep.RegionHeld3
namespace Go.Proofs.Ytpogpehbkgjiaaa
open Go.RowKit
set_option linter.unusedSimpArgs false
set_option linter.unusedVariables false

set_option maxHeartbeats 800000 in
theorem walk_FnExactReadMessage (v0 : Value) (ps : List Ph) (a1 : Option Addr) (len1 cap1 : Nat) (z1 : List Int) (w : World) (w0 : RdPs w v0 ps) (w1 : IsRow .i64 w a1 len1 cap1 z1) :
    Calls Try.prog 11 #[.agg #[v0], .slice a1 len1 cap1] w fun e w' => e = .returned (.bool true) ∧ Below w.heap.size w w' := by
  obtain ⟨a, cap, rfl, -⟩ := w0.len
  have hbW := (Below.refl w.heap.size w).alloc (Nat.le_refl _) (.cells #[.slice a ps.length cap] 24)
  have hrW := w0.later hbW
  have hcW : (w.alloc (.cells #[.slice a ps.length cap] 24)).cell? ⟨w.heap.size, 0, none⟩ = some (.slice a ps.length cap) := by simp [go_sem]
  have hsW : w.heap.size < (w.alloc (.cells #[.slice a ps.length cap] 24)).heap.size := by simp
  have hx0 := w1.rd
  have hl0 := w1.len
  have hm1 := hx0.max
  unfold maxLen at hm1
  rw [hl0] at hm1
  by_cases hlong : 1048576 < len1
  · clear w1 hx0 hl0
    go_enter Try.func11, Try.ntmps11
    go_wp2
    go_ret
    exact ⟨rfl, hbW⟩
  · obtain ⟨zs, hzs⟩ : ∃ zs, zs = z1.take len1 := ⟨_, rfl⟩
    rw [← hzs] at hx0 hl0
    have hlz : zs.length ≤ 1048576 := by rw [hl0]; omega
    have HX := Lib.hid hx0
    clear hzs w1 hx0 hl0
    go_enter Try.func11, Try.ntmps11
    go_wp2_with fail
    generalize w.alloc (.cells #[.slice a ps.length cap] 24) = W at *
    refine (szBook_any _ ps _ _ (by omega) (by omega) hrW).mono ?_
    rintro e w1 ⟨r, rfl, hb1, hr⟩
    have c1 := hcW ▸ hb1.cell (p := ⟨w.heap.size, 0, none⟩) hsW
    rcases hr with rfl | ⟨r0, r1, hsm⟩
    · go_wp2
      go_ret
      exact ⟨rfl, hbW.trans (hb1.mono hbW.size)⟩
    · go_wp2_with fail
      refine (toBook_any _ ps _ hsm (hrW.later hb1)).mono ?_
      rintro e w2 ⟨v2, rfl, ho2, hb2⟩
      have hB2 := hb1.trans (hb2.mono hb1.size)
      have c2 := hcW ▸ hB2.cell (p := ⟨w.heap.size, 0, none⟩) hsW
      clear c1
      go_wp2_with fail
      refine (toIntS_any _ zs _ (by omega) ((HX.out.later hbW).later hB2)).mono ?_
      rintro e w3 ⟨y3, rfl, hy3, hb3⟩
      have hB3 := hB2.trans (hb3.mono hB2.size)
      have c3 := hcW ▸ hB3.cell (p := ⟨w.heap.size, 0, none⟩) hsW
      clear c2
      go_wp2_with fail
      refine (specRead_any _ _ ps zs _ (ho2.rd.later hb3) hy3.rdc).mono ?_
      rintro e w4 ⟨rfl, hb4⟩
      have hB4 := hB3.trans (hb4.mono hB3.size)
      have c4 := hcW ▸ hB4.cell (p := ⟨w.heap.size, 0, none⟩) hsW
      clear c3
      go_wp2_with fail
      refine (toBook_any _ ps _ hsm (hrW.later hB4)).mono ?_
      rintro e w5 ⟨v5, rfl, ho5, hb5⟩
      have hB5 := hB4.trans (hb5.mono hB4.size)
      have c5 := hcW ▸ hB5.cell (p := ⟨w.heap.size, 0, none⟩) hsW
      clear c4
      obtain ⟨aX, capX, rfl, -⟩ := ho5.rd.len
      have hBX := hB5.alloc hB5.size (.cells #[.slice aX ps.length capX] 31)
      have rX := ho5.rd.later ((Below.refl _ w5).alloc (Nat.le_refl _) (.cells #[.slice aX ps.length capX] 31))
      have xX : (w5.alloc (.cells #[.slice aX ps.length capX] 31)).cell? ⟨w5.heap.size, 0, none⟩ = some (.slice aX ps.length capX) := by simp [go_sem]
      have sX : w5.heap.size < (w5.alloc (.cells #[.slice aX ps.length capX] 31)).heap.size := by simp
      have cX := hcW ▸ hBX.cell (p := ⟨w.heap.size, 0, none⟩) hsW
      clear c5
      go_wp2_with fail
      generalize w5.alloc (.cells #[.slice aX ps.length capX] 31) = WX at *
      generalize w5.heap.size = BX at *
      refine (toIntS_any _ zs _ (by omega) ((HX.out.later hbW).later hBX)).mono ?_
      rintro e w6 ⟨y6, rfl, hy6, hb6⟩
      have hX6 := hb6
      have hB6 := hBX.trans (hX6.mono hBX.size)
      have c6 := hcW ▸ hB6.cell (p := ⟨w.heap.size, 0, none⟩) hsW
      have x6 := xX ▸ hX6.cell (p := ⟨BX, 0, none⟩) sX
      clear cX
      go_wp2_with fail
      have rX5 := rX.later hX6
      refine (implRead_any _ _ ps zs _ rX5 hy6.rdc).mono ?_
      rintro e w7 ⟨rfl, hb7⟩
      have hX7 := hX6.trans (hb7.mono hX6.size)
      have hB7 := hBX.trans (hX7.mono hBX.size)
      have c7 := hcW ▸ hB7.cell (p := ⟨w.heap.size, 0, none⟩) hsW
      have x7 := xX ▸ hX7.cell (p := ⟨BX, 0, none⟩) sX
      clear c6 x6
      have yX := hy6.later hb7
      go_wp2
      have hBD := hB7.drew
      have K1 : Hid (∀ w1 : World, Below w7.drew.heap.size w7.drew w1 → w1.cell? ⟨w.heap.size, 0, none⟩ = some (.slice a ps.length cap) ∧ w1.cell? ⟨BX, 0, none⟩ = some (.slice aX ps.length capX)) := Lib.hid fun w1 h =>
        ⟨by rw [h.cell (p := ⟨w.heap.size, 0, none⟩) (Nat.lt_of_lt_of_le hsW hB7.size)]; exact c7, by rw [h.cell (p := ⟨BX, 0, none⟩) (Nat.lt_of_lt_of_le sX hX7.size)]; exact x7⟩
      have rXD := (rX.later hX7).later (Below.refl _ w7).drew
      go_region_held3 (fun w' => w'.cell? ⟨w.heap.size, 0, none⟩ = some (.slice a ps.length cap) ∧ w'.cell? ⟨BX, 0, none⟩ = some (.slice aX ps.length capX))
        (first | go_keep | exact K1.out _ hbY | exact K1.out _ hbZ)
        (first | (go_at_call 17; refine (toBook_any _ ps w7.drew hsm (hrW.later hBD)).mono ?_; rintro e wY ⟨vY, rfl, hoY, hbY⟩) | (go_at_call 20; refine (eqBook_true _ _ ps _ (rXD.later hbY) hoY.rd).mono ?_; rintro e wZ ⟨rfl, hbZ'⟩; have hbZ := hbY.trans (hbZ'.mono hbY.size)))
      have hBZ := hBD.trans (hbZ.mono hBD.size)
      have yZ := (yX.drewN 1).later hbZ
      go_wp2_with fail
      refine (toIntS_any _ zs _ (by omega) ((HX.out.later hbW).later hBZ)).mono ?_
      rintro e wU ⟨yU, rfl, hyU, hbU⟩
      have hBU := hBZ.trans (hbU.mono hBZ.size)
      go_wp2_with fail
      refine (eqIntS_true _ _ zs _ (yZ.later hbU).rd hyU.rd).mono ?_
      rintro e wV ⟨rfl, nV, rfl⟩
      have hBV := below_drewN hBU nV
      go_wp2
      go_ret
      exact ⟨rfl, hbW.trans (hBV.mono hbW.size)⟩
end Go.Proofs.Ytpogpehbkgjiaaa
