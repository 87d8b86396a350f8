/- Chapter 3: the exact law of EncodeMessage. Written by a generator of this claim's author. -/
import Derived.Test.YtpogpehbkgjiaaaSpV
import Derived.Test.YtpogpehbkgjiaaaBkH
import Derived.Deep.RegionHeld3
namespace Go.Proofs.Ytpogpehbkgjiaaa
open Go.RowKit
set_option linter.unusedSimpArgs false
set_option linter.unusedVariables false

set_option maxHeartbeats 2000000 in
theorem walk_FnExactEncodeMessage (v0 : Value) (ps : List Ph) (s : ByteArray) (w : World) (w0 : RdPs w v0 ps) (w1 : s.size ≤ maxLen) :
    Calls Try.prog 4 #[.agg #[v0], .string s] w fun e w' => e = .returned (.bool true) ∧ Below w.heap.size w w' := by
  obtain ⟨a, cap, rfl, -⟩ := w0.len
  have hbW := (Below.refl w.heap.size w).alloc (Nat.le_refl _) (.cells #[.slice a ps.length cap] 24)
  have hrW := w0.later hbW
  have hcW : (w.alloc (.cells #[.slice a ps.length cap] 24)).cell? ⟨w.heap.size, 0, none⟩ = some (.slice a ps.length cap) := by simp [go_sem]
  have hsW : w.heap.size < (w.alloc (.cells #[.slice a ps.length cap] 24)).heap.size := by simp
  have hm := w1
  have hs := w1
  unfold maxLen at hm
  by_cases hlong : 1048576 < s.size
  · go_enter Try.func4, Try.ntmps4
    go_wp2
    go_ret
    exact ⟨rfl, hbW⟩
  · skip
    go_enter Try.func4, Try.ntmps4
    go_wp2_with fail
    generalize w.alloc (.cells #[.slice a ps.length cap] 24) = W at *
    refine (szBook_any _ ps _ _ (by omega) (by omega) hrW).mono ?_
    rintro e w1 ⟨r, rfl, hb1, hr⟩
    have c1 := hcW ▸ hb1.cell (p := ⟨w.heap.size, 0, none⟩) hsW
    rcases hr with rfl | ⟨r0, r1, hsm⟩
    · go_wp2
      go_ret
      exact ⟨rfl, hbW.trans (hb1.mono hbW.size)⟩
    · obtain ⟨LL, hLL⟩ : ∃ LL, LL = (sgL ps (slL ps s)) := ⟨_, rfl⟩
      have hlL : LL.length ≤ 1048576 := by rw [hLL]; exact (encL_len ps s)
      have HLL := Lib.hid hLL
      clear hLL
      have hmn := markN_nonneg 1 ps
      go_wp2_with fail
      refine (toBook_any _ ps _ hsm (hrW.later hb1)).mono ?_
      rintro e w2 ⟨v2, rfl, ho2, hb2⟩
      have hB2 := hb1.trans (hb2.mono hb1.size)
      have c2 := hcW ▸ hB2.cell (p := ⟨w.heap.size, 0, none⟩) hsW
      clear c1
      go_wp2_with fail
      refine (specEncode_any _ ps s _ hs ho2.rd).mono ?_
      rintro e w3 ⟨v3, rfl, hv3, hb3⟩
      rw [← HLL.out] at hv3
      have hB3 := hB2.trans (hb3.mono hB2.size)
      have c3 := hcW ▸ hB3.cell (p := ⟨w.heap.size, 0, none⟩) hsW
      clear c2
      go_wp2_with fail
      refine (toBook_any _ ps _ hsm (hrW.later hB3)).mono ?_
      rintro e w4 ⟨v4, rfl, ho4, hb4⟩
      have hB4 := hB3.trans (hb4.mono hB3.size)
      obtain ⟨us, hu4⟩ := ho4.u
      obtain ⟨aX, capX, rfl, -⟩ := ho4.rd.len
      have hbX := (Below.refl w4.heap.size w4).alloc (Nat.le_refl _) (.cells #[.slice aX ps.length capX] 31)
      have xX : (w4.alloc (.cells #[.slice aX ps.length capX] 31)).cell? ⟨w4.heap.size, 0, none⟩ = some (.slice aX ps.length capX) := by simp [go_sem]
      have sX : w4.heap.size < (w4.alloc (.cells #[.slice aX ps.length capX] 31)).heap.size := by simp
      have hBX := hB4.trans (hbX.mono hB4.size)
      have cX := hcW ▸ hBX.cell (p := ⟨w.heap.size, 0, none⟩) hsW
      have rX := ho4.rd.later hbX
      have hv3X := (hv3.later hb4).later hbX
      have s34 := hb4.size
      have s23 := hb3.size
      clear c3
      go_wp2_with fail
      generalize w4.alloc (.cells #[.slice aX ps.length capX] 31) = WX at *
      refine (implEncode_any _ ps s _ hs rX).mono ?_
      rintro e w5 ⟨v5, rfl, hv5, hb5⟩
      rw [← HLL.out] at hv5
      have hB5 := hBX.trans (hb5.mono hBX.size)
      have c5 := hcW ▸ hB5.cell (p := ⟨w.heap.size, 0, none⟩) hsW
      have x5 := xX ▸ hb5.cell (p := ⟨w4.heap.size, 0, none⟩) sX
      have hv35 := hv3X.later hb5
      clear cX
      go_wp2_with fail
      refine (eqIntS_true _ _ LL _ hv5.rd hv35.rd).mono ?_
      rintro e w6 ⟨rfl, n6, rfl⟩
      have hX6 := below_drewN hb5 n6
      have hB6 := hBX.trans (hX6.mono hBX.size)
      have hv36 := hv35.drewN n6
      have hv56 := hv5.drewN n6
      skip
      have c6 := hcW ▸ hB6.cell (p := ⟨w.heap.size, 0, none⟩) hsW
      have x6 := xX ▸ hX6.cell (p := ⟨w4.heap.size, 0, none⟩) sX
      generalize w5.drewN n6 = w6 at *
      clear c5 x5 hb5 hB5 hv35 hv5
      go_wp2
      have hBD := hB6.drew
      have K1 : Hid (∀ w1 : World, Below w6.drew.heap.size w6.drew w1 → w1.cell? ⟨w.heap.size, 0, none⟩ = some (.slice a ps.length cap) ∧ w1.cell? ⟨w4.heap.size, 0, none⟩ = some (.slice aX ps.length capX)) := Lib.hid fun w1 h =>
        ⟨by rw [h.cell (p := ⟨w.heap.size, 0, none⟩) (Nat.lt_of_lt_of_le hsW hB6.size)]; exact c6, by rw [h.cell (p := ⟨w4.heap.size, 0, none⟩) (Nat.lt_of_lt_of_le sX hX6.size)]; exact x6⟩
      have rXD := (rX.later hX6).later (Below.refl _ w6).drew
      go_region_held3 (fun w' => w'.cell? ⟨w.heap.size, 0, none⟩ = some (.slice a ps.length cap) ∧ w'.cell? ⟨w4.heap.size, 0, none⟩ = some (.slice aX ps.length capX))
        (first | go_keep | exact K1.out _ hbY2 | exact K1.out _ hbZ)
        (first | (go_at_call 17; refine (toBook_any _ ps w6.drew hsm (hrW.later hBD)).mono ?_; rintro e wY ⟨vY, rfl, hoY, hbY2⟩) | (go_at_call 20; refine (eqBook_true _ _ ps _ (rXD.later hbY2) hoY.rd).mono ?_; rintro e wZ ⟨rfl, hbZ'⟩; have hbZ := hbY2.trans (hbZ'.mono hbY2.size)))
      have cZ := (K1.out _ hbZ).1
      have xZ := (K1.out _ hbZ).2
      have hBZ := hBD.trans (hbZ.mono hBD.size)
      have hXZ := hX6.drew.trans (hbZ.mono hX6.drew.size)
      have hv3Z := (hv36.drewN 1).later hbZ
      have hv5Z := (hv56.drewN 1).later hbZ
      skip
      have huZ := hu4.later (hbX.trans (hXZ.mono hbX.size))
      clear c6 x6 K1
      go_wp2_with fail
      refine (markBook_any w3.heap.size w4.heap.size _ ps us 1 _ (by omega) (by omega) hsm huZ).mono ?_
      rintro e w9 ⟨rfl, hu9, hk9⟩
      have hWZ : W.heap.size ≤ wZ.heap.size := hBZ.size
      have hk9b := hk9.below (by have := hB3.size; have := hBZ.size; have := hXZ.size; have := hbX.size; omega)
      have hB9 := hBZ.trans (hk9b.mono hB3.size)
      have hv59 := hk9.own hv5Z (by have := hbX.size; omega)
      have hv39 := hv3Z.below hk9b (fun k hk => (hv3.lt k hk).2)
      skip
      have c9 := hcW ▸ hB9.cell (p := ⟨w.heap.size, 0, none⟩) hsW
      clear cZ xZ
      go_wp2_with fail
      refine (eqIntS_true _ _ LL _ hv59.rd hv39.rd).mono ?_
      rintro e w10 ⟨rfl, n10, rfl⟩
      have hB10 := below_drewN hB9 n10
      have hv510 := hv59.drewN n10
      have hv310 := hv39.drewN n10
      have c10 := hcW ▸ hB10.cell (p := ⟨w.heap.size, 0, none⟩) hsW
      generalize w9.drewN n10 = w10 at *
      have hap : v3.ownBlock = none ∨ v3.ownBlock ≠ v5.ownBlock := by
        cases hv : v3.ownBlock with
        | none => exact .inl rfl
        | some k =>
          refine .inr fun e => ?_
          have h1 := (hv3.lt k hv).2
          have h2 := (hv59.lt k e.symm).1
          have := hbX.size
          skip
          omega
      clear c9 hv59 hv39
      go_wp2_with fail
      refine (markIntS_any WX.heap.size _ LL 1 _ (by decide) (by decide) (by omega) hv510).mono ?_
      rintro e w11 ⟨rfl, hv511, hg11⟩
      have hB11 := hB10.grown hg11 hB10.size (fun k hk => by have := (hv511.lt k hk).1; have := hBX.size; omega)
      have hv311 := hv310.kept hg11 hap
      have c11 := hcW ▸ hB11.cell (p := ⟨w.heap.size, 0, none⟩) hsW
      clear c10
      go_wp2_with fail
      refine (heldIntS_any _ LL.length 1 _ (by decide) (by decide) (by omega) hv511.rd).mono ?_
      rintro e w12 ⟨rfl, rfl⟩
      go_wp2_with fail
      refine (toBook_any _ ps _ hsm (hrW.later hB11)).mono ?_
      rintro e w13 ⟨v13, rfl, ho13, hb13⟩
      go_wp2_with fail
      refine (implEncode_any _ ps s _ hs ho13.rd).mono ?_
      rintro e w14 ⟨v14, rfl, hv14, hb14⟩
      rw [← HLL.out] at hv14
      have hb1314 := hb13.trans (hb14.mono hb13.size)
      have hB14 := hB11.trans (hb1314.mono hB11.size)
      have hv314 := hv311.later hb1314
      have hv514 := hv511.later hb1314
      go_wp2_with fail
      refine (eqIntS_true _ _ LL _ hv14.rd hv314.rd).mono ?_
      rintro e w15 ⟨rfl, n15, rfl⟩
      have hB15 := below_drewN hB14 n15
      have hv515 := hv514.drewN n15
      go_wp2_with fail
      refine (heldIntS_any _ LL.length 1 _ (by decide) (by decide) (by omega) hv515.rd).mono ?_
      rintro e w16 ⟨rfl, rfl⟩
      go_wp2
      go_ret
      exact ⟨rfl, hbW.trans (hB15.mono hbW.size)⟩
end Go.Proofs.Ytpogpehbkgjiaaa
