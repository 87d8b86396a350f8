/- Chapter 3: the exact law of FirstReading. Written by a generator of this claim's author. -/
import Derived.Test.YtpogpehbkgjiaaaSpA
import Derived.Test.YtpogpehbkgjiaaaBkH
import Derived.Deep.RegionHeld3
namespace Go.Proofs.Ytpogpehbkgjiaaa
open Go.RowKit
set_option linter.unusedSimpArgs false
set_option linter.unusedVariables false

set_option maxHeartbeats 2000000 in
theorem walk_FnExactFirstReading (v0 : Value) (ps : List Ph) (a1 : Option Addr) (len1 cap1 : Nat) (z1 : List Int) (w : World) (w0 : RdPs w v0 ps) (w1 : IsRow .i64 w a1 len1 cap1 z1) :
    Calls Try.prog 10 #[.agg #[v0], .slice a1 len1 cap1] w fun e w' => e = .returned (.bool true) ∧ Below w.heap.size w w' := by
  obtain ⟨a, cap, rfl, -⟩ := w0.len
  have hbW := (Below.refl w.heap.size w).alloc (Nat.le_refl _) (.cells #[.slice a ps.length cap] 24)
  have hrW := w0.later hbW
  have hcW : (w.alloc (.cells #[.slice a ps.length cap] 24)).cell? ⟨w.heap.size, 0, none⟩ = some (.slice a ps.length cap) := by simp [go_sem]
  have hsW : w.heap.size < (w.alloc (.cells #[.slice a ps.length cap] 24)).heap.size := by simp
  have hx0 := w1.rd
  have hl0 := w1.len
  have hm1 := hx0.max
  unfold maxLen at hm1
  rw [hl0] at hm1
  by_cases hlong : 1048576 < len1
  · clear w1 hx0 hl0
    go_enter Try.func10, Try.ntmps10
    go_wp2
    go_ret
    exact ⟨rfl, hbW⟩
  · obtain ⟨zs, hzs⟩ : ∃ zs, zs = z1.take len1 := ⟨_, rfl⟩
    rw [← hzs] at hx0 hl0
    have hlz : zs.length ≤ 1048576 := by rw [hl0]; omega
    have HX := Lib.hid hx0
    clear hzs w1 hx0 hl0
    go_enter Try.func10, Try.ntmps10
    go_wp2_with fail
    generalize w.alloc (.cells #[.slice a ps.length cap] 24) = W at *
    refine (szBook_any _ ps _ _ (by omega) (by omega) hrW).mono ?_
    rintro e w1 ⟨r, rfl, hb1, hr⟩
    have c1 := hcW ▸ hb1.cell (p := ⟨w.heap.size, 0, none⟩) hsW
    rcases hr with rfl | ⟨r0, r1, hsm⟩
    · go_wp2
      go_ret
      exact ⟨rfl, hbW.trans (hb1.mono hbW.size)⟩
    · obtain ⟨LL, hLL⟩ : ∃ LL, LL = (readL ps zs) := ⟨_, rfl⟩
      have hlL : LL.length ≤ 1048576 := by rw [hLL]; exact (by have := readL_len ps zs; omega)
      have HLL := Lib.hid hLL
      clear hLL
      have hmn := markN_nonneg 1 ps
      have hmn2 : (0 : Int) ≤ (markN 1 ps : Int) + (zs.length : Int) := by omega
      have HMN : Hid (((markN 1 ps : Nat) : Int) ≤ 4398046511104) := Lib.hid (by
        have h := (markN_bd hsm 1 ps.length (Nat.le_refl _)).2
        rw [List.take_length] at h
        have h2 := hsm.1
        have h3 := Nat.mul_le_mul h2 (Nat.le_refl 1048577)
        omega)
      go_wp2_with fail
      refine (toBook_any _ ps _ hsm (hrW.later hb1)).mono ?_
      rintro e w2 ⟨v2, rfl, ho2, hb2⟩
      have hB2 := hb1.trans (hb2.mono hb1.size)
      have c2 := hcW ▸ hB2.cell (p := ⟨w.heap.size, 0, none⟩) hsW
      clear c1
      go_wp2_with fail
      refine (toIntS_any _ zs _ (by omega) ((HX.out.later hbW).later hB2)).mono ?_
      rintro e w2i ⟨y2, rfl, hy2, hb2i⟩
      have hB2i := hB2.trans (hb2i.mono hB2.size)
      have c2i := hcW ▸ hB2i.cell (p := ⟨w.heap.size, 0, none⟩) hsW
      clear c2
      go_wp2_with fail
      refine (specFirst_any _ _ ps zs _ (ho2.rd.later hb2i) hy2.rdc).mono ?_
      rintro e w3 ⟨v3, rfl, hv3, hb3⟩
      rw [← HLL.out] at hv3
      have hB3 := hB2i.trans (hb3.mono hB2i.size)
      have c3 := hcW ▸ hB3.cell (p := ⟨w.heap.size, 0, none⟩) hsW
      clear c2i
      go_wp2_with fail
      refine (toBook_any _ ps _ hsm (hrW.later hB3)).mono ?_
      rintro e w4 ⟨v4, rfl, ho4, hb4⟩
      have hB4 := hB3.trans (hb4.mono hB3.size)
      obtain ⟨us, hu4⟩ := ho4.u
      obtain ⟨aX, capX, rfl, -⟩ := ho4.rd.len
      have hbX := (Below.refl w4.heap.size w4).alloc (Nat.le_refl _) (.cells #[.slice aX ps.length capX] 31)
      have xX : (w4.alloc (.cells #[.slice aX ps.length capX] 31)).cell? ⟨w4.heap.size, 0, none⟩ = some (.slice aX ps.length capX) := by simp [go_sem]
      have sX : w4.heap.size < (w4.alloc (.cells #[.slice aX ps.length capX] 31)).heap.size := by simp
      have hBX := hB4.trans (hbX.mono hB4.size)
      have cX := hcW ▸ hBX.cell (p := ⟨w.heap.size, 0, none⟩) hsW
      have rX := ho4.rd.later hbX
      have hv3X := (hv3.later hb4).later hbX
      have s34 := hb4.size
      have s23 := hb3.size
      clear c3
      go_wp2_with fail
      generalize w4.alloc (.cells #[.slice aX ps.length capX] 31) = WX at *
      refine (toIntS_any _ zs _ (by omega) ((HX.out.later hbW).later hBX)).mono ?_
      rintro e WY ⟨y5, rfl, hy5, hbY⟩
      have hBY := hBX.trans (hbY.mono hBX.size)
      have cY := hcW ▸ hBY.cell (p := ⟨w.heap.size, 0, none⟩) hsW
      have xY := xX ▸ hbY.cell (p := ⟨w4.heap.size, 0, none⟩) sX
      clear cX
      go_wp2_with fail
      refine (implFirst_any _ _ ps zs _ (rX.later hbY) hy5.rdc).mono ?_
      rintro e w5 ⟨v5, rfl, hv5, hb5'⟩
      have hb5 := hbY.trans (hb5'.mono hbY.size)
      have hy55 := hy5.later hb5'
      rw [← HLL.out] at hv5
      have hB5 := hBX.trans (hb5.mono hBX.size)
      have c5 := hcW ▸ hB5.cell (p := ⟨w.heap.size, 0, none⟩) hsW
      have x5 := xX ▸ hb5.cell (p := ⟨w4.heap.size, 0, none⟩) sX
      have hv35 := hv3X.later hb5
      clear cY xY
      go_wp2_with fail
      refine (eqIntS_true _ _ LL _ hv5.rd hv35.rd).mono ?_
      rintro e w6 ⟨rfl, n6, rfl⟩
      have hX6 := below_drewN hb5 n6
      have hB6 := hBX.trans (hX6.mono hBX.size)
      have hv36 := hv35.drewN n6
      have hv56 := hv5.drewN n6
      have hy56 := hy55.drewN n6
      have c6 := hcW ▸ hB6.cell (p := ⟨w.heap.size, 0, none⟩) hsW
      have x6 := xX ▸ hX6.cell (p := ⟨w4.heap.size, 0, none⟩) sX
      generalize w5.drewN n6 = w6 at *
      clear c5 x5 hb5 hB5 hv35 hv5
      go_wp2
      have hBD := hB6.drew
      have K1 : Hid (∀ w1 : World, Below w6.drew.heap.size w6.drew w1 → w1.cell? ⟨w.heap.size, 0, none⟩ = some (.slice a ps.length cap) ∧ w1.cell? ⟨w4.heap.size, 0, none⟩ = some (.slice aX ps.length capX)) := Lib.hid fun w1 h =>
        ⟨by rw [h.cell (p := ⟨w.heap.size, 0, none⟩) (Nat.lt_of_lt_of_le hsW hB6.size)]; exact c6, by rw [h.cell (p := ⟨w4.heap.size, 0, none⟩) (Nat.lt_of_lt_of_le sX hX6.size)]; exact x6⟩
      have rXD := (rX.later hX6).later (Below.refl _ w6).drew
      go_region_held3 (fun w' => w'.cell? ⟨w.heap.size, 0, none⟩ = some (.slice a ps.length cap) ∧ w'.cell? ⟨w4.heap.size, 0, none⟩ = some (.slice aX ps.length capX))
        (first | go_keep | exact K1.out _ hbY2 | exact K1.out _ hbZ)
        (first | (go_at_call 17; refine (toBook_any _ ps w6.drew hsm (hrW.later hBD)).mono ?_; rintro e wY ⟨vY, rfl, hoY, hbY2⟩) | (go_at_call 20; refine (eqBook_true _ _ ps _ (rXD.later hbY2) hoY.rd).mono ?_; rintro e wZ ⟨rfl, hbZ'⟩; have hbZ := hbY2.trans (hbZ'.mono hbY2.size)))
      have cZ := (K1.out _ hbZ).1
      have xZ := (K1.out _ hbZ).2
      have hBZ := hBD.trans (hbZ.mono hBD.size)
      have hXZ := hX6.drew.trans (hbZ.mono hX6.drew.size)
      have hv3Z := (hv36.drewN 1).later hbZ
      have hv5Z := (hv56.drewN 1).later hbZ
      have hyZ := (hy56.drewN 1).later hbZ
      have huZ := hu4.later (hbX.trans (hXZ.mono hbX.size))
      clear c6 x6 K1
      go_wp2_with fail
      refine (toIntS_any _ zs _ (by omega) ((HX.out.later hbW).later hBZ)).mono ?_
      rintro e wU ⟨yU, rfl, hyU, hbU⟩
      have cU := cZ ▸ hbU.cell (p := ⟨w.heap.size, 0, none⟩) (Nat.lt_of_lt_of_le hsW hBZ.size)
      have xU := xZ ▸ hbU.cell (p := ⟨w4.heap.size, 0, none⟩) (Nat.lt_of_lt_of_le sX hXZ.size)
      clear cZ xZ
      go_wp2_with fail
      refine (eqIntS_true _ _ zs _ (hyZ.later hbU).rd hyU.rd).mono ?_
      rintro e wV ⟨rfl, nV, rfl⟩
      have hbV := below_drewN hbU nV
      have cV : (wU.drewN nV).cell? ⟨w.heap.size, 0, none⟩ = some (.slice a ps.length cap) := by rw [(below_drewN (Below.refl _ wU) nV).cell (p := ⟨w.heap.size, 0, none⟩) (by show w.heap.size < _; have := hBZ.size; have := hbU.size; omega)]; exact cU
      have xV : (wU.drewN nV).cell? ⟨w4.heap.size, 0, none⟩ = some (.slice aX ps.length capX) := by rw [(below_drewN (Below.refl _ wU) nV).cell (p := ⟨w4.heap.size, 0, none⟩) (by show w4.heap.size < _; have := hXZ.size; have := hbU.size; omega)]; exact xU
      have hBV := hBZ.trans (hbV.mono hBZ.size)
      have hXV := hXZ.trans (hbV.mono hXZ.size)
      have hv3V := hv3Z.later hbV
      have hv5V := hv5Z.later hbV
      have hyV := hyZ.later hbV
      have huV := huZ.later hbV
      have h0Y := hy5.apart (Nat.le_refl _) hv5V
      clear hbV hBZ hXZ hv3Z hv5Z hyZ huZ hyU cU xU hbZ hbU
      generalize wU.drewN nV = wV at *
      go_wp2_with fail
      refine (markBook_any w3.heap.size w4.heap.size _ ps us 1 _ (by omega) (by omega) hsm huV).mono ?_
      rintro e w9 ⟨rfl, hu9, hk9⟩
      have hWZ : W.heap.size ≤ wV.heap.size := hBV.size
      have hk9b := hk9.below (by have := hB3.size; have := hBV.size; have := hXV.size; have := hbX.size; omega)
      have hB9 := hBV.trans (hk9b.mono hB3.size)
      have hv59 := hk9.own hv5V (by have := hbX.size; have := hbY.size; omega)
      have hv39 := hv3V.below hk9b (fun k hk => (hv3.lt k hk).2)
      have hy9 := hk9.own hyV (by have := hbX.size; omega)
      have c9 := hcW ▸ hB9.cell (p := ⟨w.heap.size, 0, none⟩) hsW
      clear cV xV
      go_wp2_with fail
      refine (markIntS_wide WX.heap.size _ zs (markN 1 ps : Nat) _ (by omega) HMN.out (by omega) hy9).mono ?_
      rintro e w9b ⟨rfl, hy9b, hg9b⟩
      have hap3 : v3.ownBlock = none ∨ v3.ownBlock ≠ y5.ownBlock := hv3.apart (by have := hbX.size; omega) hy9
      have hap5 : v5.ownBlock = none ∨ v5.ownBlock ≠ y5.ownBlock := by
        rcases h0Y with h | h
        · cases hv : v5.ownBlock with
          | none => exact .inl rfl
          | some k => exact .inr (by rw [h]; simp)
        · exact .inr (Ne.symm h)
      have hB9b := hB9.grown hg9b hB9.size (fun k hk => by have := (hy9.lt k hk).1; have := hBX.size; omega)
      have hv59b := hv59.kept hg9b hap5
      have hv39b := hv39.kept hg9b hap3
      have c9b := hcW ▸ hB9b.cell (p := ⟨w.heap.size, 0, none⟩) hsW
      clear c9 hv59 hv39 hB9
      go_wp2_with fail
      refine (eqIntS_true _ _ LL _ hv59b.rd hv39b.rd).mono ?_
      rintro e w10 ⟨rfl, n10, rfl⟩
      have hB10 := below_drewN hB9b n10
      have hv510 := hv59b.drewN n10
      have hv310 := hv39b.drewN n10
      have c10 := hcW ▸ hB10.cell (p := ⟨w.heap.size, 0, none⟩) hsW
      generalize w9b.drewN n10 = w10 at *
      have hap : v3.ownBlock = none ∨ v3.ownBlock ≠ v5.ownBlock := by
        cases hv : v3.ownBlock with
        | none => exact .inl rfl
        | some k =>
          refine .inr fun e => ?_
          have h1 := (hv3.lt k hv).2
          have h2 := (hv59b.lt k e.symm).1
          have := hbX.size
          have := hbY.size
          omega
      clear c9b hv59b hv39b
      go_wp2_with fail
      refine (markIntS_any WY.heap.size _ LL 1 _ (by decide) (by decide) (by omega) hv510).mono ?_
      rintro e w11 ⟨rfl, hv511, hg11⟩
      have hB11 := hB10.grown hg11 hB10.size (fun k hk => by have := (hv511.lt k hk).1; have := hBX.size; have := hbY.size; omega)
      have hv311 := hv310.kept hg11 hap
      have c11 := hcW ▸ hB11.cell (p := ⟨w.heap.size, 0, none⟩) hsW
      clear c10
      go_wp2_with fail
      refine (heldIntS_any _ LL.length 1 _ (by decide) (by decide) (by omega) hv511.rd).mono ?_
      rintro e w12 ⟨rfl, rfl⟩
      go_wp2_with fail
      refine (toBook_any _ ps _ hsm (hrW.later hB11)).mono ?_
      rintro e w13 ⟨v13, rfl, ho13, hb13⟩
      go_wp2_with fail
      refine (toIntS_any _ zs _ (by omega) (((HX.out.later hbW).later hB11).later hb13)).mono ?_
      rintro e w13i ⟨y13, rfl, hy13, hb13i⟩
      have hb13j := hb13.trans (hb13i.mono hb13.size)
      go_wp2_with fail
      refine (implFirst_any _ _ ps zs _ (ho13.rd.later hb13i) hy13.rdc).mono ?_
      rintro e w14 ⟨v14, rfl, hv14, hb14⟩
      rw [← HLL.out] at hv14
      have hb1314 := hb13j.trans (hb14.mono hb13j.size)
      have hB14 := hB11.trans (hb1314.mono hB11.size)
      have hv314 := hv311.later hb1314
      have hv514 := hv511.later hb1314
      go_wp2_with fail
      refine (eqIntS_true _ _ LL _ hv14.rd hv314.rd).mono ?_
      rintro e w15 ⟨rfl, n15, rfl⟩
      have hB15 := below_drewN hB14 n15
      have hv515 := hv514.drewN n15
      go_wp2_with fail
      refine (heldIntS_any _ LL.length 1 _ (by decide) (by decide) (by omega) hv515.rd).mono ?_
      rintro e w16 ⟨rfl, rfl⟩
      go_wp2
      go_ret
      exact ⟨rfl, hbW.trans (hB15.mono hbW.size)⟩
end Go.Proofs.Ytpogpehbkgjiaaa
