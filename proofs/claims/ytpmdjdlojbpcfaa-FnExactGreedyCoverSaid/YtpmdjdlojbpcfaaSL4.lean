/- Chapter 8: the exact laws of NeededSites and GreedyCover. Written by a generator of this claim's author. -/
import Derived.Test.YtpmdjdlojbpcfaaIv
import Derived.Test.YtpmdjdlojbpcfaaStX
import Derived.Test.YtpmdjdlojbpcfaaRows
namespace Go.Proofs.Ytpmdjdlojbpcfaa
open Go.RowKit
set_option linter.unusedSimpArgs false
set_option linter.unusedVariables false

set_option maxRecDepth 100000 in
set_option maxHeartbeats 2000000 in
theorem walk_FnExactNeededSites (c0 : Value) (L0 : List (List Int)) (a1 : Int) (w : World) (w0 : RdJ w c0 L0) (w1 : (Lit.int .i64 a1).wf = true) :
    Calls Try.prog 10 #[c0, .int .i64 a1] w fun e w' => e = .returned (.bool true) ∧ Below w.heap.size w w' := by
  obtain ⟨a0, cap0, rfl, -⟩ := w0.len
  have hm0 := w0.max
  have HX0 := Lib.hid w0
  clear w0
  go_enter Try.func10, Try.ntmps10
  go_wp2_with fail
  refine (szIntSS_any _ L0 _ _ (by omega) (by omega) HX0.out).mono ?_
  rintro e wz ⟨rfl, r, rfl, hr⟩
  rcases hr with rfl | ⟨r0, hsm0⟩
  · go_wp2
    go_ret
    exact ⟨rfl, Below.refl _ _⟩
  · have HS0 := Lib.hid hsm0
    clear hsm0
    obtain ⟨LL, hLL⟩ : ∃ LL, LL = nsL L0 a1 := ⟨_, rfl⟩
    have hlL : LL.length ≤ 1000000 := by rw [hLL]; exact (by have := nsL_len L0 a1; omega)
    have HLL := Lib.hid hLL
    clear hLL
    have hB0 := Below.refl w.heap.size w
    have s0 := hB0.size
    go_wp2_with fail
    refine (toIntSS_any _ L0 _ HS0.out (HX0.out.later hB0)).mono ?_
    rintro e w1 ⟨v_p0, rfl, p0, hb1⟩
    have z1 := hb1.size
    have hB1 := hB0.trans (hb1.mono hB0.size)
    have s1 := hB1.size
    go_wp2_with fail
    refine (specNeededSites_i _ L0 a1 _ p0.rd).mono ?_
    rintro e w2 ⟨v_gs, rfl, gs, hb2⟩
    have z2 := hb2.size
    have p0 := p0.later hb2
    have hB2 := hB1.trans (hb2.mono hB1.size)
    have s2 := hB2.size
    rw [← HLL.out] at gs
    go_wp2_with fail
    refine (toIntSS_any _ L0 _ HS0.out (HX0.out.later hB2)).mono ?_
    rintro e w3 ⟨v_x0, rfl, x0, hb3⟩
    have z3 := hb3.size
    have p0 := p0.later hb3
    have gs := gs.later hb3
    have hB3 := hB2.trans (hb3.mono hB2.size)
    have s3 := hB3.size
    go_wp2_with fail
    refine (implNeededSites_i _ L0 a1 _ x0.rd).mono ?_
    rintro e w4 ⟨v_gi, rfl, gi, hb4⟩
    have z4 := hb4.size
    have p0 := p0.later hb4
    have gs := gs.later hb4
    have x0 := x0.later hb4
    have hB4 := hB3.trans (hb4.mono hB3.size)
    have s4 := hB4.size
    rw [← HLL.out] at gi
    go_wp2_with fail
    refine (eqIntS_b _ _ LL _ gi.rd gs.rd).mono ?_
    rintro e w5 ⟨rfl, hb5⟩
    have z5 := hb5.size
    have p0 := p0.later hb5
    have gs := gs.later hb5
    have x0 := x0.later hb5
    have gi := gi.later hb5
    have hB5 := hB4.trans (hb5.mono hB4.size)
    have s5 := hB5.size
    go_wp2_with fail
    refine (toIntSS_any _ L0 _ HS0.out (HX0.out.later hB5)).mono ?_
    rintro e w6 ⟨v_q0, rfl, q0, hb6⟩
    have z6 := hb6.size
    have p0 := p0.later hb6
    have gs := gs.later hb6
    have x0 := x0.later hb6
    have gi := gi.later hb6
    have hB6 := hB5.trans (hb6.mono hB5.size)
    have s6 := hB6.size
    go_wp2_with fail
    refine (eqIntSS_b _ _ L0 _ x0.rd q0.rd).mono ?_
    rintro e w7 ⟨rfl, hb7⟩
    have z7 := hb7.size
    have p0 := p0.later hb7
    have gs := gs.later hb7
    have x0 := x0.later hb7
    have gi := gi.later hb7
    have q0 := q0.later hb7
    have hB7 := hB6.trans (hb7.mono hB6.size)
    have s7 := hB7.size
    have hs0 : sumTo L0 L0.length ≤ 1048576 := HS0.out.2
    go_wp2_with fail
    refine (markIntSS_any w2.heap.size w3.heap.size _ L0 (1) _ (by omega) (by omega) HS0.out (by omega) x0).mono ?_
    rintro e w8 ⟨rfl, x0, hk8⟩
    have z8 := hk8.size
    have gs := gs.kept hk8 (by omega)
    have gi := gi.kept hk8 (by omega)
    have hB8 := hB7.trans ((hk8.below (by omega)).mono (by omega))
    have s8 := hB8.size
    have hk0_0 : 0 ≤ 1 + (sumTo L0 L0.length : Int) := by omega
    go_wp2_with fail
    refine (eqIntS_b _ _ LL _ gi.rd gs.rd).mono ?_
    rintro e w9 ⟨rfl, hb9⟩
    have z9 := hb9.size
    have gs := gs.later hb9
    have gi := gi.later hb9
    have hB9 := hB8.trans (hb9.mono hB8.size)
    have s9 := hB9.size
    go_wp2_with fail
    refine (markIntS_i w3.heap.size w4.heap.size _ LL (1) _ (by omega) (by omega) (by omega) gi).mono ?_
    rintro e w10 ⟨rfl, gi, hk10, -⟩
    have z10 := hk10.size
    have gs := gs.kept hk10 (by omega)
    have hB10 := hB9.trans ((hk10.below (by omega)).mono (by omega))
    have s10 := hB10.size
    have hqL : 0 ≤ 1 + (LL.length : Int) := by omega
    go_wp2_with fail
    refine (heldIntS_any _ LL.length 1 _ (by decide) (by decide) (by omega) gi.rd).mono ?_
    rintro e we ⟨rfl, rfl⟩
    go_wp2_with fail
    refine (toIntSS_any _ L0 _ HS0.out (HX0.out.later hB10)).mono ?_
    rintro e w11 ⟨v_y0, rfl, y0, hb11⟩
    have z11 := hb11.size
    have gs := gs.later hb11
    have gi := gi.later hb11
    have hB11 := hB10.trans (hb11.mono hB10.size)
    have s11 := hB11.size
    go_wp2_with fail
    refine (implNeededSites_i _ L0 a1 _ y0.rd).mono ?_
    rintro e w12 ⟨v_gz, rfl, gz, hb12⟩
    have z12 := hb12.size
    have gs := gs.later hb12
    have gi := gi.later hb12
    have y0 := y0.later hb12
    have hB12 := hB11.trans (hb12.mono hB11.size)
    have s12 := hB12.size
    rw [← HLL.out] at gz
    go_wp2_with fail
    refine (eqIntS_b _ _ LL _ gz.rd gs.rd).mono ?_
    rintro e w13 ⟨rfl, hb13⟩
    have z13 := hb13.size
    have gs := gs.later hb13
    have gi := gi.later hb13
    have y0 := y0.later hb13
    have gz := gz.later hb13
    have hB13 := hB12.trans (hb13.mono hB12.size)
    have s13 := hB13.size
    go_wp2_with fail
    refine (heldIntS_any _ LL.length 1 _ (by decide) (by decide) (by omega) gi.rd).mono ?_
    rintro e we ⟨rfl, rfl⟩
    go_wp2
    go_ret
    exact ⟨rfl, hB13⟩

set_option maxRecDepth 100000 in
set_option maxHeartbeats 2000000 in
theorem walk_FnExactGreedyCover (c0 : Value) (L0 : List (List Int)) (a1 : Int) (w : World) (w0 : RdJ w c0 L0) (w1 : (Lit.int .i64 a1).wf = true) :
    Calls Try.prog 9 #[c0, .int .i64 a1] w fun e w' => e = .returned (.bool true) ∧ Below w.heap.size w w' := by
  obtain ⟨a0, cap0, rfl, -⟩ := w0.len
  have hm0 := w0.max
  have HX0 := Lib.hid w0
  clear w0
  go_enter Try.func9, Try.ntmps9
  go_wp2_with fail
  refine (szIntSS_any _ L0 _ _ (by omega) (by omega) HX0.out).mono ?_
  rintro e wz ⟨rfl, r, rfl, hr⟩
  rcases hr with rfl | ⟨r0, hsm0⟩
  · go_wp2
    go_ret
    exact ⟨rfl, Below.refl _ _⟩
  · have HS0 := Lib.hid hsm0
    clear hsm0
    obtain ⟨LL, hLL⟩ : ∃ LL, LL = grL L0 a1 := ⟨_, rfl⟩
    have hlL : LL.length ≤ 1000000 := by rw [hLL]; exact (by have := grL_len L0 a1; omega)
    have HLL := Lib.hid hLL
    clear hLL
    have hB0 := Below.refl w.heap.size w
    have s0 := hB0.size
    go_wp2_with fail
    refine (toIntSS_any _ L0 _ HS0.out (HX0.out.later hB0)).mono ?_
    rintro e w1 ⟨v_p0, rfl, p0, hb1⟩
    have z1 := hb1.size
    have hB1 := hB0.trans (hb1.mono hB0.size)
    have s1 := hB1.size
    go_wp2_with fail
    refine (specGreedyCover_i _ L0 a1 _ p0.rd).mono ?_
    rintro e w2 ⟨v_gs, rfl, gs, hb2⟩
    have z2 := hb2.size
    have p0 := p0.later hb2
    have hB2 := hB1.trans (hb2.mono hB1.size)
    have s2 := hB2.size
    rw [← HLL.out] at gs
    go_wp2_with fail
    refine (toIntSS_any _ L0 _ HS0.out (HX0.out.later hB2)).mono ?_
    rintro e w3 ⟨v_x0, rfl, x0, hb3⟩
    have z3 := hb3.size
    have p0 := p0.later hb3
    have gs := gs.later hb3
    have hB3 := hB2.trans (hb3.mono hB2.size)
    have s3 := hB3.size
    go_wp2_with fail
    refine (implGreedyCover_i _ L0 a1 _ x0.rd).mono ?_
    rintro e w4 ⟨v_gi, rfl, gi, hb4⟩
    have z4 := hb4.size
    have p0 := p0.later hb4
    have gs := gs.later hb4
    have x0 := x0.later hb4
    have hB4 := hB3.trans (hb4.mono hB3.size)
    have s4 := hB4.size
    rw [← HLL.out] at gi
    go_wp2_with fail
    refine (eqIntS_b _ _ LL _ gi.rd gs.rd).mono ?_
    rintro e w5 ⟨rfl, hb5⟩
    have z5 := hb5.size
    have p0 := p0.later hb5
    have gs := gs.later hb5
    have x0 := x0.later hb5
    have gi := gi.later hb5
    have hB5 := hB4.trans (hb5.mono hB4.size)
    have s5 := hB5.size
    go_wp2_with fail
    refine (toIntSS_any _ L0 _ HS0.out (HX0.out.later hB5)).mono ?_
    rintro e w6 ⟨v_q0, rfl, q0, hb6⟩
    have z6 := hb6.size
    have p0 := p0.later hb6
    have gs := gs.later hb6
    have x0 := x0.later hb6
    have gi := gi.later hb6
    have hB6 := hB5.trans (hb6.mono hB5.size)
    have s6 := hB6.size
    go_wp2_with fail
    refine (eqIntSS_b _ _ L0 _ x0.rd q0.rd).mono ?_
    rintro e w7 ⟨rfl, hb7⟩
    have z7 := hb7.size
    have p0 := p0.later hb7
    have gs := gs.later hb7
    have x0 := x0.later hb7
    have gi := gi.later hb7
    have q0 := q0.later hb7
    have hB7 := hB6.trans (hb7.mono hB6.size)
    have s7 := hB7.size
    have hs0 : sumTo L0 L0.length ≤ 1048576 := HS0.out.2
    go_wp2_with fail
    refine (markIntSS_any w2.heap.size w3.heap.size _ L0 (1) _ (by omega) (by omega) HS0.out (by omega) x0).mono ?_
    rintro e w8 ⟨rfl, x0, hk8⟩
    have z8 := hk8.size
    have gs := gs.kept hk8 (by omega)
    have gi := gi.kept hk8 (by omega)
    have hB8 := hB7.trans ((hk8.below (by omega)).mono (by omega))
    have s8 := hB8.size
    have hk0_0 : 0 ≤ 1 + (sumTo L0 L0.length : Int) := by omega
    go_wp2_with fail
    refine (eqIntS_b _ _ LL _ gi.rd gs.rd).mono ?_
    rintro e w9 ⟨rfl, hb9⟩
    have z9 := hb9.size
    have gs := gs.later hb9
    have gi := gi.later hb9
    have hB9 := hB8.trans (hb9.mono hB8.size)
    have s9 := hB9.size
    go_wp2_with fail
    refine (markIntS_i w3.heap.size w4.heap.size _ LL (1) _ (by omega) (by omega) (by omega) gi).mono ?_
    rintro e w10 ⟨rfl, gi, hk10, -⟩
    have z10 := hk10.size
    have gs := gs.kept hk10 (by omega)
    have hB10 := hB9.trans ((hk10.below (by omega)).mono (by omega))
    have s10 := hB10.size
    have hqL : 0 ≤ 1 + (LL.length : Int) := by omega
    go_wp2_with fail
    refine (heldIntS_any _ LL.length 1 _ (by decide) (by decide) (by omega) gi.rd).mono ?_
    rintro e we ⟨rfl, rfl⟩
    go_wp2_with fail
    refine (toIntSS_any _ L0 _ HS0.out (HX0.out.later hB10)).mono ?_
    rintro e w11 ⟨v_y0, rfl, y0, hb11⟩
    have z11 := hb11.size
    have gs := gs.later hb11
    have gi := gi.later hb11
    have hB11 := hB10.trans (hb11.mono hB10.size)
    have s11 := hB11.size
    go_wp2_with fail
    refine (implGreedyCover_i _ L0 a1 _ y0.rd).mono ?_
    rintro e w12 ⟨v_gz, rfl, gz, hb12⟩
    have z12 := hb12.size
    have gs := gs.later hb12
    have gi := gi.later hb12
    have y0 := y0.later hb12
    have hB12 := hB11.trans (hb12.mono hB11.size)
    have s12 := hB12.size
    rw [← HLL.out] at gz
    go_wp2_with fail
    refine (eqIntS_b _ _ LL _ gz.rd gs.rd).mono ?_
    rintro e w13 ⟨rfl, hb13⟩
    have z13 := hb13.size
    have gs := gs.later hb13
    have gi := gi.later hb13
    have y0 := y0.later hb13
    have gz := gz.later hb13
    have hB13 := hB12.trans (hb13.mono hB12.size)
    have s13 := hB13.size
    go_wp2_with fail
    refine (heldIntS_any _ LL.length 1 _ (by decide) (by decide) (by omega) gi.rd).mono ?_
    rintro e we ⟨rfl, rfl⟩
    go_wp2
    go_ret
    exact ⟨rfl, hB13⟩
end Go.Proofs.Ytpmdjdlojbpcfaa
