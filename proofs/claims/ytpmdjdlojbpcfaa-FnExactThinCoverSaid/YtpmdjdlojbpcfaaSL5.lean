/- Chapter 8: the exact law of ThinCover. Written by a generator of this claim's author. -/
import Derived.Test.YtpmdjdlojbpcfaaIv
import Derived.Test.YtpmdjdlojbpcfaaStY
import Derived.Test.YtpmdjdlojbpcfaaRows
namespace Go.Proofs.Ytpmdjdlojbpcfaa
open Go.RowKit
set_option linter.unusedSimpArgs false
set_option linter.unusedVariables false

set_option maxRecDepth 100000 in
set_option maxHeartbeats 2000000 in
theorem walk_FnExactThinCover (c0 : Value) (L0 : List (List Int)) (a1 : Int) (a2 : Option Addr) (len2 cap2 : Nat) (z2 : List Int) (w : World) (w0 : RdJ w c0 L0) (w1 : (Lit.int .i64 a1).wf = true) (w2 : IsRow .i64 w a2 len2 cap2 z2) :
    Calls Try.prog 11 #[c0, .int .i64 a1, .slice a2 len2 cap2] w fun e w' => e = .returned (.bool true) ∧ Below w.heap.size w w' := by
  obtain ⟨a0, cap0, rfl, -⟩ := w0.len
  have hm0 := w0.max
  have HX0 := Lib.hid w0
  clear w0
  have hx2 := w2.rdc
  have hl2 := w2.len
  have hm2 := hx2.rd.max
  unfold maxLen at hm2
  rw [hl2] at hm2
  obtain ⟨zs2, hzs2⟩ : ∃ zs, zs = z2.take len2 := ⟨_, rfl⟩
  rw [← hzs2] at hx2 hl2
  have HX2 := Lib.hid hx2
  clear hzs2 w2 hx2
  by_cases hlong2 : 1048576 < len2
  · clear hl2
    go_enter Try.func11, Try.ntmps11
    go_wp2
    go_ret
    exact ⟨rfl, Below.refl _ _⟩
  · have hlz2 : zs2.length ≤ 1048576 := by rw [hl2]; omega
    clear hl2
    go_enter Try.func11, Try.ntmps11
    go_wp2_with fail
    refine (szIntSS_any _ L0 _ _ (by omega) (by omega) HX0.out).mono ?_
    rintro e wz ⟨rfl, r, rfl, hr⟩
    rcases hr with rfl | ⟨r0, hsm0⟩
    · go_wp2
      go_ret
      exact ⟨rfl, Below.refl _ _⟩
    · have HS0 := Lib.hid hsm0
      clear hsm0
      obtain ⟨LL, hLL⟩ : ∃ LL, LL = tcL L0 a1 zs2 := ⟨_, rfl⟩
      have hlL : LL.length ≤ 1000000 := by rw [hLL]; exact (by have := tcL_len L0 a1 zs2; omega)
      have HLL := Lib.hid hLL
      clear hLL
      have hB0 := Below.refl w.heap.size w
      have s0 := hB0.size
      go_wp2_with fail
      refine (toIntSS_any _ L0 _ HS0.out (HX0.out.later hB0)).mono ?_
      rintro e w1 ⟨v_p0, rfl, p0, hb1⟩
      have z1 := hb1.size
      have hB1 := hB0.trans (hb1.mono hB0.size)
      have s1 := hB1.size
      go_wp2_with fail
      refine (toIntS_i _ zs2 _ (by omega) (HX2.out.later hB1).rd).mono ?_
      rintro e w2 ⟨v_p2, rfl, p2, hb2⟩
      have z2 := hb2.size
      have p0 := p0.later hb2
      have hB2 := hB1.trans (hb2.mono hB1.size)
      have s2 := hB2.size
      go_wp2_with fail
      refine (specThinCover_i _ _ L0 a1 zs2 _ p0.rd p2.rdc.rd).mono ?_
      rintro e w3 ⟨v_gs, rfl, gs, hb3⟩
      have z3 := hb3.size
      have p0 := p0.later hb3
      have p2 := p2.later hb3
      have hB3 := hB2.trans (hb3.mono hB2.size)
      have s3 := hB3.size
      rw [← HLL.out] at gs
      go_wp2_with fail
      refine (toIntSS_any _ L0 _ HS0.out (HX0.out.later hB3)).mono ?_
      rintro e w4 ⟨v_x0, rfl, x0, hb4⟩
      have z4 := hb4.size
      have p0 := p0.later hb4
      have p2 := p2.later hb4
      have gs := gs.later hb4
      have hB4 := hB3.trans (hb4.mono hB3.size)
      have s4 := hB4.size
      go_wp2_with fail
      refine (toIntS_i _ zs2 _ (by omega) (HX2.out.later hB4).rd).mono ?_
      rintro e w5 ⟨v_x2, rfl, x2, hb5⟩
      have z5 := hb5.size
      have p0 := p0.later hb5
      have p2 := p2.later hb5
      have gs := gs.later hb5
      have x0 := x0.later hb5
      have hB5 := hB4.trans (hb5.mono hB4.size)
      have s5 := hB5.size
      go_wp2_with fail
      refine (implThinCover_i _ _ L0 a1 zs2 _ x0.rd x2.rdc.rd).mono ?_
      rintro e w6 ⟨v_gi, rfl, gi, hb6⟩
      have z6 := hb6.size
      have p0 := p0.later hb6
      have p2 := p2.later hb6
      have gs := gs.later hb6
      have x0 := x0.later hb6
      have x2 := x2.later hb6
      have hB6 := hB5.trans (hb6.mono hB5.size)
      have s6 := hB6.size
      rw [← HLL.out] at gi
      go_wp2_with fail
      refine (eqIntS_b _ _ LL _ gi.rd gs.rd).mono ?_
      rintro e w7 ⟨rfl, hb7⟩
      have z7 := hb7.size
      have p0 := p0.later hb7
      have p2 := p2.later hb7
      have gs := gs.later hb7
      have x0 := x0.later hb7
      have x2 := x2.later hb7
      have gi := gi.later hb7
      have hB7 := hB6.trans (hb7.mono hB6.size)
      have s7 := hB7.size
      go_wp2_with fail
      refine (toIntSS_any _ L0 _ HS0.out (HX0.out.later hB7)).mono ?_
      rintro e w8 ⟨v_q0, rfl, q0, hb8⟩
      have z8 := hb8.size
      have p0 := p0.later hb8
      have p2 := p2.later hb8
      have gs := gs.later hb8
      have x0 := x0.later hb8
      have x2 := x2.later hb8
      have gi := gi.later hb8
      have hB8 := hB7.trans (hb8.mono hB7.size)
      have s8 := hB8.size
      go_wp2_with fail
      refine (eqIntSS_b _ _ L0 _ x0.rd q0.rd).mono ?_
      rintro e w9 ⟨rfl, hb9⟩
      have z9 := hb9.size
      have p0 := p0.later hb9
      have p2 := p2.later hb9
      have gs := gs.later hb9
      have x0 := x0.later hb9
      have x2 := x2.later hb9
      have gi := gi.later hb9
      have q0 := q0.later hb9
      have hB9 := hB8.trans (hb9.mono hB8.size)
      have s9 := hB9.size
      go_wp2_with fail
      refine (toIntS_i _ zs2 _ (by omega) (HX2.out.later hB9).rd).mono ?_
      rintro e w10 ⟨v_q2, rfl, q2, hb10⟩
      have z10 := hb10.size
      have p0 := p0.later hb10
      have p2 := p2.later hb10
      have gs := gs.later hb10
      have x0 := x0.later hb10
      have x2 := x2.later hb10
      have gi := gi.later hb10
      have q0 := q0.later hb10
      have hB10 := hB9.trans (hb10.mono hB9.size)
      have s10 := hB10.size
      go_wp2_with fail
      refine (eqIntS_b _ _ zs2 _ x2.rd q2.rd).mono ?_
      rintro e w11 ⟨rfl, hb11⟩
      have z11 := hb11.size
      have p0 := p0.later hb11
      have p2 := p2.later hb11
      have gs := gs.later hb11
      have x0 := x0.later hb11
      have x2 := x2.later hb11
      have gi := gi.later hb11
      have q0 := q0.later hb11
      have q2 := q2.later hb11
      have hB11 := hB10.trans (hb11.mono hB10.size)
      have s11 := hB11.size
      have hs0 : sumTo L0 L0.length ≤ 1048576 := HS0.out.2
      go_wp2_with fail
      refine (markIntSS_any w3.heap.size w4.heap.size _ L0 (1) _ (by omega) (by omega) HS0.out (by omega) x0).mono ?_
      rintro e w12 ⟨rfl, x0, hk12⟩
      have z12 := hk12.size
      have gs := gs.kept hk12 (by omega)
      have x2 := x2.kept hk12 (by omega)
      have gi := gi.kept hk12 (by omega)
      have hB12 := hB11.trans ((hk12.below (by omega)).mono (by omega))
      have s12 := hB12.size
      have hk0_0 : 0 ≤ 1 + (sumTo L0 L0.length : Int) := by omega
      go_wp2_with fail
      refine (markIntS_i w4.heap.size w5.heap.size _ zs2 (1 + (sumTo L0 L0.length : Int)) _ (by omega) (by omega) (by omega) x2).mono ?_
      rintro e w13 ⟨rfl, x2, hk13, -⟩
      have z13 := hk13.size
      have gs := gs.kept hk13 (by omega)
      have x0 := x0.kept hk13 (by omega)
      have gi := gi.kept hk13 (by omega)
      have hB13 := hB12.trans ((hk13.below (by omega)).mono (by omega))
      have s13 := hB13.size
      have hk0_2 : 0 ≤ 1 + (sumTo L0 L0.length : Int) + (zs2.length : Int) := by omega
      go_wp2_with fail
      refine (eqIntS_b _ _ LL _ gi.rd gs.rd).mono ?_
      rintro e w14 ⟨rfl, hb14⟩
      have z14 := hb14.size
      have gs := gs.later hb14
      have gi := gi.later hb14
      have hB14 := hB13.trans (hb14.mono hB13.size)
      have s14 := hB14.size
      go_wp2_with fail
      refine (markIntS_i w5.heap.size w6.heap.size _ LL (1) _ (by omega) (by omega) (by omega) gi).mono ?_
      rintro e w15 ⟨rfl, gi, hk15, -⟩
      have z15 := hk15.size
      have gs := gs.kept hk15 (by omega)
      have hB15 := hB14.trans ((hk15.below (by omega)).mono (by omega))
      have s15 := hB15.size
      have hqL : 0 ≤ 1 + (LL.length : Int) := by omega
      go_wp2_with fail
      refine (heldIntS_any _ LL.length 1 _ (by decide) (by decide) (by omega) gi.rd).mono ?_
      rintro e we ⟨rfl, rfl⟩
      go_wp2_with fail
      refine (toIntSS_any _ L0 _ HS0.out (HX0.out.later hB15)).mono ?_
      rintro e w16 ⟨v_y0, rfl, y0, hb16⟩
      have z16 := hb16.size
      have gs := gs.later hb16
      have gi := gi.later hb16
      have hB16 := hB15.trans (hb16.mono hB15.size)
      have s16 := hB16.size
      go_wp2_with fail
      refine (toIntS_i _ zs2 _ (by omega) (HX2.out.later hB16).rd).mono ?_
      rintro e w17 ⟨v_y2, rfl, y2, hb17⟩
      have z17 := hb17.size
      have gs := gs.later hb17
      have gi := gi.later hb17
      have y0 := y0.later hb17
      have hB17 := hB16.trans (hb17.mono hB16.size)
      have s17 := hB17.size
      go_wp2_with fail
      refine (implThinCover_i _ _ L0 a1 zs2 _ y0.rd y2.rdc.rd).mono ?_
      rintro e w18 ⟨v_gz, rfl, gz, hb18⟩
      have z18 := hb18.size
      have gs := gs.later hb18
      have gi := gi.later hb18
      have y0 := y0.later hb18
      have y2 := y2.later hb18
      have hB18 := hB17.trans (hb18.mono hB17.size)
      have s18 := hB18.size
      rw [← HLL.out] at gz
      go_wp2_with fail
      refine (eqIntS_b _ _ LL _ gz.rd gs.rd).mono ?_
      rintro e w19 ⟨rfl, hb19⟩
      have z19 := hb19.size
      have gs := gs.later hb19
      have gi := gi.later hb19
      have y0 := y0.later hb19
      have y2 := y2.later hb19
      have gz := gz.later hb19
      have hB19 := hB18.trans (hb19.mono hB18.size)
      have s19 := hB19.size
      go_wp2_with fail
      refine (heldIntS_any _ LL.length 1 _ (by decide) (by decide) (by omega) gi.rd).mono ?_
      rintro e we ⟨rfl, rfl⟩
      go_wp2
      go_ret
      exact ⟨rfl, hB19⟩
end Go.Proofs.Ytpmdjdlojbpcfaa
