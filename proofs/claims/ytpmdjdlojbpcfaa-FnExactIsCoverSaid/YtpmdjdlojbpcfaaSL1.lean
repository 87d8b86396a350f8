/- Chapter 8: the exact laws of AreSites, IsCover and AreApart. Written by a generator of this claim's author. -/
import Derived.Test.YtpmdjdlojbpcfaaIv
import Derived.Test.YtpmdjdlojbpcfaaStW
import Derived.Test.YtpmdjdlojbpcfaaRows
namespace Go.Proofs.Ytpmdjdlojbpcfaa
open Go.RowKit
set_option linter.unusedSimpArgs false
set_option linter.unusedVariables false

set_option maxRecDepth 100000 in
set_option maxHeartbeats 2000000 in
theorem walk_FnExactAreSites (c0 : Value) (L0 : List (List Int)) (a1 : Int) (w : World) (w0 : RdJ w c0 L0) (w1 : (Lit.int .i64 a1).wf = true) :
    Calls Try.prog 5 #[c0, .int .i64 a1] w fun e w' => e = .returned (.bool true) ∧ Below w.heap.size w w' := by
  obtain ⟨a0, cap0, rfl, -⟩ := w0.len
  have hm0 := w0.max
  have HX0 := Lib.hid w0
  clear w0
  go_enter Try.func5, Try.ntmps5
  go_wp2_with fail
  refine (szIntSS_any _ L0 _ _ (by omega) (by omega) HX0.out).mono ?_
  rintro e wz ⟨rfl, r, rfl, hr⟩
  rcases hr with rfl | ⟨r0, hsm0⟩
  · go_wp2
    go_ret
    exact ⟨rfl, Below.refl _ _⟩
  · have HS0 := Lib.hid hsm0
    clear hsm0
    have hB0 := Below.refl w.heap.size w
    have s0 := hB0.size
    go_wp2_with fail
    refine (toIntSS_any _ L0 _ HS0.out (HX0.out.later hB0)).mono ?_
    rintro e w1 ⟨v_p0, rfl, p0, hb1⟩
    have z1 := hb1.size
    have hB1 := hB0.trans (hb1.mono hB0.size)
    have s1 := hB1.size
    go_wp2_with fail
    refine (specAreSites_b _ L0 a1 _ p0.rd).mono ?_
    rintro e w2 ⟨rfl, hb2⟩
    have z2 := hb2.size
    have p0 := p0.later hb2
    have hB2 := hB1.trans (hb2.mono hB1.size)
    have s2 := hB2.size
    go_wp2_with fail
    refine (toIntSS_any _ L0 _ HS0.out (HX0.out.later hB2)).mono ?_
    rintro e w3 ⟨v_x0, rfl, x0, hb3⟩
    have z3 := hb3.size
    have p0 := p0.later hb3
    have hB3 := hB2.trans (hb3.mono hB2.size)
    have s3 := hB3.size
    go_wp2_with fail
    refine (implAreSites_any _ L0 a1 _ x0.rd).mono ?_
    rintro e w4 ⟨rfl, hb4⟩
    have z4 := hb4.size
    have p0 := p0.later hb4
    have x0 := x0.later hb4
    have hB4 := hB3.trans (hb4.mono hB3.size)
    have s4 := hB4.size
    go_wp2_with fail
    refine (toIntSS_any _ L0 _ HS0.out (HX0.out.later hB4)).mono ?_
    rintro e w5 ⟨v_q0, rfl, q0, hb5⟩
    have z5 := hb5.size
    have p0 := p0.later hb5
    have x0 := x0.later hb5
    have hB5 := hB4.trans (hb5.mono hB4.size)
    have s5 := hB5.size
    go_wp2_with fail
    refine (eqIntSS_b _ _ L0 _ x0.rd q0.rd).mono ?_
    rintro e w6 ⟨rfl, hb6⟩
    have z6 := hb6.size
    have p0 := p0.later hb6
    have x0 := x0.later hb6
    have q0 := q0.later hb6
    have hB6 := hB5.trans (hb6.mono hB5.size)
    have s6 := hB6.size
    go_wp2
    go_ret
    exact ⟨rfl, hB6⟩

set_option maxRecDepth 100000 in
set_option maxHeartbeats 2000000 in
theorem walk_FnExactIsCover (c0 : Value) (L0 : List (List Int)) (a1 : Int) (a2 : Option Addr) (len2 cap2 : Nat) (z2 : List Int) (a3 : Int) (w : World) (w0 : RdJ w c0 L0) (w1 : (Lit.int .i64 a1).wf = true) (w2 : IsRow .i64 w a2 len2 cap2 z2) (w3 : (Lit.int .i64 a3).wf = true) :
    Calls Try.prog 7 #[c0, .int .i64 a1, .slice a2 len2 cap2, .int .i64 a3] w fun e w' => e = .returned (.bool true) ∧ Below w.heap.size w w' := by
  obtain ⟨a0, cap0, rfl, -⟩ := w0.len
  have hm0 := w0.max
  have HX0 := Lib.hid w0
  clear w0
  have hx2 := w2.rdc
  have hl2 := w2.len
  have hm2 := hx2.rd.max
  unfold maxLen at hm2
  rw [hl2] at hm2
  obtain ⟨zs2, hzs2⟩ : ∃ zs, zs = z2.take len2 := ⟨_, rfl⟩
  rw [← hzs2] at hx2 hl2
  have HX2 := Lib.hid hx2
  clear hzs2 w2 hx2
  by_cases hlong2 : 1048576 < len2
  · clear hl2
    go_enter Try.func7, Try.ntmps7
    go_wp2
    go_ret
    exact ⟨rfl, Below.refl _ _⟩
  · have hlz2 : zs2.length ≤ 1048576 := by rw [hl2]; omega
    clear hl2
    go_enter Try.func7, Try.ntmps7
    go_wp2_with fail
    refine (szIntSS_any _ L0 _ _ (by omega) (by omega) HX0.out).mono ?_
    rintro e wz ⟨rfl, r, rfl, hr⟩
    rcases hr with rfl | ⟨r0, hsm0⟩
    · go_wp2
      go_ret
      exact ⟨rfl, Below.refl _ _⟩
    · have HS0 := Lib.hid hsm0
      clear hsm0
      have hB0 := Below.refl w.heap.size w
      have s0 := hB0.size
      go_wp2_with fail
      refine (toIntSS_any _ L0 _ HS0.out (HX0.out.later hB0)).mono ?_
      rintro e w1 ⟨v_p0, rfl, p0, hb1⟩
      have z1 := hb1.size
      have hB1 := hB0.trans (hb1.mono hB0.size)
      have s1 := hB1.size
      go_wp2_with fail
      refine (toIntS_i _ zs2 _ (by omega) (HX2.out.later hB1).rd).mono ?_
      rintro e w2 ⟨v_p2, rfl, p2, hb2⟩
      have z2 := hb2.size
      have p0 := p0.later hb2
      have hB2 := hB1.trans (hb2.mono hB1.size)
      have s2 := hB2.size
      go_wp2_with fail
      refine (specIsCover_any _ _ L0 a1 zs2 a3 _ p0.rd p2.rdc.rd).mono ?_
      rintro e w3 ⟨rfl, hb3⟩
      have z3 := hb3.size
      have p0 := p0.later hb3
      have p2 := p2.later hb3
      have hB3 := hB2.trans (hb3.mono hB2.size)
      have s3 := hB3.size
      go_wp2_with fail
      refine (toIntSS_any _ L0 _ HS0.out (HX0.out.later hB3)).mono ?_
      rintro e w4 ⟨v_x0, rfl, x0, hb4⟩
      have z4 := hb4.size
      have p0 := p0.later hb4
      have p2 := p2.later hb4
      have hB4 := hB3.trans (hb4.mono hB3.size)
      have s4 := hB4.size
      go_wp2_with fail
      refine (toIntS_i _ zs2 _ (by omega) (HX2.out.later hB4).rd).mono ?_
      rintro e w5 ⟨v_x2, rfl, x2, hb5⟩
      have z5 := hb5.size
      have p0 := p0.later hb5
      have p2 := p2.later hb5
      have x0 := x0.later hb5
      have hB5 := hB4.trans (hb5.mono hB4.size)
      have s5 := hB5.size
      go_wp2_with fail
      refine (implIsCover_any _ _ L0 a1 zs2 a3 _ x0.rd x2.rdc.rd).mono ?_
      rintro e w6 ⟨rfl, hb6⟩
      have z6 := hb6.size
      have p0 := p0.later hb6
      have p2 := p2.later hb6
      have x0 := x0.later hb6
      have x2 := x2.later hb6
      have hB6 := hB5.trans (hb6.mono hB5.size)
      have s6 := hB6.size
      go_wp2_with fail
      refine (toIntSS_any _ L0 _ HS0.out (HX0.out.later hB6)).mono ?_
      rintro e w7 ⟨v_q0, rfl, q0, hb7⟩
      have z7 := hb7.size
      have p0 := p0.later hb7
      have p2 := p2.later hb7
      have x0 := x0.later hb7
      have x2 := x2.later hb7
      have hB7 := hB6.trans (hb7.mono hB6.size)
      have s7 := hB7.size
      go_wp2_with fail
      refine (eqIntSS_b _ _ L0 _ x0.rd q0.rd).mono ?_
      rintro e w8 ⟨rfl, hb8⟩
      have z8 := hb8.size
      have p0 := p0.later hb8
      have p2 := p2.later hb8
      have x0 := x0.later hb8
      have x2 := x2.later hb8
      have q0 := q0.later hb8
      have hB8 := hB7.trans (hb8.mono hB7.size)
      have s8 := hB8.size
      go_wp2_with fail
      refine (toIntS_i _ zs2 _ (by omega) (HX2.out.later hB8).rd).mono ?_
      rintro e w9 ⟨v_q2, rfl, q2, hb9⟩
      have z9 := hb9.size
      have p0 := p0.later hb9
      have p2 := p2.later hb9
      have x0 := x0.later hb9
      have x2 := x2.later hb9
      have q0 := q0.later hb9
      have hB9 := hB8.trans (hb9.mono hB8.size)
      have s9 := hB9.size
      go_wp2_with fail
      refine (eqIntS_b _ _ zs2 _ x2.rd q2.rd).mono ?_
      rintro e w10 ⟨rfl, hb10⟩
      have z10 := hb10.size
      have p0 := p0.later hb10
      have p2 := p2.later hb10
      have x0 := x0.later hb10
      have x2 := x2.later hb10
      have q0 := q0.later hb10
      have q2 := q2.later hb10
      have hB10 := hB9.trans (hb10.mono hB9.size)
      have s10 := hB10.size
      go_wp2
      go_ret
      exact ⟨rfl, hB10⟩

set_option maxRecDepth 100000 in
set_option maxHeartbeats 2000000 in
theorem walk_FnExactAreApart (c0 : Value) (L0 : List (List Int)) (a1 : Int) (a2 : Option Addr) (len2 cap2 : Nat) (z2 : List Int) (w : World) (w0 : RdJ w c0 L0) (w1 : (Lit.int .i64 a1).wf = true) (w2 : IsRow .i64 w a2 len2 cap2 z2) :
    Calls Try.prog 12 #[c0, .int .i64 a1, .slice a2 len2 cap2] w fun e w' => e = .returned (.bool true) ∧ Below w.heap.size w w' := by
  obtain ⟨a0, cap0, rfl, -⟩ := w0.len
  have hm0 := w0.max
  have HX0 := Lib.hid w0
  clear w0
  have hx2 := w2.rdc
  have hl2 := w2.len
  have hm2 := hx2.rd.max
  unfold maxLen at hm2
  rw [hl2] at hm2
  obtain ⟨zs2, hzs2⟩ : ∃ zs, zs = z2.take len2 := ⟨_, rfl⟩
  rw [← hzs2] at hx2 hl2
  have HX2 := Lib.hid hx2
  clear hzs2 w2 hx2
  by_cases hlong2 : 1048576 < len2
  · clear hl2
    go_enter Try.func12, Try.ntmps12
    go_wp2
    go_ret
    exact ⟨rfl, Below.refl _ _⟩
  · have hlz2 : zs2.length ≤ 1048576 := by rw [hl2]; omega
    clear hl2
    go_enter Try.func12, Try.ntmps12
    go_wp2_with fail
    refine (szIntSS_any _ L0 _ _ (by omega) (by omega) HX0.out).mono ?_
    rintro e wz ⟨rfl, r, rfl, hr⟩
    rcases hr with rfl | ⟨r0, hsm0⟩
    · go_wp2
      go_ret
      exact ⟨rfl, Below.refl _ _⟩
    · have HS0 := Lib.hid hsm0
      clear hsm0
      have hB0 := Below.refl w.heap.size w
      have s0 := hB0.size
      go_wp2_with fail
      refine (toIntSS_any _ L0 _ HS0.out (HX0.out.later hB0)).mono ?_
      rintro e w1 ⟨v_p0, rfl, p0, hb1⟩
      have z1 := hb1.size
      have hB1 := hB0.trans (hb1.mono hB0.size)
      have s1 := hB1.size
      go_wp2_with fail
      refine (toIntS_i _ zs2 _ (by omega) (HX2.out.later hB1).rd).mono ?_
      rintro e w2 ⟨v_p2, rfl, p2, hb2⟩
      have z2 := hb2.size
      have p0 := p0.later hb2
      have hB2 := hB1.trans (hb2.mono hB1.size)
      have s2 := hB2.size
      go_wp2_with fail
      refine (specAreApart_any _ _ L0 a1 zs2 _ p0.rd p2.rdc.rd).mono ?_
      rintro e w3 ⟨rfl, hb3⟩
      have z3 := hb3.size
      have p0 := p0.later hb3
      have p2 := p2.later hb3
      have hB3 := hB2.trans (hb3.mono hB2.size)
      have s3 := hB3.size
      go_wp2_with fail
      refine (toIntSS_any _ L0 _ HS0.out (HX0.out.later hB3)).mono ?_
      rintro e w4 ⟨v_x0, rfl, x0, hb4⟩
      have z4 := hb4.size
      have p0 := p0.later hb4
      have p2 := p2.later hb4
      have hB4 := hB3.trans (hb4.mono hB3.size)
      have s4 := hB4.size
      go_wp2_with fail
      refine (toIntS_i _ zs2 _ (by omega) (HX2.out.later hB4).rd).mono ?_
      rintro e w5 ⟨v_x2, rfl, x2, hb5⟩
      have z5 := hb5.size
      have p0 := p0.later hb5
      have p2 := p2.later hb5
      have x0 := x0.later hb5
      have hB5 := hB4.trans (hb5.mono hB4.size)
      have s5 := hB5.size
      go_wp2_with fail
      refine (implAreApart_any _ _ L0 a1 zs2 _ x0.rd x2.rdc.rd).mono ?_
      rintro e w6 ⟨rfl, hb6⟩
      have z6 := hb6.size
      have p0 := p0.later hb6
      have p2 := p2.later hb6
      have x0 := x0.later hb6
      have x2 := x2.later hb6
      have hB6 := hB5.trans (hb6.mono hB5.size)
      have s6 := hB6.size
      go_wp2_with fail
      refine (toIntSS_any _ L0 _ HS0.out (HX0.out.later hB6)).mono ?_
      rintro e w7 ⟨v_q0, rfl, q0, hb7⟩
      have z7 := hb7.size
      have p0 := p0.later hb7
      have p2 := p2.later hb7
      have x0 := x0.later hb7
      have x2 := x2.later hb7
      have hB7 := hB6.trans (hb7.mono hB6.size)
      have s7 := hB7.size
      go_wp2_with fail
      refine (eqIntSS_b _ _ L0 _ x0.rd q0.rd).mono ?_
      rintro e w8 ⟨rfl, hb8⟩
      have z8 := hb8.size
      have p0 := p0.later hb8
      have p2 := p2.later hb8
      have x0 := x0.later hb8
      have x2 := x2.later hb8
      have q0 := q0.later hb8
      have hB8 := hB7.trans (hb8.mono hB7.size)
      have s8 := hB8.size
      go_wp2_with fail
      refine (toIntS_i _ zs2 _ (by omega) (HX2.out.later hB8).rd).mono ?_
      rintro e w9 ⟨v_q2, rfl, q2, hb9⟩
      have z9 := hb9.size
      have p0 := p0.later hb9
      have p2 := p2.later hb9
      have x0 := x0.later hb9
      have x2 := x2.later hb9
      have q0 := q0.later hb9
      have hB9 := hB8.trans (hb9.mono hB8.size)
      have s9 := hB9.size
      go_wp2_with fail
      refine (eqIntS_b _ _ zs2 _ x2.rd q2.rd).mono ?_
      rintro e w10 ⟨rfl, hb10⟩
      have z10 := hb10.size
      have p0 := p0.later hb10
      have p2 := p2.later hb10
      have x0 := x0.later hb10
      have x2 := x2.later hb10
      have q0 := q0.later hb10
      have q2 := q2.later hb10
      have hB10 := hB9.trans (hb10.mono hB9.size)
      have s10 := hB10.size
      go_wp2
      go_ret
      exact ⟨rfl, hB10⟩
end Go.Proofs.Ytpmdjdlojbpcfaa
