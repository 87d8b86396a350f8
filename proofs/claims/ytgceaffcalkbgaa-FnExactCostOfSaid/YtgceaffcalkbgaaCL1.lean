/- Chapter 4: the exact laws of FlatLength, CostOf, KraftSum and HasCode. Written by a generator of this claim's author. -/
import Derived.Test.YtgceaffcalkbgaaIv
import Derived.Test.YtgceaffcalkbgaaCo2
import Derived.Test.YtgceaffcalkbgaaRows
namespace Go.Proofs.Ytgceaffcalkbgaa
open Go.RowKit
set_option linter.unusedSimpArgs false
set_option linter.unusedVariables false

set_option maxRecDepth 100000 in
set_option maxHeartbeats 2000000 in
theorem walk_FnExactFlatLength (a0 : Int) (a1 : Int) (w : World) (w0 : (Lit.int .i64 a0).wf = true) (w1 : (Lit.int .i64 a1).wf = true) :
    Calls Try.prog 11 #[.int .i64 a0, .int .i64 a1] w fun e w' => e = .returned (.bool true) ∧ Below w.heap.size w w' := by
  go_enter Try.func11, Try.ntmps11
  have hB0 := Below.refl w.heap.size w
  have s0 := hB0.size
  go_wp2_with fail
  refine (specFlat_any a0 a1 _).mono ?_
  rintro e w1 ⟨rfl, hb1⟩
  have z1 := hb1.size
  have hB1 := hB0.trans (hb1.mono hB0.size)
  have s1 := hB1.size
  go_wp2_with fail
  refine (implFlat_any a0 a1 _).mono ?_
  rintro e w2 ⟨rfl, hb2⟩
  have z2 := hb2.size
  have hB2 := hB1.trans (hb2.mono hB1.size)
  have s2 := hB2.size
  go_wp2
  go_ret
  exact ⟨rfl, hB2⟩

set_option maxRecDepth 100000 in
set_option maxHeartbeats 2000000 in
theorem walk_FnExactCostOf (a0 : Option Addr) (len0 cap0 : Nat) (z0 : List Int) (a1 : Option Addr) (len1 cap1 : Nat) (z1 : List Int) (w : World) (w0 : IsRow .i64 w a0 len0 cap0 z0) (w1 : IsRow .i64 w a1 len1 cap1 z1) :
    Calls Try.prog 7 #[.slice a0 len0 cap0, .slice a1 len1 cap1] w fun e w' => e = .returned (.bool true) ∧ Below w.heap.size w w' := by
  have hx0 := w0.rdc
  have hl0 := w0.len
  have hm0 := hx0.rd.max
  unfold maxLen at hm0
  rw [hl0] at hm0
  obtain ⟨zs0, hzs0⟩ : ∃ zs, zs = z0.take len0 := ⟨_, rfl⟩
  rw [← hzs0] at hx0 hl0
  have HX0 := Lib.hid hx0
  clear hzs0 w0 hx0
  have hx1 := w1.rdc
  have hl1 := w1.len
  have hm1 := hx1.rd.max
  unfold maxLen at hm1
  rw [hl1] at hm1
  obtain ⟨zs1, hzs1⟩ : ∃ zs, zs = z1.take len1 := ⟨_, rfl⟩
  rw [← hzs1] at hx1 hl1
  have HX1 := Lib.hid hx1
  clear hzs1 w1 hx1
  by_cases hlong0 : 1048576 < len0
  · clear hl0
    go_enter Try.func7, Try.ntmps7
    go_wp2
    go_ret
    exact ⟨rfl, Below.refl _ _⟩
  · have hlz0 : zs0.length ≤ 1048576 := by rw [hl0]; omega
    clear hl0
    by_cases hlong1 : 1048576 < len1
    · clear hl1
      go_enter Try.func7, Try.ntmps7
      go_wp2
      go_ret
      exact ⟨rfl, Below.refl _ _⟩
    · have hlz1 : zs1.length ≤ 1048576 := by rw [hl1]; omega
      clear hl1
      go_enter Try.func7, Try.ntmps7
      have hB0 := Below.refl w.heap.size w
      have s0 := hB0.size
      go_wp2_with fail
      refine (toIntS_i _ zs0 _ (by omega) (HX0.out.later hB0).rd).mono ?_
      rintro e w1 ⟨v_p0, rfl, p0, hb1⟩
      have z1 := hb1.size
      have hB1 := hB0.trans (hb1.mono hB0.size)
      have s1 := hB1.size
      go_wp2_with fail
      refine (toIntS_i _ zs1 _ (by omega) (HX1.out.later hB1).rd).mono ?_
      rintro e w2 ⟨v_p1, rfl, p1, hb2⟩
      have z2 := hb2.size
      have p0 := p0.later hb2
      have hB2 := hB1.trans (hb2.mono hB1.size)
      have s2 := hB2.size
      go_wp2_with fail
      refine (specCost_any _ _ zs0 zs1 _ p0.rdc.rd p1.rdc.rd).mono ?_
      rintro e w3 ⟨rfl, hb3⟩
      have z3 := hb3.size
      have p0 := p0.later hb3
      have p1 := p1.later hb3
      have hB3 := hB2.trans (hb3.mono hB2.size)
      have s3 := hB3.size
      go_wp2_with fail
      refine (toIntS_i _ zs0 _ (by omega) (HX0.out.later hB3).rd).mono ?_
      rintro e w4 ⟨v_x0, rfl, x0, hb4⟩
      have z4 := hb4.size
      have p0 := p0.later hb4
      have p1 := p1.later hb4
      have hB4 := hB3.trans (hb4.mono hB3.size)
      have s4 := hB4.size
      go_wp2_with fail
      refine (toIntS_i _ zs1 _ (by omega) (HX1.out.later hB4).rd).mono ?_
      rintro e w5 ⟨v_x1, rfl, x1, hb5⟩
      have z5 := hb5.size
      have p0 := p0.later hb5
      have p1 := p1.later hb5
      have x0 := x0.later hb5
      have hB5 := hB4.trans (hb5.mono hB4.size)
      have s5 := hB5.size
      go_wp2_with fail
      refine (implCost_any _ _ zs0 zs1 _ x0.rdc.rd x1.rdc.rd).mono ?_
      rintro e w6 ⟨rfl, hb6⟩
      have z6 := hb6.size
      have p0 := p0.later hb6
      have p1 := p1.later hb6
      have x0 := x0.later hb6
      have x1 := x1.later hb6
      have hB6 := hB5.trans (hb6.mono hB5.size)
      have s6 := hB6.size
      go_wp2_with fail
      refine (toIntS_i _ zs0 _ (by omega) (HX0.out.later hB6).rd).mono ?_
      rintro e w7 ⟨v_q0, rfl, q0, hb7⟩
      have z7 := hb7.size
      have p0 := p0.later hb7
      have p1 := p1.later hb7
      have x0 := x0.later hb7
      have x1 := x1.later hb7
      have hB7 := hB6.trans (hb7.mono hB6.size)
      have s7 := hB7.size
      go_wp2_with fail
      refine (eqIntS_b _ _ zs0 _ x0.rd q0.rd).mono ?_
      rintro e w8 ⟨rfl, hb8⟩
      have z8 := hb8.size
      have p0 := p0.later hb8
      have p1 := p1.later hb8
      have x0 := x0.later hb8
      have x1 := x1.later hb8
      have q0 := q0.later hb8
      have hB8 := hB7.trans (hb8.mono hB7.size)
      have s8 := hB8.size
      go_wp2_with fail
      refine (toIntS_i _ zs1 _ (by omega) (HX1.out.later hB8).rd).mono ?_
      rintro e w9 ⟨v_q1, rfl, q1, hb9⟩
      have z9 := hb9.size
      have p0 := p0.later hb9
      have p1 := p1.later hb9
      have x0 := x0.later hb9
      have x1 := x1.later hb9
      have q0 := q0.later hb9
      have hB9 := hB8.trans (hb9.mono hB8.size)
      have s9 := hB9.size
      go_wp2_with fail
      refine (eqIntS_b _ _ zs1 _ x1.rd q1.rd).mono ?_
      rintro e w10 ⟨rfl, hb10⟩
      have z10 := hb10.size
      have p0 := p0.later hb10
      have p1 := p1.later hb10
      have x0 := x0.later hb10
      have x1 := x1.later hb10
      have q0 := q0.later hb10
      have q1 := q1.later hb10
      have hB10 := hB9.trans (hb10.mono hB9.size)
      have s10 := hB10.size
      go_wp2
      go_ret
      exact ⟨rfl, hB10⟩

set_option maxRecDepth 100000 in
set_option maxHeartbeats 2000000 in
theorem walk_FnExactKraftSum (a0 : Option Addr) (len0 cap0 : Nat) (z0 : List Int) (a1 : Int) (w : World) (w0 : IsRow .i64 w a0 len0 cap0 z0) (w1 : (Lit.int .i64 a1).wf = true) :
    Calls Try.prog 8 #[.slice a0 len0 cap0, .int .i64 a1] w fun e w' => e = .returned (.bool true) ∧ Below w.heap.size w w' := by
  have hx0 := w0.rdc
  have hl0 := w0.len
  have hm0 := hx0.rd.max
  unfold maxLen at hm0
  rw [hl0] at hm0
  obtain ⟨zs0, hzs0⟩ : ∃ zs, zs = z0.take len0 := ⟨_, rfl⟩
  rw [← hzs0] at hx0 hl0
  have HX0 := Lib.hid hx0
  clear hzs0 w0 hx0
  by_cases hlong0 : 1048576 < len0
  · clear hl0
    go_enter Try.func8, Try.ntmps8
    go_wp2
    go_ret
    exact ⟨rfl, Below.refl _ _⟩
  · have hlz0 : zs0.length ≤ 1048576 := by rw [hl0]; omega
    clear hl0
    go_enter Try.func8, Try.ntmps8
    have hB0 := Below.refl w.heap.size w
    have s0 := hB0.size
    go_wp2_with fail
    refine (toIntS_i _ zs0 _ (by omega) (HX0.out.later hB0).rd).mono ?_
    rintro e w1 ⟨v_p0, rfl, p0, hb1⟩
    have z1 := hb1.size
    have hB1 := hB0.trans (hb1.mono hB0.size)
    have s1 := hB1.size
    go_wp2_with fail
    refine (specKraft_any _ zs0 a1 _ p0.rdc.rd).mono ?_
    rintro e w2 ⟨rfl, hb2⟩
    have z2 := hb2.size
    have p0 := p0.later hb2
    have hB2 := hB1.trans (hb2.mono hB1.size)
    have s2 := hB2.size
    go_wp2_with fail
    refine (toIntS_i _ zs0 _ (by omega) (HX0.out.later hB2).rd).mono ?_
    rintro e w3 ⟨v_x0, rfl, x0, hb3⟩
    have z3 := hb3.size
    have p0 := p0.later hb3
    have hB3 := hB2.trans (hb3.mono hB2.size)
    have s3 := hB3.size
    go_wp2_with fail
    refine (implKraft_any _ zs0 a1 _ x0.rdc.rd).mono ?_
    rintro e w4 ⟨rfl, hb4⟩
    have z4 := hb4.size
    have p0 := p0.later hb4
    have x0 := x0.later hb4
    have hB4 := hB3.trans (hb4.mono hB3.size)
    have s4 := hB4.size
    go_wp2_with fail
    refine (toIntS_i _ zs0 _ (by omega) (HX0.out.later hB4).rd).mono ?_
    rintro e w5 ⟨v_q0, rfl, q0, hb5⟩
    have z5 := hb5.size
    have p0 := p0.later hb5
    have x0 := x0.later hb5
    have hB5 := hB4.trans (hb5.mono hB4.size)
    have s5 := hB5.size
    go_wp2_with fail
    refine (eqIntS_b _ _ zs0 _ x0.rd q0.rd).mono ?_
    rintro e w6 ⟨rfl, hb6⟩
    have z6 := hb6.size
    have p0 := p0.later hb6
    have x0 := x0.later hb6
    have q0 := q0.later hb6
    have hB6 := hB5.trans (hb6.mono hB5.size)
    have s6 := hB6.size
    go_wp2
    go_ret
    exact ⟨rfl, hB6⟩

set_option maxRecDepth 100000 in
set_option maxHeartbeats 2000000 in
theorem walk_FnExactHasCode (a0 : Option Addr) (len0 cap0 : Nat) (z0 : List Int) (a1 : Int) (w : World) (w0 : IsRow .i64 w a0 len0 cap0 z0) (w1 : (Lit.int .i64 a1).wf = true) :
    Calls Try.prog 9 #[.slice a0 len0 cap0, .int .i64 a1] w fun e w' => e = .returned (.bool true) ∧ Below w.heap.size w w' := by
  have hx0 := w0.rdc
  have hl0 := w0.len
  have hm0 := hx0.rd.max
  unfold maxLen at hm0
  rw [hl0] at hm0
  obtain ⟨zs0, hzs0⟩ : ∃ zs, zs = z0.take len0 := ⟨_, rfl⟩
  rw [← hzs0] at hx0 hl0
  have HX0 := Lib.hid hx0
  clear hzs0 w0 hx0
  by_cases hlong0 : 1048576 < len0
  · clear hl0
    go_enter Try.func9, Try.ntmps9
    go_wp2
    go_ret
    exact ⟨rfl, Below.refl _ _⟩
  · have hlz0 : zs0.length ≤ 1048576 := by rw [hl0]; omega
    clear hl0
    go_enter Try.func9, Try.ntmps9
    have hB0 := Below.refl w.heap.size w
    have s0 := hB0.size
    go_wp2_with fail
    refine (toIntS_i _ zs0 _ (by omega) (HX0.out.later hB0).rd).mono ?_
    rintro e w1 ⟨v_p0, rfl, p0, hb1⟩
    have z1 := hb1.size
    have hB1 := hB0.trans (hb1.mono hB0.size)
    have s1 := hB1.size
    go_wp2_with fail
    refine (specHas_any _ zs0 a1 _ p0.rdc.rd).mono ?_
    rintro e w2 ⟨rfl, hb2⟩
    have z2 := hb2.size
    have p0 := p0.later hb2
    have hB2 := hB1.trans (hb2.mono hB1.size)
    have s2 := hB2.size
    go_wp2_with fail
    refine (toIntS_i _ zs0 _ (by omega) (HX0.out.later hB2).rd).mono ?_
    rintro e w3 ⟨v_x0, rfl, x0, hb3⟩
    have z3 := hb3.size
    have p0 := p0.later hb3
    have hB3 := hB2.trans (hb3.mono hB2.size)
    have s3 := hB3.size
    go_wp2_with fail
    refine (implHas_any _ zs0 a1 _ x0.rdc.rd).mono ?_
    rintro e w4 ⟨rfl, hb4⟩
    have z4 := hb4.size
    have p0 := p0.later hb4
    have x0 := x0.later hb4
    have hB4 := hB3.trans (hb4.mono hB3.size)
    have s4 := hB4.size
    go_wp2_with fail
    refine (toIntS_i _ zs0 _ (by omega) (HX0.out.later hB4).rd).mono ?_
    rintro e w5 ⟨v_q0, rfl, q0, hb5⟩
    have z5 := hb5.size
    have p0 := p0.later hb5
    have x0 := x0.later hb5
    have hB5 := hB4.trans (hb5.mono hB4.size)
    have s5 := hB5.size
    go_wp2_with fail
    refine (eqIntS_b _ _ zs0 _ x0.rd q0.rd).mono ?_
    rintro e w6 ⟨rfl, hb6⟩
    have z6 := hb6.size
    have p0 := p0.later hb6
    have x0 := x0.later hb6
    have q0 := q0.later hb6
    have hB6 := hB5.trans (hb6.mono hB5.size)
    have s6 := hB6.size
    go_wp2
    go_ret
    exact ⟨rfl, hB6⟩
end Go.Proofs.Ytgceaffcalkbgaa
