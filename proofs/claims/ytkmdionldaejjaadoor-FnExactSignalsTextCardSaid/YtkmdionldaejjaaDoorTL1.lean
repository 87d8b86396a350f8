/- Chapter 1: the exact law of SignalsText. Written by a generator of this claim's author. -/
import Derived.Test.YtkmdionldaejjaaDoorIv
import Derived.Test.YtkmdionldaejjaaDoorTx3
import Derived.Test.YtkmdionldaejjaaDoorRows
namespace Go.Proofs.YtkmdionldaejjaaDoor
open Go.RowKit
set_option linter.unusedSimpArgs false
set_option linter.unusedVariables false

set_option maxRecDepth 100000 in
set_option maxHeartbeats 2000000 in
theorem walk_FnExactSignalsText (a0 : Option Addr) (len0 cap0 : Nat) (z0 : List Int) (w : World) (w0 : IsRow .i64 w a0 len0 cap0 z0) :
    Calls Tryd.prog 3 #[.slice a0 len0 cap0] w fun e w' => e = .returned (.bool true) ∧ Below w.heap.size w w' := by
  have hx0 := w0.rdc
  have hl0 := w0.len
  have hm0 := hx0.rd.max
  unfold maxLen at hm0
  rw [hl0] at hm0
  obtain ⟨zs0, hzs0⟩ : ∃ zs, zs = z0.take len0 := ⟨_, rfl⟩
  rw [← hzs0] at hx0 hl0
  have HX0 := Lib.hid hx0
  clear hzs0 w0 hx0
  by_cases hlong0 : 1048576 < len0
  · clear hl0
    go_enter Tryd.func3, Tryd.ntmps3
    go_wp2
    go_ret
    exact ⟨rfl, Below.refl _ _⟩
  · have hlz0 : zs0.length ≤ 1048576 := by rw [hl0]; omega
    clear hl0
    go_enter Tryd.func3, Tryd.ntmps3
    have hB0 := Below.refl w.heap.size w
    have s0 := hB0.size
    go_wp2_with fail
    refine (toIntS_i _ zs0 _ (by omega) (HX0.out.later hB0).rd).mono ?_
    rintro e w1 ⟨v_p0, rfl, p0, hb1⟩
    have z1 := hb1.size
    have hB1 := hB0.trans (hb1.mono hB0.size)
    have s1 := hB1.size
    go_wp2_with fail
    refine (specSignalsText_any _ zs0 _ p0.rdc.rd).mono ?_
    rintro e w2 ⟨rfl, hb2⟩
    have z2 := hb2.size
    have p0 := p0.later hb2
    have hB2 := hB1.trans (hb2.mono hB1.size)
    have s2 := hB2.size
    go_wp2_with fail
    refine (toIntS_i _ zs0 _ (by omega) (HX0.out.later hB2).rd).mono ?_
    rintro e w3 ⟨v_x0, rfl, x0, hb3⟩
    have z3 := hb3.size
    have p0 := p0.later hb3
    have hB3 := hB2.trans (hb3.mono hB2.size)
    have s3 := hB3.size
    go_wp2_with fail
    refine (implSignalsText_any _ zs0 _ x0.rdc.rd).mono ?_
    rintro e w4 ⟨rfl, hb4⟩
    have z4 := hb4.size
    have p0 := p0.later hb4
    have x0 := x0.later hb4
    have hB4 := hB3.trans (hb4.mono hB3.size)
    have s4 := hB4.size
    go_wp2_with fail
    refine (toIntS_i _ zs0 _ (by omega) (HX0.out.later hB4).rd).mono ?_
    rintro e w5 ⟨v_q0, rfl, q0, hb5⟩
    have z5 := hb5.size
    have p0 := p0.later hb5
    have x0 := x0.later hb5
    have hB5 := hB4.trans (hb5.mono hB4.size)
    have s5 := hB5.size
    go_wp2_with fail
    refine (eqIntS_b _ _ zs0 _ x0.rd q0.rd).mono ?_
    rintro e w6 ⟨rfl, hb6⟩
    have z6 := hb6.size
    have p0 := p0.later hb6
    have x0 := x0.later hb6
    have q0 := q0.later hb6
    have hB6 := hB5.trans (hb6.mono hB5.size)
    have s6 := hB6.size
    go_wp2
    go_ret
    exact ⟨rfl, hB6⟩
end Go.Proofs.YtkmdionldaejjaaDoor
