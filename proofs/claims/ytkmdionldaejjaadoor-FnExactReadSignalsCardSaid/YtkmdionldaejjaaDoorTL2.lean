/- Chapter 1: the exact law of ReadSignals. Written by a generator of this claim's author. -/
import Derived.Test.YtkmdionldaejjaaDoorIv
import Derived.Test.YtkmdionldaejjaaDoorTx9
import Derived.Test.YtkmdionldaejjaaDoorRows
namespace Go.Proofs.YtkmdionldaejjaaDoor
open Go.RowKit
set_option linter.unusedSimpArgs false
set_option linter.unusedVariables false

set_option maxRecDepth 100000 in
set_option maxHeartbeats 2000000 in
theorem walk_FnExactReadSignals (a0 : ByteArray) (w : World) (w0 : a0.size ≤ maxLen) (hT : TxW w) :
    Calls Tryd.prog 4 #[.string a0] w fun e w' => e = .returned (.bool true) ∧ Below w.heap.size w w' := by
  unfold maxLen at w0
  by_cases hlong0 : 1048576 < (a0.size : Int)
  · go_enter Tryd.func4, Tryd.ntmps4
    go_wp2
    go_ret
    exact ⟨rfl, Below.refl _ _⟩
  · have hlz0 : a0.size ≤ 1048576 := by omega
    obtain ⟨LL, hLL⟩ : ∃ LL, LL = rsL a0 := ⟨_, rfl⟩
    have hlL : LL.length ≤ 1000000 := by rw [hLL]; exact (by have := rsL_len a0; omega)
    have HLL := Lib.hid hLL
    clear hLL
    go_enter Tryd.func4, Tryd.ntmps4
    have hB0 := Below.refl w.heap.size w
    have s0 := hB0.size
    go_wp2_with fail
    refine (specReadSignals_any a0 _ (by omega)).mono ?_
    rintro e w1 ⟨v_gs, rfl, gs, hb1⟩
    have z1 := hb1.size
    have hB1 := hB0.trans (hb1.mono hB0.size)
    have s1 := hB1.size
    rw [← HLL.out] at gs
    go_wp2_with fail
    refine (implReadSignals_any a0 _ (by omega) (hT.below hB1 (Nat.le_refl _))).mono ?_
    rintro e w2 ⟨v_gi, rfl, gi, hb2⟩
    have z2 := hb2.size
    have gs := gs.later hb2
    have hB2 := hB1.trans (hb2.mono hB1.size)
    have s2 := hB2.size
    rw [← HLL.out] at gi
    go_wp2_with fail
    refine (eqIntS_b _ _ LL _ gi.rd gs.rd).mono ?_
    rintro e w3 ⟨rfl, hb3⟩
    have z3 := hb3.size
    have gs := gs.later hb3
    have gi := gi.later hb3
    have hB3 := hB2.trans (hb3.mono hB2.size)
    have s3 := hB3.size
    go_wp2_with fail
    refine (markIntS_i w1.heap.size w2.heap.size _ LL (1) _ (by omega) (by omega) (by omega) gi).mono ?_
    rintro e w4 ⟨rfl, gi, hk4, -⟩
    have z4 := hk4.size
    have gs := gs.kept hk4 (by omega)
    have hB4 := hB3.trans ((hk4.below (by omega)).mono (by omega))
    have s4 := hB4.size
    have hqL : 0 ≤ 1 + (LL.length : Int) := by omega
    go_wp2_with fail
    refine (heldIntS_any _ LL.length 1 _ (by decide) (by decide) (by omega) gi.rd).mono ?_
    rintro e we ⟨rfl, rfl⟩
    go_wp2_with fail
    refine (implReadSignals_any a0 _ (by omega) (hT.below hB4 (Nat.le_refl _))).mono ?_
    rintro e w5 ⟨v_gz, rfl, gz, hb5⟩
    have z5 := hb5.size
    have gs := gs.later hb5
    have gi := gi.later hb5
    have hB5 := hB4.trans (hb5.mono hB4.size)
    have s5 := hB5.size
    rw [← HLL.out] at gz
    go_wp2_with fail
    refine (eqIntS_b _ _ LL _ gz.rd gs.rd).mono ?_
    rintro e w6 ⟨rfl, hb6⟩
    have z6 := hb6.size
    have gs := gs.later hb6
    have gi := gi.later hb6
    have gz := gz.later hb6
    have hB6 := hB5.trans (hb6.mono hB5.size)
    have s6 := hB6.size
    go_wp2_with fail
    refine (heldIntS_any _ LL.length 1 _ (by decide) (by decide) (by omega) gi.rd).mono ?_
    rintro e we ⟨rfl, rfl⟩
    go_wp2
    go_ret
    exact ⟨rfl, hB6⟩
end Go.Proofs.YtkmdionldaejjaaDoor
