/- Chapter 6: the exact law of NetText. Written by a generator of this claim's author. -/
import Derived.Test.YtfmmkiijohnbfaaDoorNeL
import Derived.Test.YtfmmkiijohnbfaaDoorNt5
import Derived.Test.YtfmmkiijohnbfaaDoorRows
import Derived.Deep.RegionHeld3
namespace Go.Proofs.YtfmmkiijohnbfaaDoor
open Go.RowKit
set_option linter.unusedSimpArgs false
set_option linter.unusedVariables false

set_option maxRecDepth 100000 in
set_option maxHeartbeats 4000000 in
theorem walk_FnExactNetText (c0 c1 : Value) (ts ls : List T3) (w : World) (hr : RdN w c0 c1 ts ls) (hT : TabW w) :
    Calls Tryd.prog 3 #[.agg #[c0, c1]] w fun e w' => e = .returned (.bool true) ∧ Below w.heap.size w w' := by
  have hm0 : (ts.length : Int) ≤ 9223372036854775807 := by have := hr.1.max; unfold maxLen at this; omega
  have hm1 : (ls.length : Int) ≤ 9223372036854775807 := by have := hr.2.max; unfold maxLen at this; omega
  obtain ⟨a0, p0, rfl, hp0⟩ := hr.1.len
  obtain ⟨aa, pp, rfl, hpp⟩ := hr.2.len
  obtain ⟨n, hn⟩ : ∃ n, n = ts.length := ⟨_, rfl⟩
  obtain ⟨m, hm⟩ : ∃ m, m = ls.length := ⟨_, rfl⟩
  rw [← hn] at hr hp0
  rw [← hm] at hr hpp
  rw [← hn, ← hm]
  clear hn hm hp0 hpp
  have N0 := NB.start hr 25
  have h0 := N0.b0
  have h1 := N0.b1
  have HR := Lib.hid hr
  clear hr
  go_enter Tryd.func3, Tryd.ntmps3
  go_wp2_with fail
  refine (szNet_any _ _ ts ls _ _ (by omega) (by omega) N0.rd).mono ?_
  rintro e w1 ⟨hb1, r, rfl, hrr⟩
  have N1 := N0.next hb1
  have h0 := N1.b0
  have h1 := N1.b1
  have z1 : w.heap.size < w1.heap.size := N1.lt
  rcases hrr with rfl | ⟨r0, hz0, hz1⟩
  · go_wp2
    go_ret
    exact ⟨rfl, N1.below⟩
  go_wp2_with fail
  refine (toNet_any _ _ ts ls _ hz0 hz1 N1.rd).mono ?_
  rintro e w2 ⟨vp, up, rfl, p, hb2⟩
  have z2 := hb2.size
  have N2 := N1.next hb2
  have h0 := N2.b0
  have h1 := N2.b1
  obtain ⟨avp, cvp, rfl, -⟩ := p.1.1.rd.len
  obtain ⟨aup, cup, rfl, -⟩ := p.2.1.rd.len
  go_wp2_with fail
  refine (specNetText_any _ _ ts ls _ p.rd).mono ?_
  rintro e w3 ⟨rfl, hb3⟩
  have z3 := hb3.size
  have p := p.later hb3
  have N3 := N2.next hb3
  have h0 := N3.b0
  have h1 := N3.b1
  go_wp2_with fail
  refine (toNet_any _ _ ts ls _ hz0 hz1 N3.rd).mono ?_
  rintro e w4 ⟨vx, ux, rfl, x, hb4⟩
  have z4 := hb4.size
  have p := p.later hb4
  have N4 := N3.next hb4
  have h0 := N4.b0
  have h1 := N4.b1
  obtain ⟨avx, cvx, rfl, -⟩ := x.1.1.rd.len
  obtain ⟨aux, cux, rfl, -⟩ := x.2.1.rd.len
  have al4 := (Below.refl w4.heap.size w4).alloc (Nat.le_refl _) (.cells #[.slice avx ts.length cvx, .slice aux ls.length cux] 32)
  have p := p.later al4
  have x := x.later al4
  have N4 := N4.next al4
  have h0 := N4.b0
  have h1 := N4.b1
  have bx := Box2.new w4 (.slice avx ts.length cvx) (.slice aux ls.length cux) 32
  have bx0 := bx.c0
  have bx1 := bx.c1
  go_wp2_with fail
  refine (implNetText_any _ _ ts ls _ x.rd (hT.later N4.below)).mono ?_
  rintro e w5 ⟨rfl, hb5⟩
  have z5 := hb5.size
  simp only [World.size_alloc] at z5
  have p := p.later hb5
  have x := x.later hb5
  have bx := bx.next hb5
  have N5 := N4.next hb5
  have h0 := N5.b0
  have h1 := N5.b1
  have bx0 := bx.c0
  have bx1 := bx.c1
  have HX := Lib.hid (x.later (Below.refl w5.heap.size w5).drew)
  have ND := N5.drew
  have BD := bx.next (Below.refl w5.heap.size w5).drew
  have HT := Lib.hid (toNet_any _ _ ts ls w5.drew hz0 hz1 ND.rd)
  have KB : Hid (∀ y : World, Below w5.drew.heap.size w5.drew y → y.cell? ⟨w.heap.size, 0, none⟩ = some (.slice a0 n p0) ∧ y.cell? ⟨w.heap.size, 1, none⟩ = some (.slice aa m pp) ∧ y.cell? ⟨w4.heap.size, 0, none⟩ = some (.slice avx ts.length cvx) ∧ y.cell? ⟨w4.heap.size, 1, none⟩ = some (.slice aux ls.length cux)) := Lib.hid fun y hb => ⟨(ND.next hb).b0, (ND.next hb).b1, (BD.next hb).c0, (BD.next hb).c1⟩
  have HEQ : Hid (∀ (y : World) (q0 q1 : Value) (B C : Nat), Below w5.drew.heap.size w5.drew y → OwnN y B C q0 q1 ts ls → Calls Tryd.prog 9 #[.agg #[.slice avx ts.length cvx, .slice aux ls.length cux], .agg #[q0, q1]] y fun e w' => e = .returned (.bool true) ∧ Below y.heap.size y w') := Lib.hid fun y q0 q1 B C hb ho => eqNet_true _ _ _ _ ts ls y (HX.out.later hb).rd ho.rd
  go_wp2_with fail
  go_region_held3 (fun w' => w'.cell? ⟨w.heap.size, 0, none⟩ = some (.slice a0 n p0) ∧ w'.cell? ⟨w.heap.size, 1, none⟩ = some (.slice aa m pp) ∧ w'.cell? ⟨w4.heap.size, 0, none⟩ = some (.slice avx ts.length cvx) ∧ w'.cell? ⟨w4.heap.size, 1, none⟩ = some (.slice aux ls.length cux))
    (first | go_keep | exact KB.out _ hba | exact KB.out _ hbb)
    (first
      | (go_at_call 7; (with_reducible refine (HT.out).mono ?_); rintro e wa ⟨q0, q1, rfl, qo, hba⟩)
      | (go_at_call 9; (with_reducible refine (HEQ.out _ _ _ _ _ hba qo).mono ?_); rintro e w6 ⟨rfl, hbb'⟩; have hbb := hba.trans (hbb'.mono hba.size)))
  have hb6 := (Below.refl w5.heap.size w5).drew.trans (hbb.mono (Nat.le_refl _))
  clear hba hbb hbb' qo KB HEQ HT HX ND BD
  have z6 := hb6.size
  have p := p.later hb6
  have x := x.later hb6
  have bx := bx.next hb6
  have N6 := N5.next hb6
  have h0 := N6.b0
  have h1 := N6.b1
  have bx0 := bx.c0
  have bx1 := bx.c1
  go_wp2
  go_ret
  exact ⟨rfl, N6.below⟩
end Go.Proofs.YtfmmkiijohnbfaaDoor
