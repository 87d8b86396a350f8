/- Chapter 6: the exact laws of LongestLink and NeighboursOf. Written by a generator of this claim's author. -/
import Derived.Test.YteickcpmicifgaaNeL
import Derived.Test.YteickcpmicifgaaNeA
import Derived.Test.YteickcpmicifgaaRows
import Derived.Deep.RegionHeld3
namespace Go.Proofs.Yteickcpmicifgaa
open Go.RowKit
set_option linter.unusedSimpArgs false
set_option linter.unusedVariables false

set_option maxRecDepth 100000 in
set_option maxHeartbeats 4000000 in
theorem walk_FnExactLongestLink (c0 c1 : Value) (ts ls : List T3) (w : World) (hr : RdN w c0 c1 ts ls) :
    Calls Try.prog 9 #[.agg #[c0, c1]] w fun e w' => e = .returned (.bool true) ∧ Below w.heap.size w w' := by
  have hm0 : (ts.length : Int) ≤ 9223372036854775807 := by have := hr.1.max; unfold maxLen at this; omega
  have hm1 : (ls.length : Int) ≤ 9223372036854775807 := by have := hr.2.max; unfold maxLen at this; omega
  obtain ⟨a0, p0, rfl, hp0⟩ := hr.1.len
  obtain ⟨aa, pp, rfl, hpp⟩ := hr.2.len
  obtain ⟨n, hn⟩ : ∃ n, n = ts.length := ⟨_, rfl⟩
  obtain ⟨m, hm⟩ : ∃ m, m = ls.length := ⟨_, rfl⟩
  rw [← hn] at hr hp0
  rw [← hm] at hr hpp
  rw [← hn, ← hm]
  clear hn hm hp0 hpp
  have N0 := NB.start hr 25
  have h0 := N0.b0
  have h1 := N0.b1
  have HR := Lib.hid hr
  clear hr
  go_enter Try.func9, Try.ntmps9
  go_wp2_with fail
  refine (szNet_any _ _ ts ls _ _ (by omega) (by omega) N0.rd).mono ?_
  rintro e w1 ⟨hb1, r, rfl, hrr⟩
  have N1 := N0.next hb1
  have h0 := N1.b0
  have h1 := N1.b1
  have z1 : w.heap.size < w1.heap.size := N1.lt
  rcases hrr with rfl | ⟨r0, hz0, hz1⟩
  · go_wp2
    go_ret
    exact ⟨rfl, N1.below⟩
  go_wp2_with fail
  refine (toNet_any _ _ ts ls _ hz0 hz1 N1.rd).mono ?_
  rintro e w2 ⟨vp, up, rfl, p, hb2⟩
  have z2 := hb2.size
  have N2 := N1.next hb2
  have h0 := N2.b0
  have h1 := N2.b1
  obtain ⟨avp, cvp, rfl, -⟩ := p.1.1.rd.len
  obtain ⟨aup, cup, rfl, -⟩ := p.2.1.rd.len
  go_wp2_with fail
  refine (specLongestLink_any _ _ ts ls _ p.rd).mono ?_
  rintro e w3 ⟨rfl, hb3⟩
  have z3 := hb3.size
  have p := p.later hb3
  have N3 := N2.next hb3
  have h0 := N3.b0
  have h1 := N3.b1
  simp only [resZ]
  go_wp2_with fail
  refine (toNet_any _ _ ts ls _ hz0 hz1 N3.rd).mono ?_
  rintro e w4 ⟨vx, ux, rfl, x, hb4⟩
  have z4 := hb4.size
  have p := p.later hb4
  have N4 := N3.next hb4
  have h0 := N4.b0
  have h1 := N4.b1
  obtain ⟨avx, cvx, rfl, -⟩ := x.1.1.rd.len
  obtain ⟨aux, cux, rfl, -⟩ := x.2.1.rd.len
  have al4 := (Below.refl w4.heap.size w4).alloc (Nat.le_refl _) (.cells #[.slice avx ts.length cvx, .slice aux ls.length cux] 31)
  have p := p.later al4
  have x := x.later al4
  have N4 := N4.next al4
  have h0 := N4.b0
  have h1 := N4.b1
  have bx := Box2.new w4 (.slice avx ts.length cvx) (.slice aux ls.length cux) 31
  have bx0 := bx.c0
  have bx1 := bx.c1
  go_wp2_with fail
  refine (implLongestLink_any _ _ ts ls _ x.rd).mono ?_
  rintro e w5 ⟨rfl, hb5⟩
  have z5 := hb5.size
  simp only [World.size_alloc] at z5
  have p := p.later hb5
  have x := x.later hb5
  have bx := bx.next hb5
  have N5 := N4.next hb5
  have h0 := N5.b0
  have h1 := N5.b1
  have bx0 := bx.c0
  have bx1 := bx.c1
  simp only [resZ]
  have HX := Lib.hid (x.later (Below.refl w5.heap.size w5).drew)
  have ND := N5.drew
  have BD := bx.next (Below.refl w5.heap.size w5).drew
  have HT := Lib.hid (toNet_any _ _ ts ls w5.drew hz0 hz1 ND.rd)
  have KB : Hid (∀ y : World, Below w5.drew.heap.size w5.drew y → y.cell? ⟨w.heap.size, 0, none⟩ = some (.slice a0 n p0) ∧ y.cell? ⟨w.heap.size, 1, none⟩ = some (.slice aa m pp) ∧ y.cell? ⟨w4.heap.size, 0, none⟩ = some (.slice avx ts.length cvx) ∧ y.cell? ⟨w4.heap.size, 1, none⟩ = some (.slice aux ls.length cux)) := Lib.hid fun y hb => ⟨(ND.next hb).b0, (ND.next hb).b1, (BD.next hb).c0, (BD.next hb).c1⟩
  have HEQ : Hid (∀ (y : World) (q0 q1 : Value) (B C : Nat), Below w5.drew.heap.size w5.drew y → OwnN y B C q0 q1 ts ls → Calls Try.prog 17 #[.agg #[.slice avx ts.length cvx, .slice aux ls.length cux], .agg #[q0, q1]] y fun e w' => e = .returned (.bool true) ∧ Below y.heap.size y w') := Lib.hid fun y q0 q1 B C hb ho => eqNet_true _ _ _ _ ts ls y (HX.out.later hb).rd ho.rd
  go_wp2_with fail
  go_region_held3 (fun w' => w'.cell? ⟨w.heap.size, 0, none⟩ = some (.slice a0 n p0) ∧ w'.cell? ⟨w.heap.size, 1, none⟩ = some (.slice aa m pp) ∧ w'.cell? ⟨w4.heap.size, 0, none⟩ = some (.slice avx ts.length cvx) ∧ w'.cell? ⟨w4.heap.size, 1, none⟩ = some (.slice aux ls.length cux))
    (first | go_keep | exact KB.out _ hba | exact KB.out _ hbb)
    (first
      | (go_at_call 15; (with_reducible refine (HT.out).mono ?_); rintro e wa ⟨q0, q1, rfl, qo, hba⟩)
      | (go_at_call 17; (with_reducible refine (HEQ.out _ _ _ _ _ hba qo).mono ?_); rintro e w6 ⟨rfl, hbb'⟩; have hbb := hba.trans (hbb'.mono hba.size)))
  have hb6 := (Below.refl w5.heap.size w5).drew.trans (hbb.mono (Nat.le_refl _))
  clear hba hbb hbb' qo KB HEQ HT HX ND BD
  have z6 := hb6.size
  have p := p.later hb6
  have x := x.later hb6
  have bx := bx.next hb6
  have N6 := N5.next hb6
  have h0 := N6.b0
  have h1 := N6.b1
  have bx0 := bx.c0
  have bx1 := bx.c1
  go_wp2
  go_ret
  exact ⟨rfl, N6.below⟩

set_option maxRecDepth 100000 in
set_option maxHeartbeats 4000000 in
theorem walk_FnExactNeighboursOf (c0 c1 : Value) (ts ls : List T3) (a1 : Int) (w : World) (hr : RdN w c0 c1 ts ls) (w1f : (Lit.int .i64 a1).wf = true) :
    Calls Try.prog 5 #[.agg #[c0, c1], .int .i64 a1] w fun e w' => e = .returned (.bool true) ∧ Below w.heap.size w w' := by
  have hm0 : (ts.length : Int) ≤ 9223372036854775807 := by have := hr.1.max; unfold maxLen at this; omega
  have hm1 : (ls.length : Int) ≤ 9223372036854775807 := by have := hr.2.max; unfold maxLen at this; omega
  obtain ⟨a0, p0, rfl, hp0⟩ := hr.1.len
  obtain ⟨aa, pp, rfl, hpp⟩ := hr.2.len
  obtain ⟨n, hn⟩ : ∃ n, n = ts.length := ⟨_, rfl⟩
  obtain ⟨m, hm⟩ : ∃ m, m = ls.length := ⟨_, rfl⟩
  rw [← hn] at hr hp0
  rw [← hm] at hr hpp
  rw [← hn, ← hm]
  clear hn hm hp0 hpp
  have N0 := NB.start hr 25
  have h0 := N0.b0
  have h1 := N0.b1
  have HR := Lib.hid hr
  clear hr
  obtain ⟨LL, hLL⟩ : ∃ LL, LL = nbL ts ls a1 := ⟨_, rfl⟩
  have hlL : LL.length ≤ 1000000 := by rw [hLL]; exact (by have := nbL_len ts ls a1; omega)
  have HLL := Lib.hid hLL
  clear hLL
  go_enter Try.func5, Try.ntmps5
  go_wp2_with fail
  refine (szNet_any _ _ ts ls _ _ (by omega) (by omega) N0.rd).mono ?_
  rintro e w1 ⟨hb1, r, rfl, hrr⟩
  have N1 := N0.next hb1
  have h0 := N1.b0
  have h1 := N1.b1
  have z1 : w.heap.size < w1.heap.size := N1.lt
  rcases hrr with rfl | ⟨r0, hz0, hz1⟩
  · go_wp2
    go_ret
    exact ⟨rfl, N1.below⟩
  go_wp2_with fail
  refine (toNet_any _ _ ts ls _ hz0 hz1 N1.rd).mono ?_
  rintro e w2 ⟨vp, up, rfl, p, hb2⟩
  have z2 := hb2.size
  have N2 := N1.next hb2
  have h0 := N2.b0
  have h1 := N2.b1
  obtain ⟨avp, cvp, rfl, -⟩ := p.1.1.rd.len
  obtain ⟨aup, cup, rfl, -⟩ := p.2.1.rd.len
  go_wp2_with fail
  refine (specNeighboursOf_any _ _ ts ls a1 _ p.rd).mono ?_
  rintro e w3 ⟨rgs, rfl, gs, hb3⟩
  have z3 := hb3.size
  have p := p.later hb3
  have N3 := N2.next hb3
  have h0 := N3.b0
  have h1 := N3.b1
  rw [← HLL.out] at gs
  go_wp2_with fail
  refine (toNet_any _ _ ts ls _ hz0 hz1 N3.rd).mono ?_
  rintro e w4 ⟨vx, ux, rfl, x, hb4⟩
  have z4 := hb4.size
  have p := p.later hb4
  have gs := gs.later hb4
  have N4 := N3.next hb4
  have h0 := N4.b0
  have h1 := N4.b1
  obtain ⟨avx, cvx, rfl, -⟩ := x.1.1.rd.len
  obtain ⟨aux, cux, rfl, -⟩ := x.2.1.rd.len
  have al4 := (Below.refl w4.heap.size w4).alloc (Nat.le_refl _) (.cells #[.slice avx ts.length cvx, .slice aux ls.length cux] 31)
  have p := p.later al4
  have gs := gs.later al4
  have x := x.later al4
  have N4 := N4.next al4
  have h0 := N4.b0
  have h1 := N4.b1
  have bx := Box2.new w4 (.slice avx ts.length cvx) (.slice aux ls.length cux) 31
  have bx0 := bx.c0
  have bx1 := bx.c1
  go_wp2_with fail
  refine (implNeighboursOf_any _ _ ts ls a1 _ x.rd).mono ?_
  rintro e w5 ⟨rgi, rfl, gi, hb5⟩
  have z5 := hb5.size
  simp only [World.size_alloc] at z5
  have p := p.later hb5
  have gs := gs.later hb5
  have x := x.later hb5
  have bx := bx.next hb5
  have N5 := N4.next hb5
  have h0 := N5.b0
  have h1 := N5.b1
  have bx0 := bx.c0
  have bx1 := bx.c1
  rw [← HLL.out] at gi
  simp only [World.size_alloc] at gi
  go_wp2_with fail
  refine (eqIntS_b _ _ LL _ gi.rd gs.rd).mono ?_
  rintro e w6 ⟨rfl, hb6⟩
  have z6 := hb6.size
  have p := p.later hb6
  have gs := gs.later hb6
  have x := x.later hb6
  have gi := gi.later hb6
  have bx := bx.next hb6
  have N6 := N5.next hb6
  have h0 := N6.b0
  have h1 := N6.b1
  have bx0 := bx.c0
  have bx1 := bx.c1
  have HX := Lib.hid (x.later (Below.refl w6.heap.size w6).drew)
  have ND := N6.drew
  have BD := bx.next (Below.refl w6.heap.size w6).drew
  have HT := Lib.hid (toNet_any _ _ ts ls w6.drew hz0 hz1 ND.rd)
  have KB : Hid (∀ y : World, Below w6.drew.heap.size w6.drew y → y.cell? ⟨w.heap.size, 0, none⟩ = some (.slice a0 n p0) ∧ y.cell? ⟨w.heap.size, 1, none⟩ = some (.slice aa m pp) ∧ y.cell? ⟨w4.heap.size, 0, none⟩ = some (.slice avx ts.length cvx) ∧ y.cell? ⟨w4.heap.size, 1, none⟩ = some (.slice aux ls.length cux)) := Lib.hid fun y hb => ⟨(ND.next hb).b0, (ND.next hb).b1, (BD.next hb).c0, (BD.next hb).c1⟩
  have HEQ : Hid (∀ (y : World) (q0 q1 : Value) (B C : Nat), Below w6.drew.heap.size w6.drew y → OwnN y B C q0 q1 ts ls → Calls Try.prog 17 #[.agg #[.slice avx ts.length cvx, .slice aux ls.length cux], .agg #[q0, q1]] y fun e w' => e = .returned (.bool true) ∧ Below y.heap.size y w') := Lib.hid fun y q0 q1 B C hb ho => eqNet_true _ _ _ _ ts ls y (HX.out.later hb).rd ho.rd
  go_wp2_with fail
  go_region_held3 (fun w' => w'.cell? ⟨w.heap.size, 0, none⟩ = some (.slice a0 n p0) ∧ w'.cell? ⟨w.heap.size, 1, none⟩ = some (.slice aa m pp) ∧ w'.cell? ⟨w4.heap.size, 0, none⟩ = some (.slice avx ts.length cvx) ∧ w'.cell? ⟨w4.heap.size, 1, none⟩ = some (.slice aux ls.length cux))
    (first | go_keep | exact KB.out _ hba | exact KB.out _ hbb)
    (first
      | (go_at_call 15; (with_reducible refine (HT.out).mono ?_); rintro e wa ⟨q0, q1, rfl, qo, hba⟩)
      | (go_at_call 17; (with_reducible refine (HEQ.out _ _ _ _ _ hba qo).mono ?_); rintro e w7 ⟨rfl, hbb'⟩; have hbb := hba.trans (hbb'.mono hba.size)))
  have hb7 := (Below.refl w6.heap.size w6).drew.trans (hbb.mono (Nat.le_refl _))
  clear hba hbb hbb' qo KB HEQ HT HX ND BD
  have z7 := hb7.size
  have p := p.later hb7
  have gs := gs.later hb7
  have x := x.later hb7
  have gi := gi.later hb7
  have bx := bx.next hb7
  have N7 := N6.next hb7
  have h0 := N7.b0
  have h1 := N7.b1
  have bx0 := bx.c0
  have bx1 := bx.c1
  go_wp2_with fail
  refine (markNet_any w3.heap.size w4.heap.size _ _ ts ls 1 _ (by decide) (by decide) hz0 hz1 (by omega) x).mono ?_
  rintro e w8 ⟨rfl, x, hk8⟩
  have z8 := hk8.size
  have gs := gs.kept hk8 (by omega)
  have gi := gi.kept hk8 (by omega)
  have bx := bx.kp hk8 (.inr (by omega))
  have N8 := N7.nextB (hk8.below (by omega)) (by omega) HR.out
  have h0 := N8.b0
  have h1 := N8.b1
  have hk0 : 0 ≤ 1 + 3 * (ts.length : Int) + 3 * (ls.length : Int) := by omega
  go_wp2_with fail
  refine (eqIntS_b _ _ LL _ gi.rd gs.rd).mono ?_
  rintro e w9 ⟨rfl, hb9⟩
  have z9 := hb9.size
  have gs := gs.later hb9
  have gi := gi.later hb9
  have bx := bx.next hb9
  have N9 := N8.next hb9
  have h0 := N9.b0
  have h1 := N9.b1
  have bx0 := bx.c0
  have bx1 := bx.c1
  go_wp2_with fail
  refine (markIntS_i (w4.heap.size + 1) w5.heap.size _ LL 1 _ (by decide) (by decide) (by omega) gi).mono ?_
  rintro e w10 ⟨rfl, gi, hk10, -⟩
  have z10 := hk10.size
  have gs := gs.kept hk10 (by omega)
  have N10 := N9.nextB (hk10.below (by omega)) (by omega) HR.out
  have h0 := N10.b0
  have h1 := N10.b1
  have hqL : 0 ≤ 1 + (LL.length : Int) := by omega
  go_wp2_with fail
  refine (heldIntS_any _ LL.length 1 _ (by decide) (by decide) (by omega) gi.rd).mono ?_
  rintro e we ⟨rfl, rfl⟩
  go_wp2_with fail
  refine (toNet_any _ _ ts ls _ hz0 hz1 N10.rd).mono ?_
  rintro e w11 ⟨vy, uy, rfl, y, hb11⟩
  have z11 := hb11.size
  have gs := gs.later hb11
  have gi := gi.later hb11
  have N11 := N10.next hb11
  have h0 := N11.b0
  have h1 := N11.b1
  obtain ⟨avy, cvy, rfl, -⟩ := y.1.1.rd.len
  obtain ⟨auy, cuy, rfl, -⟩ := y.2.1.rd.len
  go_wp2_with fail
  refine (implNeighboursOf_any _ _ ts ls a1 _ y.rd).mono ?_
  rintro e w12 ⟨rgz, rfl, gz, hb12⟩
  have z12 := hb12.size
  have gs := gs.later hb12
  have gi := gi.later hb12
  have y := y.later hb12
  have N12 := N11.next hb12
  have h0 := N12.b0
  have h1 := N12.b1
  rw [← HLL.out] at gz
  go_wp2_with fail
  refine (eqIntS_b _ _ LL _ gz.rd gs.rd).mono ?_
  rintro e w13 ⟨rfl, hb13⟩
  have z13 := hb13.size
  have gs := gs.later hb13
  have gi := gi.later hb13
  have y := y.later hb13
  have gz := gz.later hb13
  have N13 := N12.next hb13
  have h0 := N13.b0
  have h1 := N13.b1
  go_wp2_with fail
  refine (heldIntS_any _ LL.length 1 _ (by decide) (by decide) (by omega) gi.rd).mono ?_
  rintro e we ⟨rfl, rfl⟩
  go_wp2
  go_ret
  exact ⟨rfl, N13.below⟩
end Go.Proofs.Yteickcpmicifgaa
