/- Chapter 7: the exact law of ReverseSight. Written by a generator of this claim's author. -/
import Derived.Test.YtkdmjeonlghnjaaSiD
import Derived.Test.YtkdmjeonlghnjaaRows
import Derived.Deep.RegionHeld3
namespace Go.Proofs.Ytkdmjeonlghnjaa
open Go.RowKit
set_option linter.unusedSimpArgs false
set_option linter.unusedVariables false

theorem Var4.kp {W W' : World} {b B C : Nat} {q0 q1 q2 q3 : Value} (h : Var4 W b q0 q1 q2 q3) (hk : Kp B C W W') (hx : b < B ∨ C ≤ b) : Var4 W' b q0 q1 q2 q3 :=
  ⟨Nat.lt_of_lt_of_le h.lt hk.size, by rw [World.cell?_of_block (a := ⟨b, 0, none⟩) (hk.block b h.lt hx)]; exact h.c0, by rw [World.cell?_of_block (a := ⟨b, 1, none⟩) (hk.block b h.lt hx)]; exact h.c1, by rw [World.cell?_of_block (a := ⟨b, 2, none⟩) (hk.block b h.lt hx)]; exact h.c2, by rw [World.cell?_of_block (a := ⟨b, 3, none⟩) (hk.block b h.lt hx)]; exact h.c3, fun j => by rw [World.frozen?_of_block (a := ⟨b, j, none⟩) (hk.block b h.lt hx)]; exact h.fz j⟩
set_option maxRecDepth 100000 in
set_option maxHeartbeats 8000000 in
theorem walk_FnExactReverseSight (D A B : Int) (c : Value) (ts : List T2) (w : World) (hr : RdR c2 2 w c ts) :
    Calls Try.prog 14 #[.agg #[.int .i64 D, .int .i64 A, .int .i64 B, c]] w fun e w' => e = .returned (.bool true) ∧ Below w.heap.size w w' := by
  have hm0 : (ts.length : Int) ≤ 9223372036854775807 := by have := hr.max; unfold maxLen at this; omega
  obtain ⟨a, pc, rfl, hpc⟩ := hr.len
  obtain ⟨n, hn⟩ : ∃ n, n = ts.length := ⟨_, rfl⟩
  rw [← hn] at hr hpc
  rw [← hn]
  clear hn hpc
  have N0 := SB.start (D := D) (A := A) (B := B) hr 54
  have q0 := N0.q0
  have q1 := N0.q1
  have q2 := N0.q2
  have q3 := N0.q3
  have HR := Lib.hid hr
  clear hr
  have HSP := Lib.hid (fun (c : Value) (w : World) (h : RdR c2 2 w c ts) => specReverseSight_any D A B c ts w h)
  have HIM := Lib.hid (fun (c : Value) (w : World) (h : RdR c2 2 w c ts) => implReverseSight_any D A B c ts w h)
  have hlL := rvL_len D A B ts
  generalize rvD D A B ts = RD at *
  generalize rvA D A B ts = RA at *
  generalize rvB D A B ts = RB at *
  generalize rvL D A B ts = RL at *
  generalize sightB D A B ts = CC at *
  go_enter Try.func14, Try.ntmps14
  go_wp2_with fail
  generalize w.alloc (.cells #[.int .i64 D, .int .i64 A, .int .i64 B, .slice a n pc] 54) = w0 at *
  refine (szSight_any D A B _ ts _ _ (by omega) (by omega) N0.rd).mono ?_
  rintro e w1 ⟨hb1, r, rfl, hrr⟩
  have N1 := N0.next hb1
  clear q0 q1 q2 q3
  have q0 := N1.q0
  have q1 := N1.q1
  have q2 := N1.q2
  have q3 := N1.q3
  have z1 : w.heap.size < w1.heap.size := N1.lt
  rcases hrr with rfl | ⟨r0, hz0⟩
  · go_wp2
    go_ret
    exact ⟨rfl, N1.below⟩
  go_wp2_with fail
  refine (toSight_any D A B _ ts _ hz0 N1.rd).mono ?_
  rintro e w2 ⟨vp, rfl, p, hb2⟩
  have z2 := hb2.size
  have N2 := N1.next hb2
  clear q0 q1 q2 q3
  have q0 := N2.q0
  have q1 := N2.q1
  have q2 := N2.q2
  have q3 := N2.q3
  obtain ⟨avp, cvp, rfl, -⟩ := p.1.rd.len
  go_wp2_with fail
  refine (HSP.out _ _ p.rd).mono ?_
  rintro e w3 ⟨vgs, rfl, gs, hb3⟩
  have z3 := hb3.size
  have p := p.later hb3
  have N3 := N2.next hb3
  clear q0 q1 q2 q3
  have q0 := N3.q0
  have q1 := N3.q1
  have q2 := N3.q2
  have q3 := N3.q3
  obtain ⟨avgs, cvgs, rfl, -⟩ := gs.1.rd.len
  have al3 := (Below.refl w3.heap.size w3).alloc (Nat.le_refl _) (.cells #[.int .i64 RD, .int .i64 RA, .int .i64 RB, .slice avgs RL.length cvgs] 25)
  have p := p.later al3
  have gs := gs.later al3
  have bs := Var4.new w3 (.int .i64 RD) (.int .i64 RA) (.int .i64 RB) (.slice avgs RL.length cvgs) 25
  have N4 := N3.next al3
  have zz3 := al3.size
  have zl3 := bs.lt
  clear q0 q1 q2 q3
  have q0 := N4.q0
  have q1 := N4.q1
  have q2 := N4.q2
  have q3 := N4.q3
  have bs0 := bs.c0
  have bs1 := bs.c1
  have bs2 := bs.c2
  have bs3 := bs.c3
  go_wp2_with fail
  generalize w3.alloc (.cells #[.int .i64 RD, .int .i64 RA, .int .i64 RB, .slice avgs RL.length cvgs] 25) = w4 at *
  clear p
  refine (toSight_any D A B _ ts _ hz0 N4.rd).mono ?_
  rintro e w5 ⟨vx, rfl, x, hb5⟩
  have z5 := hb5.size
  have gs := gs.later hb5
  have bs := bs.next hb5
  have N5 := N4.next hb5
  clear q0 q1 q2 q3 bs0 bs1 bs2 bs3
  have q0 := N5.q0
  have q1 := N5.q1
  have q2 := N5.q2
  have q3 := N5.q3
  have bs0 := bs.c0
  have bs1 := bs.c1
  have bs2 := bs.c2
  have bs3 := bs.c3
  obtain ⟨avx, cvx, rfl, -⟩ := x.1.rd.len
  have al5 := (Below.refl w5.heap.size w5).alloc (Nat.le_refl _) (.cells #[.int .i64 D, .int .i64 A, .int .i64 B, .slice avx ts.length cvx] 25)
  have gs := gs.later al5
  have x := x.later al5
  have bs := bs.next al5
  have bx := Var4.new w5 (.int .i64 D) (.int .i64 A) (.int .i64 B) (.slice avx ts.length cvx) 25
  have N6 := N5.next al5
  have zz5 := al5.size
  have zl5 := bx.lt
  clear q0 q1 q2 q3 bs0 bs1 bs2 bs3
  have q0 := N6.q0
  have q1 := N6.q1
  have q2 := N6.q2
  have q3 := N6.q3
  have bs0 := bs.c0
  have bs1 := bs.c1
  have bs2 := bs.c2
  have bs3 := bs.c3
  have bx0 := bx.c0
  have bx1 := bx.c1
  have bx2 := bx.c2
  have bx3 := bx.c3
  go_wp2_with fail
  generalize w5.alloc (.cells #[.int .i64 D, .int .i64 A, .int .i64 B, .slice avx ts.length cvx] 25) = w6 at *
  refine (HIM.out _ _ x.rd).mono ?_
  rintro e w7 ⟨vgi, rfl, gi, hb7⟩
  have z7 := hb7.size
  have gs := gs.later hb7
  have x := x.later hb7
  have bs := bs.next hb7
  have bx := bx.next hb7
  have N7 := N6.next hb7
  clear q0 q1 q2 q3 bs0 bs1 bs2 bs3 bx0 bx1 bx2 bx3
  have q0 := N7.q0
  have q1 := N7.q1
  have q2 := N7.q2
  have q3 := N7.q3
  have bs0 := bs.c0
  have bs1 := bs.c1
  have bs2 := bs.c2
  have bs3 := bs.c3
  have bx0 := bx.c0
  have bx1 := bx.c1
  have bx2 := bx.c2
  have bx3 := bx.c3
  obtain ⟨avgi, cvgi, rfl, -⟩ := gi.1.rd.len
  have al7 := (Below.refl w7.heap.size w7).alloc (Nat.le_refl _) (.cells #[.int .i64 RD, .int .i64 RA, .int .i64 RB, .slice avgi RL.length cvgi] 25)
  have gs := gs.later al7
  have x := x.later al7
  have gi := gi.later al7
  have bs := bs.next al7
  have bx := bx.next al7
  have bg := Var4.new w7 (.int .i64 RD) (.int .i64 RA) (.int .i64 RB) (.slice avgi RL.length cvgi) 25
  have N8 := N7.next al7
  have zz7 := al7.size
  have zl7 := bg.lt
  clear q0 q1 q2 q3 bs0 bs1 bs2 bs3 bx0 bx1 bx2 bx3
  have q0 := N8.q0
  have q1 := N8.q1
  have q2 := N8.q2
  have q3 := N8.q3
  have bs0 := bs.c0
  have bs1 := bs.c1
  have bs2 := bs.c2
  have bs3 := bs.c3
  have bx0 := bx.c0
  have bx1 := bx.c1
  have bx2 := bx.c2
  have bx3 := bx.c3
  have bg0 := bg.c0
  have bg1 := bg.c1
  have bg2 := bg.c2
  have bg3 := bg.c3
  go_wp2_with fail
  generalize w7.alloc (.cells #[.int .i64 RD, .int .i64 RA, .int .i64 RB, .slice avgi RL.length cvgi] 25) = w8 at *
  refine (eqSight_true RD RA RB _ _ RL _ gi.rd gs.rd).mono ?_
  rintro e w9 ⟨rfl, hb9⟩
  have z9 := hb9.size
  have gs := gs.later hb9
  have x := x.later hb9
  have gi := gi.later hb9
  have bs := bs.next hb9
  have bx := bx.next hb9
  have bg := bg.next hb9
  have N9 := N8.next hb9
  clear q0 q1 q2 q3 bs0 bs1 bs2 bs3 bx0 bx1 bx2 bx3 bg0 bg1 bg2 bg3
  have q0 := N9.q0
  have q1 := N9.q1
  have q2 := N9.q2
  have q3 := N9.q3
  have bs0 := bs.c0
  have bs1 := bs.c1
  have bs2 := bs.c2
  have bs3 := bs.c3
  have bx0 := bx.c0
  have bx1 := bx.c1
  have bx2 := bx.c2
  have bx3 := bx.c3
  have bg0 := bg.c0
  have bg1 := bg.c1
  have bg2 := bg.c2
  have bg3 := bg.c3
  have HX := Lib.hid (x.later (Below.refl w9.heap.size w9).drew)
  have ND := N9.drew
  have BD := bx.next (Below.refl w9.heap.size w9).drew
  have HT := Lib.hid (toSight_any D A B _ ts w9.drew hz0 ND.rd)
  have KB : Hid (∀ y : World, Below w9.drew.heap.size w9.drew y → y.cell? ⟨w.heap.size, 0, none⟩ = some (.int .i64 D) ∧ y.cell? ⟨w.heap.size, 1, none⟩ = some (.int .i64 A) ∧ y.cell? ⟨w.heap.size, 2, none⟩ = some (.int .i64 B) ∧ y.cell? ⟨w.heap.size, 3, none⟩ = some (.slice a n pc) ∧ y.cell? ⟨w5.heap.size, 0, none⟩ = some (.int .i64 D) ∧ y.cell? ⟨w5.heap.size, 1, none⟩ = some (.int .i64 A) ∧ y.cell? ⟨w5.heap.size, 2, none⟩ = some (.int .i64 B) ∧ y.cell? ⟨w5.heap.size, 3, none⟩ = some (.slice avx ts.length cvx)) := Lib.hid fun y hb => ⟨(ND.next hb).q0, (ND.next hb).q1, (ND.next hb).q2, (ND.next hb).q3, (BD.next hb).c0, (BD.next hb).c1, (BD.next hb).c2, (BD.next hb).c3⟩
  have HEQ : Hid (∀ (y : World) (d : Value) (lo hi : Nat), Below w9.drew.heap.size w9.drew y → OwnG y lo hi d ts → Calls Try.prog 45 #[.agg #[.int .i64 D, .int .i64 A, .int .i64 B, .slice avx ts.length cvx], .agg #[.int .i64 D, .int .i64 A, .int .i64 B, d]] y fun e w' => e = .returned (.bool true) ∧ Below y.heap.size y w') := Lib.hid fun y d lo hi hb ho => eqSight_true D A B _ _ ts y (HX.out.later hb).rd ho.rd
  go_wp2_with fail
  go_region_held3 (fun y => y.cell? ⟨w.heap.size, 0, none⟩ = some (.int .i64 D) ∧ y.cell? ⟨w.heap.size, 1, none⟩ = some (.int .i64 A) ∧ y.cell? ⟨w.heap.size, 2, none⟩ = some (.int .i64 B) ∧ y.cell? ⟨w.heap.size, 3, none⟩ = some (.slice a n pc) ∧ y.cell? ⟨w5.heap.size, 0, none⟩ = some (.int .i64 D) ∧ y.cell? ⟨w5.heap.size, 1, none⟩ = some (.int .i64 A) ∧ y.cell? ⟨w5.heap.size, 2, none⟩ = some (.int .i64 B) ∧ y.cell? ⟨w5.heap.size, 3, none⟩ = some (.slice avx ts.length cvx))
    (first | go_keep | exact KB.out _ hba | exact KB.out _ hbb)
    (first
      | (go_at_call 44; (with_reducible refine (HT.out).mono ?_); rintro e wa ⟨qv, rfl, qo, hba⟩)
      | (go_at_call 45; (with_reducible refine (HEQ.out _ _ _ _ hba qo).mono ?_); rintro e w10 ⟨rfl, hbb'⟩; have hbb := hba.trans (hbb'.mono hba.size)))
  have hb10 := (Below.refl w9.heap.size w9).drew.trans (hbb.mono (Nat.le_refl _))
  clear hba hbb hbb' qo KB HEQ HT HX ND BD
  have z10 := hb10.size
  have gs := gs.later hb10
  have x := x.later hb10
  have gi := gi.later hb10
  have bs := bs.next hb10
  have bx := bx.next hb10
  have bg := bg.next hb10
  have N10 := N9.next hb10
  clear q0 q1 q2 q3 bs0 bs1 bs2 bs3 bx0 bx1 bx2 bx3 bg0 bg1 bg2 bg3
  have q0 := N10.q0
  have q1 := N10.q1
  have q2 := N10.q2
  have q3 := N10.q3
  have bs0 := bs.c0
  have bs1 := bs.c1
  have bs2 := bs.c2
  have bs3 := bs.c3
  have bx0 := bx.c0
  have bx1 := bx.c1
  have bx2 := bx.c2
  have bx3 := bx.c3
  have bg0 := bg.c0
  have bg1 := bg.c1
  have bg2 := bg.c2
  have bg3 := bg.c3
  go_wp2_with fail
  refine (markSight_any D A B w4.heap.size w5.heap.size _ ts 1 _ (by decide) (by decide) (by omega) (by omega) x).mono ?_
  rintro e w11 ⟨rfl, x, hk11⟩
  have z11 := hk11.size
  have gs := gs.kept hk11 (by omega)
  have gi := gi.kept hk11 (by omega)
  have bs := bs.kp hk11 (by omega)
  have bx := bx.kp hk11 (by omega)
  have bg := bg.kp hk11 (by omega)
  have N11 := N10.nextB (hk11.below (by omega)) (by omega) (HR.out.below (N10.below.trans ((hk11.below (by omega)).mono (by omega))) (Nat.le_refl _))
  clear q0 q1 q2 q3 bs0 bs1 bs2 bs3 bx0 bx1 bx2 bx3 bg0 bg1 bg2 bg3
  have q0 := N11.q0
  have q1 := N11.q1
  have q2 := N11.q2
  have q3 := N11.q3
  have bs0 := bs.c0
  have bs1 := bs.c1
  have bs2 := bs.c2
  have bs3 := bs.c3
  have bx0 := bx.c0
  have bx1 := bx.c1
  have bx2 := bx.c2
  have bx3 := bx.c3
  have bg0 := bg.c0
  have bg1 := bg.c1
  have bg2 := bg.c2
  have bg3 := bg.c3
  have hk0 : 0 ≤ 1 + 2 * (ts.length : Int) := by omega
  go_wp2_with fail
  refine (eqSight_true RD RA RB _ _ RL _ gi.rd gs.rd).mono ?_
  rintro e w12 ⟨rfl, hb12⟩
  have z12 := hb12.size
  have gs := gs.later hb12
  have gi := gi.later hb12
  have bs := bs.next hb12
  have bx := bx.next hb12
  have bg := bg.next hb12
  have N12 := N11.next hb12
  clear q0 q1 q2 q3 bs0 bs1 bs2 bs3 bx0 bx1 bx2 bx3 bg0 bg1 bg2 bg3
  have q0 := N12.q0
  have q1 := N12.q1
  have q2 := N12.q2
  have q3 := N12.q3
  have bs0 := bs.c0
  have bs1 := bs.c1
  have bs2 := bs.c2
  have bs3 := bs.c3
  have bx0 := bx.c0
  have bx1 := bx.c1
  have bx2 := bx.c2
  have bx3 := bx.c3
  have bg0 := bg.c0
  have bg1 := bg.c1
  have bg2 := bg.c2
  have bg3 := bg.c3
  go_wp2_with fail
  refine (markSight_any RD RA RB w6.heap.size w7.heap.size _ RL 1 _ (by decide) (by decide) (by omega) (by omega) gi).mono ?_
  rintro e w13 ⟨rfl, gi, hk13⟩
  have z13 := hk13.size
  have gs := gs.kept hk13 (by omega)
  have bs := bs.kp hk13 (by omega)
  have bx := bx.kp hk13 (by omega)
  have bg := bg.kp hk13 (by omega)
  have N13 := N12.nextB (hk13.below (by omega)) (by omega) (HR.out.below (N12.below.trans ((hk13.below (by omega)).mono (by omega))) (Nat.le_refl _))
  clear q0 q1 q2 q3 bs0 bs1 bs2 bs3 bx0 bx1 bx2 bx3 bg0 bg1 bg2 bg3
  have q0 := N13.q0
  have q1 := N13.q1
  have q2 := N13.q2
  have q3 := N13.q3
  have bs0 := bs.c0
  have bs1 := bs.c1
  have bs2 := bs.c2
  have bs3 := bs.c3
  have bx0 := bx.c0
  have bx1 := bx.c1
  have bx2 := bx.c2
  have bx3 := bx.c3
  have bg0 := bg.c0
  have bg1 := bg.c1
  have bg2 := bg.c2
  have bg3 := bg.c3
  have hqL : 0 ≤ 1 + 2 * (RL.length : Int) := by omega
  go_wp2_with fail
  refine (heldSight_any RD RA RB _ RL.length 1 _ (by decide) (by decide) (by omega) gi.rd).mono ?_
  rintro e w14 ⟨rfl, hb14⟩
  have z14 := hb14.size
  have gs := gs.later hb14
  have gi := gi.later hb14
  have bs := bs.next hb14
  have bx := bx.next hb14
  have bg := bg.next hb14
  have N14 := N13.next hb14
  clear q0 q1 q2 q3 bs0 bs1 bs2 bs3 bx0 bx1 bx2 bx3 bg0 bg1 bg2 bg3
  have q0 := N14.q0
  have q1 := N14.q1
  have q2 := N14.q2
  have q3 := N14.q3
  have bs0 := bs.c0
  have bs1 := bs.c1
  have bs2 := bs.c2
  have bs3 := bs.c3
  have bx0 := bx.c0
  have bx1 := bx.c1
  have bx2 := bx.c2
  have bx3 := bx.c3
  have bg0 := bg.c0
  have bg1 := bg.c1
  have bg2 := bg.c2
  have bg3 := bg.c3
  go_wp2_with fail
  refine (toSight_any D A B _ ts _ hz0 N14.rd).mono ?_
  rintro e w15 ⟨vy, rfl, y, hb15⟩
  have z15 := hb15.size
  have gs := gs.later hb15
  have gi := gi.later hb15
  have bs := bs.next hb15
  have bx := bx.next hb15
  have bg := bg.next hb15
  have N15 := N14.next hb15
  clear q0 q1 q2 q3 bs0 bs1 bs2 bs3 bx0 bx1 bx2 bx3 bg0 bg1 bg2 bg3
  have q0 := N15.q0
  have q1 := N15.q1
  have q2 := N15.q2
  have q3 := N15.q3
  have bs0 := bs.c0
  have bs1 := bs.c1
  have bs2 := bs.c2
  have bs3 := bs.c3
  have bx0 := bx.c0
  have bx1 := bx.c1
  have bx2 := bx.c2
  have bx3 := bx.c3
  have bg0 := bg.c0
  have bg1 := bg.c1
  have bg2 := bg.c2
  have bg3 := bg.c3
  obtain ⟨avy, cvy, rfl, -⟩ := y.1.rd.len
  go_wp2_with fail
  refine (HIM.out _ _ y.rd).mono ?_
  rintro e w16 ⟨vgz, rfl, gz, hb16⟩
  have z16 := hb16.size
  have gs := gs.later hb16
  have gi := gi.later hb16
  have y := y.later hb16
  have bs := bs.next hb16
  have bx := bx.next hb16
  have bg := bg.next hb16
  have N16 := N15.next hb16
  clear q0 q1 q2 q3 bs0 bs1 bs2 bs3 bx0 bx1 bx2 bx3 bg0 bg1 bg2 bg3
  have q0 := N16.q0
  have q1 := N16.q1
  have q2 := N16.q2
  have q3 := N16.q3
  have bs0 := bs.c0
  have bs1 := bs.c1
  have bs2 := bs.c2
  have bs3 := bs.c3
  have bx0 := bx.c0
  have bx1 := bx.c1
  have bx2 := bx.c2
  have bx3 := bx.c3
  have bg0 := bg.c0
  have bg1 := bg.c1
  have bg2 := bg.c2
  have bg3 := bg.c3
  obtain ⟨avgz, cvgz, rfl, -⟩ := gz.1.rd.len
  have al16 := (Below.refl w16.heap.size w16).alloc (Nat.le_refl _) (.cells #[.int .i64 RD, .int .i64 RA, .int .i64 RB, .slice avgz RL.length cvgz] 25)
  have gs := gs.later al16
  have gi := gi.later al16
  have y := y.later al16
  have gz := gz.later al16
  have bs := bs.next al16
  have bx := bx.next al16
  have bg := bg.next al16
  have bz := Var4.new w16 (.int .i64 RD) (.int .i64 RA) (.int .i64 RB) (.slice avgz RL.length cvgz) 25
  have N17 := N16.next al16
  have zz16 := al16.size
  have zl16 := bz.lt
  clear q0 q1 q2 q3 bs0 bs1 bs2 bs3 bx0 bx1 bx2 bx3 bg0 bg1 bg2 bg3
  have q0 := N17.q0
  have q1 := N17.q1
  have q2 := N17.q2
  have q3 := N17.q3
  have bs0 := bs.c0
  have bs1 := bs.c1
  have bs2 := bs.c2
  have bs3 := bs.c3
  have bx0 := bx.c0
  have bx1 := bx.c1
  have bx2 := bx.c2
  have bx3 := bx.c3
  have bg0 := bg.c0
  have bg1 := bg.c1
  have bg2 := bg.c2
  have bg3 := bg.c3
  have bz0 := bz.c0
  have bz1 := bz.c1
  have bz2 := bz.c2
  have bz3 := bz.c3
  go_wp2_with fail
  generalize w16.alloc (.cells #[.int .i64 RD, .int .i64 RA, .int .i64 RB, .slice avgz RL.length cvgz] 25) = w17 at *
  refine (eqSight_true RD RA RB _ _ RL _ gz.rd gs.rd).mono ?_
  rintro e w18 ⟨rfl, hb18⟩
  have z18 := hb18.size
  have gs := gs.later hb18
  have gi := gi.later hb18
  have y := y.later hb18
  have gz := gz.later hb18
  have bs := bs.next hb18
  have bx := bx.next hb18
  have bg := bg.next hb18
  have bz := bz.next hb18
  have N18 := N17.next hb18
  clear q0 q1 q2 q3 bs0 bs1 bs2 bs3 bx0 bx1 bx2 bx3 bg0 bg1 bg2 bg3 bz0 bz1 bz2 bz3
  have q0 := N18.q0
  have q1 := N18.q1
  have q2 := N18.q2
  have q3 := N18.q3
  have bs0 := bs.c0
  have bs1 := bs.c1
  have bs2 := bs.c2
  have bs3 := bs.c3
  have bx0 := bx.c0
  have bx1 := bx.c1
  have bx2 := bx.c2
  have bx3 := bx.c3
  have bg0 := bg.c0
  have bg1 := bg.c1
  have bg2 := bg.c2
  have bg3 := bg.c3
  have bz0 := bz.c0
  have bz1 := bz.c1
  have bz2 := bz.c2
  have bz3 := bz.c3
  go_wp2_with fail
  refine (heldSight_any RD RA RB _ RL.length 1 _ (by decide) (by decide) (by omega) gi.rd).mono ?_
  rintro e w19 ⟨rfl, hb19⟩
  have z19 := hb19.size
  have gs := gs.later hb19
  have gi := gi.later hb19
  have y := y.later hb19
  have gz := gz.later hb19
  have bs := bs.next hb19
  have bx := bx.next hb19
  have bg := bg.next hb19
  have bz := bz.next hb19
  have N19 := N18.next hb19
  clear q0 q1 q2 q3 bs0 bs1 bs2 bs3 bx0 bx1 bx2 bx3 bg0 bg1 bg2 bg3 bz0 bz1 bz2 bz3
  have q0 := N19.q0
  have q1 := N19.q1
  have q2 := N19.q2
  have q3 := N19.q3
  have bs0 := bs.c0
  have bs1 := bs.c1
  have bs2 := bs.c2
  have bs3 := bs.c3
  have bx0 := bx.c0
  have bx1 := bx.c1
  have bx2 := bx.c2
  have bx3 := bx.c3
  have bg0 := bg.c0
  have bg1 := bg.c1
  have bg2 := bg.c2
  have bg3 := bg.c3
  have bz0 := bz.c0
  have bz1 := bz.c1
  have bz2 := bz.c2
  have bz3 := bz.c3
  go_wp2
  go_ret
  exact ⟨rfl, N19.below⟩
end Go.Proofs.Ytkdmjeonlghnjaa
