/- Chapter 7: the exact law of BlockedBy. Written by a generator of this claim's author. -/
import Derived.Test.YtkdmjeonlghnjaaSi5
import Derived.Test.YtkdmjeonlghnjaaRows
import Derived.Deep.RegionHeld3
namespace Go.Proofs.Ytkdmjeonlghnjaa
open Go.RowKit
set_option linter.unusedSimpArgs false
set_option linter.unusedVariables false

set_option maxRecDepth 100000 in
set_option maxHeartbeats 4000000 in
theorem walk_FnExactBlockedBy (D A B : Int) (c : Value) (ts : List T2) (a1 : Int) (w : World) (hr : RdR c2 2 w c ts) (w1f : (Lit.int .i64 a1).wf = true) :
    Calls Try.prog 9 #[.agg #[.int .i64 D, .int .i64 A, .int .i64 B, c], .int .i64 a1] w fun e w' => e = .returned (.bool true) ∧ Below w.heap.size w w' := by
  have hm0 : (ts.length : Int) ≤ 9223372036854775807 := by have := hr.max; unfold maxLen at this; omega
  obtain ⟨a, pc, rfl, hpc⟩ := hr.len
  obtain ⟨n, hn⟩ : ∃ n, n = ts.length := ⟨_, rfl⟩
  rw [← hn] at hr hpc
  rw [← hn]
  clear hn hpc
  have N0 := SB.start (D := D) (A := A) (B := B) hr 54
  have q0 := N0.q0
  have q1 := N0.q1
  have q2 := N0.q2
  have q3 := N0.q3
  have HR := Lib.hid hr
  clear hr
  obtain ⟨LL, hLL⟩ : ∃ LL, LL = bkR D A B a1 ts := ⟨_, rfl⟩
  have hlL : LL.length ≤ 1000000 := by rw [hLL]; exact (by have := bkR_len D A B a1 ts; omega)
  have HLL := Lib.hid hLL
  clear hLL
  go_enter Try.func9, Try.ntmps9
  go_wp2_with fail
  refine (szSight_any D A B _ ts _ _ (by omega) (by omega) N0.rd).mono ?_
  rintro e w1 ⟨hb1, r, rfl, hrr⟩
  have N1 := N0.next hb1
  have q0 := N1.q0
  have q1 := N1.q1
  have q2 := N1.q2
  have q3 := N1.q3
  have z1 : w.heap.size < w1.heap.size := N1.lt
  rcases hrr with rfl | ⟨r0, hz0⟩
  · go_wp2
    go_ret
    exact ⟨rfl, N1.below⟩
  go_wp2_with fail
  refine (toSight_any D A B _ ts _ hz0 N1.rd).mono ?_
  rintro e w2 ⟨vp, rfl, p, hb2⟩
  have z2 := hb2.size
  have N2 := N1.next hb2
  have q0 := N2.q0
  have q1 := N2.q1
  have q2 := N2.q2
  have q3 := N2.q3
  obtain ⟨avp, cvp, rfl, -⟩ := p.1.rd.len
  go_wp2_with fail
  refine (specBlockedBy_any D A B a1 _ ts _ p.rd).mono ?_
  rintro e w3 ⟨rgs, rfl, gs, hb3⟩
  have z3 := hb3.size
  have p := p.later hb3
  have N3 := N2.next hb3
  have q0 := N3.q0
  have q1 := N3.q1
  have q2 := N3.q2
  have q3 := N3.q3
  rw [← HLL.out] at gs
  go_wp2_with fail
  refine (toSight_any D A B _ ts _ hz0 N3.rd).mono ?_
  rintro e w4 ⟨vx, rfl, x, hb4⟩
  have z4 := hb4.size
  have p := p.later hb4
  have gs := gs.later hb4
  have N4 := N3.next hb4
  have q0 := N4.q0
  have q1 := N4.q1
  have q2 := N4.q2
  have q3 := N4.q3
  obtain ⟨avx, cvx, rfl, -⟩ := x.1.rd.len
  have al4 := (Below.refl w4.heap.size w4).alloc (Nat.le_refl _) (.cells #[.int .i64 D, .int .i64 A, .int .i64 B, .slice avx ts.length cvx] 25)
  have bx := SB.start (D := D) (A := A) (B := B) x.rd 25
  have p := p.later al4
  have gs := gs.later al4
  have x := x.later al4
  have N4 := N4.next al4
  have q0 := N4.q0
  have q1 := N4.q1
  have q2 := N4.q2
  have q3 := N4.q3
  have bx0 := bx.q0
  have bx1 := bx.q1
  have bx2 := bx.q2
  have bx3 := bx.q3
  go_wp2_with fail
  refine (implBlockedBy_any D A B a1 _ ts _ x.rd).mono ?_
  rintro e w5 ⟨rgi, rfl, gi, hb5⟩
  have z5 := hb5.size
  simp only [World.size_alloc] at z5
  have p := p.later hb5
  have gs := gs.later hb5
  have x := x.later hb5
  have bx := bx.next hb5
  have N5 := N4.next hb5
  have q0 := N5.q0
  have q1 := N5.q1
  have q2 := N5.q2
  have q3 := N5.q3
  have bx0 := bx.q0
  have bx1 := bx.q1
  have bx2 := bx.q2
  have bx3 := bx.q3
  rw [← HLL.out] at gi
  simp only [World.size_alloc] at gi
  go_wp2_with fail
  refine (eqIntS_b _ _ LL _ gi.rd gs.rd).mono ?_
  rintro e w6 ⟨rfl, hb6⟩
  have z6 := hb6.size
  have p := p.later hb6
  have gs := gs.later hb6
  have x := x.later hb6
  have gi := gi.later hb6
  have bx := bx.next hb6
  have N6 := N5.next hb6
  have q0 := N6.q0
  have q1 := N6.q1
  have q2 := N6.q2
  have q3 := N6.q3
  have bx0 := bx.q0
  have bx1 := bx.q1
  have bx2 := bx.q2
  have bx3 := bx.q3
  have HX := Lib.hid (x.later (Below.refl w6.heap.size w6).drew)
  have ND := N6.drew
  have BD := bx.drew
  have HT := Lib.hid (toSight_any D A B _ ts w6.drew hz0 ND.rd)
  have KB : Hid (∀ y : World, Below w6.drew.heap.size w6.drew y → y.cell? ⟨w.heap.size, 0, none⟩ = some (.int .i64 D) ∧ y.cell? ⟨w.heap.size, 1, none⟩ = some (.int .i64 A) ∧ y.cell? ⟨w.heap.size, 2, none⟩ = some (.int .i64 B) ∧ y.cell? ⟨w.heap.size, 3, none⟩ = some (.slice a n pc) ∧ y.cell? ⟨w4.heap.size, 0, none⟩ = some (.int .i64 D) ∧ y.cell? ⟨w4.heap.size, 1, none⟩ = some (.int .i64 A) ∧ y.cell? ⟨w4.heap.size, 2, none⟩ = some (.int .i64 B) ∧ y.cell? ⟨w4.heap.size, 3, none⟩ = some (.slice avx ts.length cvx)) := Lib.hid fun y hb => ⟨(ND.next hb).q0, (ND.next hb).q1, (ND.next hb).q2, (ND.next hb).q3, (BD.next hb).q0, (BD.next hb).q1, (BD.next hb).q2, (BD.next hb).q3⟩
  have HEQ : Hid (∀ (y : World) (d : Value) (lo hi : Nat), Below w6.drew.heap.size w6.drew y → OwnG y lo hi d ts → Calls Try.prog 45 #[.agg #[.int .i64 D, .int .i64 A, .int .i64 B, .slice avx ts.length cvx], .agg #[.int .i64 D, .int .i64 A, .int .i64 B, d]] y fun e w' => e = .returned (.bool true) ∧ Below y.heap.size y w') := Lib.hid fun y d lo hi hb ho => eqSight_true D A B _ _ ts y (HX.out.later hb).rd ho.rd
  go_wp2_with fail
  go_region_held3 (fun y => y.cell? ⟨w.heap.size, 0, none⟩ = some (.int .i64 D) ∧ y.cell? ⟨w.heap.size, 1, none⟩ = some (.int .i64 A) ∧ y.cell? ⟨w.heap.size, 2, none⟩ = some (.int .i64 B) ∧ y.cell? ⟨w.heap.size, 3, none⟩ = some (.slice a n pc) ∧ y.cell? ⟨w4.heap.size, 0, none⟩ = some (.int .i64 D) ∧ y.cell? ⟨w4.heap.size, 1, none⟩ = some (.int .i64 A) ∧ y.cell? ⟨w4.heap.size, 2, none⟩ = some (.int .i64 B) ∧ y.cell? ⟨w4.heap.size, 3, none⟩ = some (.slice avx ts.length cvx))
    (first | go_keep | exact KB.out _ hba | exact KB.out _ hbb)
    (first
      | (go_at_call 44; (with_reducible refine (HT.out).mono ?_); rintro e wa ⟨qv, rfl, qo, hba⟩)
      | (go_at_call 45; (with_reducible refine (HEQ.out _ _ _ _ hba qo).mono ?_); rintro e w7 ⟨rfl, hbb'⟩; have hbb := hba.trans (hbb'.mono hba.size)))
  have hb7 := (Below.refl w6.heap.size w6).drew.trans (hbb.mono (Nat.le_refl _))
  clear hba hbb hbb' qo KB HEQ HT HX ND BD
  have z7 := hb7.size
  have p := p.later hb7
  have gs := gs.later hb7
  have x := x.later hb7
  have gi := gi.later hb7
  have bx := bx.next hb7
  have N7 := N6.next hb7
  have q0 := N7.q0
  have q1 := N7.q1
  have q2 := N7.q2
  have q3 := N7.q3
  have bx0 := bx.q0
  have bx1 := bx.q1
  have bx2 := bx.q2
  have bx3 := bx.q3
  go_wp2_with fail
  refine (markSight_any D A B w3.heap.size w4.heap.size _ ts 1 _ (by decide) (by decide) hz0 (by omega) x).mono ?_
  rintro e w8 ⟨rfl, x, hk8⟩
  have z8 := hk8.size
  have gs := gs.kept hk8 (by omega)
  have gi := gi.kept hk8 (by omega)
  have N8 := N7.nextB (hk8.below (by omega)) (by omega) (HR.out.below (N7.below.trans ((hk8.below (by omega)).mono (by omega))) (Nat.le_refl _))
  have q0 := N8.q0
  have q1 := N8.q1
  have q2 := N8.q2
  have q3 := N8.q3
  have hk0 : 0 ≤ 1 + 2 * (ts.length : Int) := by omega
  go_wp2_with fail
  refine (eqIntS_b _ _ LL _ gi.rd gs.rd).mono ?_
  rintro e w9 ⟨rfl, hb9⟩
  have z9 := hb9.size
  have gs := gs.later hb9
  have gi := gi.later hb9
  have N9 := N8.next hb9
  have q0 := N9.q0
  have q1 := N9.q1
  have q2 := N9.q2
  have q3 := N9.q3
  go_wp2_with fail
  refine (markIntS_i (w4.heap.size + 1) w5.heap.size _ LL 1 _ (by decide) (by decide) (by omega) gi).mono ?_
  rintro e w10 ⟨rfl, gi, hk10, -⟩
  have z10 := hk10.size
  have gs := gs.kept hk10 (by omega)
  have N10 := N9.nextB (hk10.below (by omega)) (by omega) (HR.out.below (N9.below.trans ((hk10.below (by omega)).mono (by omega))) (Nat.le_refl _))
  have q0 := N10.q0
  have q1 := N10.q1
  have q2 := N10.q2
  have q3 := N10.q3
  have hqL : 0 ≤ 1 + (LL.length : Int) := by omega
  go_wp2_with fail
  refine (heldIntS_any _ LL.length 1 _ (by decide) (by decide) (by omega) gi.rd).mono ?_
  rintro e we ⟨rfl, rfl⟩
  go_wp2_with fail
  refine (toSight_any D A B _ ts _ hz0 N10.rd).mono ?_
  rintro e w11 ⟨vy, rfl, y, hb11⟩
  have z11 := hb11.size
  have gs := gs.later hb11
  have gi := gi.later hb11
  have N11 := N10.next hb11
  have q0 := N11.q0
  have q1 := N11.q1
  have q2 := N11.q2
  have q3 := N11.q3
  obtain ⟨avy, cvy, rfl, -⟩ := y.1.rd.len
  go_wp2_with fail
  refine (implBlockedBy_any D A B a1 _ ts _ y.rd).mono ?_
  rintro e w12 ⟨rgz, rfl, gz, hb12⟩
  have z12 := hb12.size
  have gs := gs.later hb12
  have gi := gi.later hb12
  have y := y.later hb12
  have N12 := N11.next hb12
  have q0 := N12.q0
  have q1 := N12.q1
  have q2 := N12.q2
  have q3 := N12.q3
  rw [← HLL.out] at gz
  go_wp2_with fail
  refine (eqIntS_b _ _ LL _ gz.rd gs.rd).mono ?_
  rintro e w13 ⟨rfl, hb13⟩
  have z13 := hb13.size
  have gs := gs.later hb13
  have gi := gi.later hb13
  have y := y.later hb13
  have gz := gz.later hb13
  have N13 := N12.next hb13
  have q0 := N13.q0
  have q1 := N13.q1
  have q2 := N13.q2
  have q3 := N13.q3
  go_wp2_with fail
  refine (heldIntS_any _ LL.length 1 _ (by decide) (by decide) (by omega) gi.rd).mono ?_
  rintro e we ⟨rfl, rfl⟩
  go_wp2
  go_ret
  exact ⟨rfl, N13.below⟩
end Go.Proofs.Ytkdmjeonlghnjaa
