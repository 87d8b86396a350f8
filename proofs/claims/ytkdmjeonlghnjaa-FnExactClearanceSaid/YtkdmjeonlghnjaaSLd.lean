/- Chapter 7: the exact law of Clearance. Written by a generator of this claim's author. -/
import Derived.Test.YtkdmjeonlghnjaaSiA
import Derived.Test.YtkdmjeonlghnjaaRows
import Derived.Deep.RegionHeld3
namespace Go.Proofs.Ytkdmjeonlghnjaa
open Go.RowKit
set_option linter.unusedSimpArgs false
set_option linter.unusedVariables false

set_option maxRecDepth 100000 in
set_option maxHeartbeats 4000000 in
theorem walk_FnExactClearance (D A B : Int) (c : Value) (ts : List T2) (a1 : Int) (w : World) (hr : RdR c2 2 w c ts) (w1f : (Lit.int .i64 a1).wf = true) :
    Calls Try.prog 13 #[.agg #[.int .i64 D, .int .i64 A, .int .i64 B, c], .int .i64 a1] w fun e w' => e = .returned (.bool true) ∧ Below w.heap.size w w' := by
  have hm0 : (ts.length : Int) ≤ 9223372036854775807 := by have := hr.max; unfold maxLen at this; omega
  obtain ⟨a, pc, rfl, hpc⟩ := hr.len
  obtain ⟨n, hn⟩ : ∃ n, n = ts.length := ⟨_, rfl⟩
  rw [← hn] at hr hpc
  rw [← hn]
  clear hn hpc
  have N0 := SB.start (D := D) (A := A) (B := B) hr 54
  have q0 := N0.q0
  have q1 := N0.q1
  have q2 := N0.q2
  have q3 := N0.q3
  have HR := Lib.hid hr
  clear hr
  go_enter Try.func13, Try.ntmps13
  go_wp2_with fail
  refine (szSight_any D A B _ ts _ _ (by omega) (by omega) N0.rd).mono ?_
  rintro e w1 ⟨hb1, r, rfl, hrr⟩
  have N1 := N0.next hb1
  have q0 := N1.q0
  have q1 := N1.q1
  have q2 := N1.q2
  have q3 := N1.q3
  have z1 : w.heap.size < w1.heap.size := N1.lt
  rcases hrr with rfl | ⟨r0, hz0⟩
  · go_wp2
    go_ret
    exact ⟨rfl, N1.below⟩
  go_wp2_with fail
  refine (toSight_any D A B _ ts _ hz0 N1.rd).mono ?_
  rintro e w2 ⟨vp, rfl, p, hb2⟩
  have z2 := hb2.size
  have N2 := N1.next hb2
  have q0 := N2.q0
  have q1 := N2.q1
  have q2 := N2.q2
  have q3 := N2.q3
  obtain ⟨avp, cvp, rfl, -⟩ := p.1.rd.len
  go_wp2_with fail
  refine (specClearance_any D A B a1 _ ts _ p.rd).mono ?_
  rintro e w3 ⟨rfl, hb3⟩
  have z3 := hb3.size
  have p := p.later hb3
  have N3 := N2.next hb3
  have q0 := N3.q0
  have q1 := N3.q1
  have q2 := N3.q2
  have q3 := N3.q3
  go_wp2_with fail
  refine (toSight_any D A B _ ts _ hz0 N3.rd).mono ?_
  rintro e w4 ⟨vx, rfl, x, hb4⟩
  have z4 := hb4.size
  have p := p.later hb4
  have N4 := N3.next hb4
  have q0 := N4.q0
  have q1 := N4.q1
  have q2 := N4.q2
  have q3 := N4.q3
  obtain ⟨avx, cvx, rfl, -⟩ := x.1.rd.len
  have al4 := (Below.refl w4.heap.size w4).alloc (Nat.le_refl _) (.cells #[.int .i64 D, .int .i64 A, .int .i64 B, .slice avx ts.length cvx] 25)
  have bx := SB.start (D := D) (A := A) (B := B) x.rd 25
  have p := p.later al4
  have x := x.later al4
  have N4 := N4.next al4
  have q0 := N4.q0
  have q1 := N4.q1
  have q2 := N4.q2
  have q3 := N4.q3
  have bx0 := bx.q0
  have bx1 := bx.q1
  have bx2 := bx.q2
  have bx3 := bx.q3
  go_wp2_with fail
  refine (implClearance_any D A B a1 _ ts _ x.rd).mono ?_
  rintro e w5 ⟨rfl, hb5⟩
  have z5 := hb5.size
  simp only [World.size_alloc] at z5
  have p := p.later hb5
  have x := x.later hb5
  have bx := bx.next hb5
  have N5 := N4.next hb5
  have q0 := N5.q0
  have q1 := N5.q1
  have q2 := N5.q2
  have q3 := N5.q3
  have bx0 := bx.q0
  have bx1 := bx.q1
  have bx2 := bx.q2
  have bx3 := bx.q3
  have HX := Lib.hid (x.later (Below.refl w5.heap.size w5).drew)
  have ND := N5.drew
  have BD := bx.drew
  have HT := Lib.hid (toSight_any D A B _ ts w5.drew hz0 ND.rd)
  have KB : Hid (∀ y : World, Below w5.drew.heap.size w5.drew y → y.cell? ⟨w.heap.size, 0, none⟩ = some (.int .i64 D) ∧ y.cell? ⟨w.heap.size, 1, none⟩ = some (.int .i64 A) ∧ y.cell? ⟨w.heap.size, 2, none⟩ = some (.int .i64 B) ∧ y.cell? ⟨w.heap.size, 3, none⟩ = some (.slice a n pc) ∧ y.cell? ⟨w4.heap.size, 0, none⟩ = some (.int .i64 D) ∧ y.cell? ⟨w4.heap.size, 1, none⟩ = some (.int .i64 A) ∧ y.cell? ⟨w4.heap.size, 2, none⟩ = some (.int .i64 B) ∧ y.cell? ⟨w4.heap.size, 3, none⟩ = some (.slice avx ts.length cvx)) := Lib.hid fun y hb => ⟨(ND.next hb).q0, (ND.next hb).q1, (ND.next hb).q2, (ND.next hb).q3, (BD.next hb).q0, (BD.next hb).q1, (BD.next hb).q2, (BD.next hb).q3⟩
  have HEQ : Hid (∀ (y : World) (d : Value) (lo hi : Nat), Below w5.drew.heap.size w5.drew y → OwnG y lo hi d ts → Calls Try.prog 45 #[.agg #[.int .i64 D, .int .i64 A, .int .i64 B, .slice avx ts.length cvx], .agg #[.int .i64 D, .int .i64 A, .int .i64 B, d]] y fun e w' => e = .returned (.bool true) ∧ Below y.heap.size y w') := Lib.hid fun y d lo hi hb ho => eqSight_true D A B _ _ ts y (HX.out.later hb).rd ho.rd
  go_wp2_with fail
  go_region_held3 (fun y => y.cell? ⟨w.heap.size, 0, none⟩ = some (.int .i64 D) ∧ y.cell? ⟨w.heap.size, 1, none⟩ = some (.int .i64 A) ∧ y.cell? ⟨w.heap.size, 2, none⟩ = some (.int .i64 B) ∧ y.cell? ⟨w.heap.size, 3, none⟩ = some (.slice a n pc) ∧ y.cell? ⟨w4.heap.size, 0, none⟩ = some (.int .i64 D) ∧ y.cell? ⟨w4.heap.size, 1, none⟩ = some (.int .i64 A) ∧ y.cell? ⟨w4.heap.size, 2, none⟩ = some (.int .i64 B) ∧ y.cell? ⟨w4.heap.size, 3, none⟩ = some (.slice avx ts.length cvx))
    (first | go_keep | exact KB.out _ hba | exact KB.out _ hbb)
    (first
      | (go_at_call 44; (with_reducible refine (HT.out).mono ?_); rintro e wa ⟨qv, rfl, qo, hba⟩)
      | (go_at_call 45; (with_reducible refine (HEQ.out _ _ _ _ hba qo).mono ?_); rintro e w6 ⟨rfl, hbb'⟩; have hbb := hba.trans (hbb'.mono hba.size)))
  have hb6 := (Below.refl w5.heap.size w5).drew.trans (hbb.mono (Nat.le_refl _))
  clear hba hbb hbb' qo KB HEQ HT HX ND BD
  have z6 := hb6.size
  have p := p.later hb6
  have x := x.later hb6
  have bx := bx.next hb6
  have N6 := N5.next hb6
  have q0 := N6.q0
  have q1 := N6.q1
  have q2 := N6.q2
  have q3 := N6.q3
  have bx0 := bx.q0
  have bx1 := bx.q1
  have bx2 := bx.q2
  have bx3 := bx.q3
  go_wp2
  go_ret
  exact ⟨rfl, N6.below⟩
end Go.Proofs.Ytkdmjeonlghnjaa
