/- Chapter 6: the exact law of DropTower. Written by a generator of this claim's author. -/
import Derived.Test.YteickcpmicifgaaNeL
import Derived.Test.YteickcpmicifgaaNeP
import Derived.Test.YteickcpmicifgaaRows
import Derived.Deep.RegionHeld3
import Derived.Deep.CutRange
namespace Go.Proofs.Yteickcpmicifgaa
open Go.RowKit
set_option linter.unusedSimpArgs false
set_option linter.unusedVariables false

set_option maxRecDepth 100000 in
set_option maxHeartbeats 16000000 in
theorem walk_FnExactDropTower (c0 c1 : Value) (ts ls : List T3) (a1 : Int) (w : World) (hr : RdN w c0 c1 ts ls) (w1f : (Lit.int .i64 a1).wf = true) :
    Calls Try.prog 12 #[.agg #[c0, c1], .int .i64 a1] w fun e w' => e = .returned (.bool true) ∧ Below w.heap.size w w' := by
  have hm0 : (ts.length : Int) ≤ 9223372036854775807 := by have := hr.1.max; unfold maxLen at this; omega
  have hm1 : (ls.length : Int) ≤ 9223372036854775807 := by have := hr.2.max; unfold maxLen at this; omega
  obtain ⟨a0, p0, rfl, hp0⟩ := hr.1.len
  obtain ⟨aa, pp, rfl, hpp⟩ := hr.2.len
  obtain ⟨n, hn⟩ : ∃ n, n = ts.length := ⟨_, rfl⟩
  obtain ⟨m, hm⟩ : ∃ m, m = ls.length := ⟨_, rfl⟩
  rw [← hn] at hr hp0
  rw [← hm] at hr hpp
  rw [← hn, ← hm]
  clear hn hm hp0 hpp
  have N0 := NB.start hr 25
  have hs0 : (w.alloc (.cells #[.slice a0 n p0, .slice aa m pp] 25)).heap.size = w.heap.size + 1 := by simp
  have HR := Lib.hid hr
  clear hr
  obtain ⟨RT, hRT⟩ : ∃ RT, RT = dpT ts ls a1 := ⟨_, rfl⟩
  obtain ⟨RR, hRR⟩ : ∃ RR, RR = dpR ts ls a1 := ⟨_, rfl⟩
  obtain ⟨CC, hCC⟩ : ∃ CC, CC = dpC ts ls a1 := ⟨_, rfl⟩
  have hlT : RT.length ≤ 16 := by rw [hRT]; exact (dp_small ts ls a1).1
  have hlR : RR.length ≤ 40 := by rw [hRR]; exact (dp_small ts ls a1).2
  have HRT := Lib.hid hRT
  have HRR := Lib.hid hRR
  have HCC := Lib.hid hCC
  clear hRT hRR hCC
  have h0 := N0.b0
  have h1 := N0.b1
  go_enter Try.func12, Try.ntmps12
  go_wp2_with fail
  generalize w.alloc (.cells #[.slice a0 n p0, .slice aa m pp] 25) = w0 at *
  refine (szNet_any _ _ ts ls _ _ (by omega) (by omega) N0.rd).mono ?_
  rintro e w1 ⟨hb1, r, rfl, hrr⟩
  have N1 := N0.next hb1
  clear h0 h1
  have z1 := hb1.size
  have h0 := N1.b0
  have h1 := N1.b1
  rcases hrr with rfl | ⟨r0, hz0, hz1⟩
  · go_wp2
    go_ret
    exact ⟨rfl, N1.below⟩
  go_wp2_with fail
  refine (toNet_any _ _ ts ls _ hz0 hz1 N1.rd).mono ?_
  rintro e w2 ⟨vp, up, rfl, p, hb2⟩
  have z2 := hb2.size
  have N2 := N1.next hb2
  clear h0 h1
  have h0 := N2.b0
  have h1 := N2.b1
  obtain ⟨avp, cvp, rfl, -⟩ := p.1.1.rd.len
  obtain ⟨aup, cup, rfl, -⟩ := p.2.1.rd.len
  go_wp2_with fail
  refine (specDropTower_any _ _ ts ls a1 _ p.rd).mono ?_
  rintro e w3 ⟨vs, us, rfl, s, hb3⟩
  have z3 := hb3.size
  have p := p.later hb3
  have N3 := N2.next hb3
  clear h0 h1
  have h0 := N3.b0
  have h1 := N3.b1
  rw [← HRT.out, ← HRR.out] at s
  rw [← HCC.out]
  obtain ⟨avs, cvs, rfl, -⟩ := s.1.1.rd.len
  obtain ⟨aus, cus, rfl, -⟩ := s.2.1.rd.len
  have al3 := (Below.refl w3.heap.size w3).alloc (Nat.le_refl _) (.cells #[.slice avs RT.length cvs, .slice aus RR.length cus] 31)
  have p := p.later al3
  have s := s.later al3
  have bs := Box2.new w3 (.slice avs RT.length cvs) (.slice aus RR.length cus) 31
  have N4 := N3.next al3
  have zz3 := al3.size
  have zl3 := bs.lt
  clear h0 h1
  have h0 := N4.b0
  have h1 := N4.b1
  have bs0 := bs.c0
  have bs1 := bs.c1
  go_wp2_with fail
  generalize w3.alloc (.cells #[.slice avs RT.length cvs, .slice aus RR.length cus] 31) = w4 at *
  clear p
  refine (toNet_any _ _ ts ls _ hz0 hz1 N4.rd).mono ?_
  rintro e w5 ⟨vx, ux, rfl, x, hb5⟩
  have z5 := hb5.size
  have s := s.later hb5
  have bs := bs.next hb5
  have N5 := N4.next hb5
  clear h0 h1 bs0 bs1
  have h0 := N5.b0
  have h1 := N5.b1
  have bs0 := bs.c0
  have bs1 := bs.c1
  obtain ⟨avx, cvx, rfl, -⟩ := x.1.1.rd.len
  obtain ⟨aux, cux, rfl, -⟩ := x.2.1.rd.len
  have al5 := (Below.refl w5.heap.size w5).alloc (Nat.le_refl _) (.cells #[.slice avx ts.length cvx, .slice aux ls.length cux] 31)
  have s := s.later al5
  have x := x.later al5
  have bs := bs.next al5
  have bx := Box2.new w5 (.slice avx ts.length cvx) (.slice aux ls.length cux) 31
  have N6 := N5.next al5
  have zz5 := al5.size
  have zl5 := bx.lt
  clear h0 h1 bs0 bs1
  have h0 := N6.b0
  have h1 := N6.b1
  have bs0 := bs.c0
  have bs1 := bs.c1
  have bx0 := bx.c0
  have bx1 := bx.c1
  go_wp2_with fail
  generalize w5.alloc (.cells #[.slice avx ts.length cvx, .slice aux ls.length cux] 31) = w6 at *
  refine (dropTower_any _ _ ts ls a1 _ x.rd).mono ?_
  rintro e w7 ⟨vg, ug, rfl, g, hb7⟩
  have z7 := hb7.size
  have s := s.later hb7
  have x := x.later hb7
  have bs := bs.next hb7
  have bx := bx.next hb7
  have N7 := N6.next hb7
  clear h0 h1 bs0 bs1 bx0 bx1
  have h0 := N7.b0
  have h1 := N7.b1
  have bs0 := bs.c0
  have bs1 := bs.c1
  have bx0 := bx.c0
  have bx1 := bx.c1
  rw [← HRT.out, ← HRR.out] at g
  rw [← HCC.out]
  obtain ⟨avg, cvg, rfl, -⟩ := g.1.1.rd.len
  obtain ⟨aug, cug, rfl, -⟩ := g.2.1.rd.len
  have al7 := (Below.refl w7.heap.size w7).alloc (Nat.le_refl _) (.cells #[.slice avg RT.length cvg, .slice aug RR.length cug] 31)
  have s := s.later al7
  have x := x.later al7
  have g := g.later al7
  have bs := bs.next al7
  have bx := bx.next al7
  have bg := Box2.new w7 (.slice avg RT.length cvg) (.slice aug RR.length cug) 31
  have N8 := N7.next al7
  have zz7 := al7.size
  have zl7 := bg.lt
  clear h0 h1 bs0 bs1 bx0 bx1
  have h0 := N8.b0
  have h1 := N8.b1
  have bs0 := bs.c0
  have bs1 := bs.c1
  have bx0 := bx.c0
  have bx1 := bx.c1
  have bg0 := bg.c0
  have bg1 := bg.c1
  go_wp2_with fail
  generalize w7.alloc (.cells #[.slice avg RT.length cvg, .slice aug RR.length cug] 31) = w8 at *
  refine (eqNet_true _ _ _ _ RT RR _ g.rd s.rd).mono ?_
  rintro e w9 ⟨rfl, hb9⟩
  have z9 := hb9.size
  have s := s.later hb9
  have x := x.later hb9
  have g := g.later hb9
  have bs := bs.next hb9
  have bx := bx.next hb9
  have bg := bg.next hb9
  have N9 := N8.next hb9
  clear h0 h1 bs0 bs1 bx0 bx1 bg0 bg1
  have h0 := N9.b0
  have h1 := N9.b1
  have bs0 := bs.c0
  have bs1 := bs.c1
  have bx0 := bx.c0
  have bx1 := bx.c1
  have bg0 := bg.c0
  have bg1 := bg.c1
  have HX := Lib.hid (x.later (Below.refl w9.heap.size w9).drew)
  have ND := N9.drew
  have BD := bx.next (Below.refl w9.heap.size w9).drew
  have HT := Lib.hid (toNet_any _ _ ts ls w9.drew hz0 hz1 ND.rd)
  have KB : Hid (∀ y : World, Below w9.drew.heap.size w9.drew y → y.cell? ⟨w.heap.size, 0, none⟩ = some (.slice a0 n p0) ∧ y.cell? ⟨w.heap.size, 1, none⟩ = some (.slice aa m pp) ∧ y.cell? ⟨w5.heap.size, 0, none⟩ = some (.slice avx ts.length cvx) ∧ y.cell? ⟨w5.heap.size, 1, none⟩ = some (.slice aux ls.length cux)) := Lib.hid fun y hb => ⟨(ND.next hb).b0, (ND.next hb).b1, (BD.next hb).c0, (BD.next hb).c1⟩
  have HEQ : Hid (∀ (y : World) (q0 q1 : Value) (B C : Nat), Below w9.drew.heap.size w9.drew y → OwnN y B C q0 q1 ts ls → Calls Try.prog 17 #[.agg #[.slice avx ts.length cvx, .slice aux ls.length cux], .agg #[q0, q1]] y fun e w' => e = .returned (.bool true) ∧ Below y.heap.size y w') := Lib.hid fun y q0 q1 B C hb ho => eqNet_true _ _ _ _ ts ls y (HX.out.later hb).rd ho.rd
  go_wp2_with fail
  go_region_held3 (fun w' => w'.cell? ⟨w.heap.size, 0, none⟩ = some (.slice a0 n p0) ∧ w'.cell? ⟨w.heap.size, 1, none⟩ = some (.slice aa m pp) ∧ w'.cell? ⟨w5.heap.size, 0, none⟩ = some (.slice avx ts.length cvx) ∧ w'.cell? ⟨w5.heap.size, 1, none⟩ = some (.slice aux ls.length cux))
    (first | go_keep | exact KB.out _ hba | exact KB.out _ hbb)
    (first
      | (go_at_call 15; (with_reducible refine (HT.out).mono ?_); rintro e wa ⟨q0, q1, rfl, qo, hba⟩)
      | (go_at_call 17; (with_reducible refine (HEQ.out _ _ _ _ _ hba qo).mono ?_); rintro e w10 ⟨rfl, hbb'⟩; have hbb := hba.trans (hbb'.mono hba.size)))
  have hb10 := (Below.refl w9.heap.size w9).drew.trans (hbb.mono (Nat.le_refl _))
  clear hba hbb hbb' qo KB HEQ HT HX ND BD
  have z10 := hb10.size
  have s := s.later hb10
  have x := x.later hb10
  have g := g.later hb10
  have bs := bs.next hb10
  have bx := bx.next hb10
  have bg := bg.next hb10
  have N10 := N9.next hb10
  clear h0 h1 bs0 bs1 bx0 bx1 bg0 bg1
  have h0 := N10.b0
  have h1 := N10.b1
  have bs0 := bs.c0
  have bs1 := bs.c1
  have bx0 := bx.c0
  have bx1 := bx.c1
  have bg0 := bg.c0
  have bg1 := bg.c1
  have hk0 : 0 ≤ 1 + 3 * (ts.length : Int) + 3 * (ls.length : Int) := by omega
  go_wp2_with fail
  refine (markNet_any w4.heap.size w5.heap.size _ _ ts ls 1 _ (by decide) (by decide) hz0 hz1 (by omega) x).mono ?_
  rintro e w11 ⟨rfl, x, hk11⟩
  have z11 := hk11.size
  clear h0 h1 bs0 bs1 bx0 bx1 bg0 bg1
  have s := s.kept hk11 (by omega)
  have g := g.kept hk11 (by omega)
  have bs := bs.kp hk11 (by omega)
  have bx := bx.kp hk11 (by omega)
  have bg := bg.kp hk11 (by omega)
  have N11 := N10.nextB (hk11.below (by omega)) (by omega) HR.out
  have h0 := N11.b0
  have h1 := N11.b1
  have bs0 := bs.c0
  have bs1 := bs.c1
  have bx0 := bx.c0
  have bx1 := bx.c1
  have bg0 := bg.c0
  have bg1 := bg.c1
  clear x
  clear bx0 bx1 bx
  go_wp2_with fail
  refine (eqNet_true _ _ _ _ RT RR _ g.rd s.rd).mono ?_
  rintro e w12 ⟨rfl, hb12⟩
  have z12 := hb12.size
  have s := s.later hb12
  have g := g.later hb12
  have bs := bs.next hb12
  have bg := bg.next hb12
  have N12 := N11.next hb12
  clear h0 h1 bs0 bs1 bg0 bg1
  have h0 := N12.b0
  have h1 := N12.b1
  have bs0 := bs.c0
  have bs1 := bs.c1
  have bg0 := bg.c0
  have bg1 := bg.c1
  have hk0 : 0 ≤ 1 + 3 * (RT.length : Int) + 3 * (RR.length : Int) := by omega
  go_wp2_with fail
  refine (markNet_any w6.heap.size w7.heap.size _ _ RT RR 1 _ (by decide) (by decide) (by omega) (by omega) (by omega) g).mono ?_
  rintro e w13 ⟨rfl, g, hk13⟩
  have z13 := hk13.size
  clear h0 h1 bs0 bs1 bg0 bg1
  have s := s.kept hk13 (by omega)
  have bs := bs.kp hk13 (by omega)
  have bg := bg.kp hk13 (by omega)
  have N13 := N12.nextB (hk13.below (by omega)) (by omega) HR.out
  have h0 := N13.b0
  have h1 := N13.b1
  have bs0 := bs.c0
  have bs1 := bs.c1
  have bg0 := bg.c0
  have bg1 := bg.c1
  go_wp2_with fail
  refine (heldNet_any _ _ RT.length RR.length 1 _ (by decide) (by decide) (by omega) (by omega) g.rd).mono ?_
  rintro e w14 ⟨rfl, hb14⟩
  have z14 := hb14.size
  have s := s.later hb14
  have g := g.later hb14
  have bs := bs.next hb14
  have bg := bg.next hb14
  have N14 := N13.next hb14
  clear h0 h1 bs0 bs1 bg0 bg1
  have h0 := N14.b0
  have h1 := N14.b1
  have bs0 := bs.c0
  have bs1 := bs.c1
  have bg0 := bg.c0
  have bg1 := bg.c1
  go_wp2_with fail
  refine (toNet_any _ _ ts ls _ hz0 hz1 N14.rd).mono ?_
  rintro e w15 ⟨vq, uq, rfl, q, hb15⟩
  have z15 := hb15.size
  have s := s.later hb15
  have g := g.later hb15
  have bs := bs.next hb15
  have bg := bg.next hb15
  have N15 := N14.next hb15
  clear h0 h1 bs0 bs1 bg0 bg1
  have h0 := N15.b0
  have h1 := N15.b1
  have bs0 := bs.c0
  have bs1 := bs.c1
  have bg0 := bg.c0
  have bg1 := bg.c1
  obtain ⟨avq, cvq, rfl, -⟩ := q.1.1.rd.len
  obtain ⟨auq, cuq, rfl, -⟩ := q.2.1.rd.len
  go_wp2_with fail
  refine (dropTower_any _ _ ts ls a1 _ q.rd).mono ?_
  rintro e w16 ⟨vh, uh, rfl, h, hb16⟩
  have z16 := hb16.size
  have s := s.later hb16
  have g := g.later hb16
  have q := q.later hb16
  have bs := bs.next hb16
  have bg := bg.next hb16
  have N16 := N15.next hb16
  clear h0 h1 bs0 bs1 bg0 bg1
  have h0 := N16.b0
  have h1 := N16.b1
  have bs0 := bs.c0
  have bs1 := bs.c1
  have bg0 := bg.c0
  have bg1 := bg.c1
  rw [← HRT.out, ← HRR.out] at h
  rw [← HCC.out]
  obtain ⟨avh, cvh, rfl, -⟩ := h.1.1.rd.len
  obtain ⟨auh, cuh, rfl, -⟩ := h.2.1.rd.len
  have al16 := (Below.refl w16.heap.size w16).alloc (Nat.le_refl _) (.cells #[.slice avh RT.length cvh, .slice auh RR.length cuh] 31)
  have s := s.later al16
  have g := g.later al16
  have q := q.later al16
  have h := h.later al16
  have bs := bs.next al16
  have bg := bg.next al16
  have bh := Box2.new w16 (.slice avh RT.length cvh) (.slice auh RR.length cuh) 31
  have N17 := N16.next al16
  have zz16 := al16.size
  have zl16 := bh.lt
  clear h0 h1 bs0 bs1 bg0 bg1
  have h0 := N17.b0
  have h1 := N17.b1
  have bs0 := bs.c0
  have bs1 := bs.c1
  have bg0 := bg.c0
  have bg1 := bg.c1
  have bh0 := bh.c0
  have bh1 := bh.c1
  go_wp2_with fail
  generalize w16.alloc (.cells #[.slice avh RT.length cvh, .slice auh RR.length cuh] 31) = w17 at *
  clear q
  refine (eqNet_true _ _ _ _ RT RR _ h.rd s.rd).mono ?_
  rintro e w18 ⟨rfl, hb18⟩
  have z18 := hb18.size
  have s := s.later hb18
  have g := g.later hb18
  have h := h.later hb18
  have bs := bs.next hb18
  have bg := bg.next hb18
  have bh := bh.next hb18
  have N18 := N17.next hb18
  clear h0 h1 bs0 bs1 bg0 bg1 bh0 bh1
  have h0 := N18.b0
  have h1 := N18.b1
  have bs0 := bs.c0
  have bs1 := bs.c1
  have bg0 := bg.c0
  have bg1 := bg.c1
  have bh0 := bh.c0
  have bh1 := bh.c1
  go_wp2_with fail
  refine (heldNet_any _ _ RT.length RR.length 1 _ (by decide) (by decide) (by omega) (by omega) g.rd).mono ?_
  rintro e w19 ⟨rfl, hb19⟩
  have z19 := hb19.size
  have s := s.later hb19
  have g := g.later hb19
  have h := h.later hb19
  have bs := bs.next hb19
  have bg := bg.next hb19
  have bh := bh.next hb19
  have N19 := N18.next hb19
  clear h0 h1 bs0 bs1 bg0 bg1 bh0 bh1
  have h0 := N19.b0
  have h1 := N19.b1
  have bs0 := bs.c0
  have bs1 := bs.c1
  have bg0 := bg.c0
  have bg1 := bg.c1
  have bh0 := bh.c0
  have bh1 := bh.c1
  go_wp2
  go_ret
  exact ⟨rfl, N19.below⟩
end Go.Proofs.Yteickcpmicifgaa
