/- Drawing a sight from bytes: a loose contract. Written by a generator of this claim's author. -/
import Derived.Test.YtkdmjeonlghnjaaDs1
import Derived.Test.YtkdmjeonlghnjaaRgE
import Derived.Deep.CutRange
import Derived.Deep.CutBlock
namespace Go.Proofs.Ytkdmjeonlghnjaa
open Go.RowKit Go.Sort
set_option linter.unusedSimpArgs false
set_option linter.unusedVariables false

theorem tdiv_abs {a b M : Int} (h : -M ≤ a ∧ a ≤ M) (hb : 1 ≤ b) : -M ≤ a.tdiv b ∧ a.tdiv b ≤ M := by
  have h1 : (a.tdiv b).natAbs ≤ a.natAbs := Int.natAbs_tdiv_le_natAbs a b
  omega
set_option maxRecDepth 100000 in
set_option maxHeartbeats 8000000 in
theorem sight_draw (p K : Nat) (w : World) (hC : Cur w p K) (hK : K ≤ 1000) :
    Calls Try.prog 51 #[.pointer (some ⟨p, 0, none⟩)] w fun e w' => ∃ D A B u ts, e = .returned (.agg #[.int .i64 D, .int .i64 A, .int .i64 B, u]) ∧ OwnR 72 c2 2 w' w.heap.size u ts ∧ ts.length ≤ 40 ∧ Cur w' p (K + 300) ∧ Kp p (p + 1) w w' := by
  have al0 := (Below.refl w.heap.size w).alloc (Nat.le_refl _) (.cells #[.int .i64 0, .int .i64 0, .int .i64 0, .slice none 0 0] 25)
  have d0 : D0 w (w.alloc (.cells #[.int .i64 0, .int .i64 0, .int .i64 0, .slice none 0 0] 25)) p K := ⟨hC.later al0, Kp.of_below al0, hC.lt, Var4.new _ _ _ _ _ _⟩
  have hz0 : w.heap.size < (w.alloc (.cells #[.int .i64 0, .int .i64 0, .int .i64 0, .slice none 0 0] 25)).heap.size := by simp
  clear al0 hC
  go_enter Try.func51, Try.ntmps51
  go_wp2_with fail
  generalize w.alloc (.cells #[.int .i64 0, .int .i64 0, .int .i64 0, .slice none 0 0] 25) = w0 at *
  refine (pick_any p (K + 0) 900 _ d0.cur (by omega) (by omega) (by omega)).mono ?_
  rintro e w1 ⟨r1, rfl, hr1, hC, hk⟩
  replace d0 := d0.go hC hk
  have hz1 : w.heap.size < w1.heap.size := Nat.lt_of_lt_of_le hz0 hk.size
  clear hC hk
  go_wp2_with fail
  refine (among_list p (K + 2) [2, 50, 100, 200, 400, 999, 1 + (r1 : Int)] w1 d0.cur (by omega) (by simp) (by simp) 3).mono ?_
  rintro e w2 ⟨D, hm2, rfl, hC, hk⟩
  simp only [List.mem_cons, List.not_mem_nil, or_false] at hm2
  replace d0 := d0.go hC hk
  have hz2 : w.heap.size < w2.heap.size := Nat.lt_of_lt_of_le hz1 hk.size
  clear hC hk
  have hD : 1 ≤ D ∧ D ≤ 999 := by omega
  clear hm2
  go_wp2_with fail
  refine (pick_any p (K + 4) 900 _ d0.cur (by omega) (by omega) (by omega)).mono ?_
  rintro e w3 ⟨r3, rfl, hr3, hC, hk⟩
  replace d0 := d0.go hC hk
  have hz3 : w.heap.size < w3.heap.size := Nat.lt_of_lt_of_le hz2 hk.size
  clear hC hk
  go_wp2_with fail
  refine (among_list p (K + 6) [0, 20, 100, 400, 3000, (r3 : Int)] w3 d0.cur (by omega) (by simp) (by simp) 3).mono ?_
  rintro e w4 ⟨A, hm4, rfl, hC, hk⟩
  simp only [List.mem_cons, List.not_mem_nil, or_false] at hm4
  replace d0 := d0.go hC hk
  have hz4 : w.heap.size < w4.heap.size := Nat.lt_of_lt_of_le hz3 hk.size
  clear hC hk
  have hA : 0 ≤ A ∧ A ≤ 3000 := by omega
  clear hm4
  go_wp2_with fail
  refine (pick_any p (K + 8) 900 _ d0.cur (by omega) (by omega) (by omega)).mono ?_
  rintro e w5 ⟨r5, rfl, hr5, hC, hk⟩
  replace d0 := d0.go hC hk
  have hz5 : w.heap.size < w5.heap.size := Nat.lt_of_lt_of_le hz4 hk.size
  clear hC hk
  go_wp2_with fail
  refine (among_list p (K + 10) [0, 20, 100, 400, (r5 : Int)] w5 d0.cur (by omega) (by simp) (by simp) 3).mono ?_
  rintro e w6 ⟨B, hm6, rfl, hC, hk⟩
  simp only [List.mem_cons, List.not_mem_nil, or_false] at hm6
  replace d0 := d0.go hC hk
  have hz6 : w.heap.size < w6.heap.size := Nat.lt_of_lt_of_le hz5 hk.size
  clear hC hk
  have hB : 0 ≤ B ∧ B ≤ 900 := by omega
  clear hm6
  have V0 := Var4.new w6 (.int .i64 D) (.int .i64 A) (.int .i64 B) (.slice none 0 0) 25
  replace d0 := d0.alloc (.cells #[.int .i64 D, .int .i64 A, .int .i64 B, .slice none 0 0] 25)
  have hzn : w6.heap.size < (w6.alloc (.cells #[.int .i64 D, .int .i64 A, .int .i64 B, .slice none 0 0] 25)).heap.size := by simp
  go_wp2_with fail
  generalize w6.alloc (.cells #[.int .i64 D, .int .i64 A, .int .i64 B, .slice none 0 0] 25) = w7 at *
  have dS : DS w w7 p (K + 12) w6.heap.size D A B (.slice none 0 0) [] := ⟨d0, hz6, V0, OwnR.nil _ _⟩
  generalize w6.heap.size = o at *
  have hz7 : w.heap.size < w7.heap.size := by omega
  have hob := hz6
  clear d0 V0
  refine (pick_any p (K + 12) 6 _ dS.d0.cur (by omega) (by omega) (by omega)).mono ?_
  rintro e w8 ⟨r8, rfl, hr8, hC, hk⟩
  replace dS := dS.go hC hk
  have hz8 : w.heap.size < w8.heap.size := Nat.lt_of_lt_of_le hz7 hk.size
  clear hC hk
  go_wp2_with fail
  refine (one_any p (K + 14) 20 _ dS.d0.cur (by omega) (by omega) (by omega)).mono ?_
  rintro e w9 ⟨b, rfl, hC, hk⟩
  replace dS := dS.go hC hk
  have hz9 : w.heap.size < w9.heap.size := Nat.lt_of_lt_of_le hz8 hk.size
  clear hC hk
  have hrn : r8 ≤ 21 := by omega
  go_upto_if 27 with fail
  go_cut [4] from 28 to 30 (fun s4 wx => ∃ n : Nat, s4 = .int .i64 n ∧ n ≤ 21 ∧ DS w wx p (K + 18) o D A B (.slice none 0 0) [] ∧ w.heap.size < wx.heap.size)
  case first =>
    cases b with
    | true =>
      go_wp2_with fail
      refine (pick_any p (K + 16) 2 _ dS.d0.cur (by omega) (by omega) (by omega)).mono ?_
      rintro e wq ⟨rq, rfl, hrq, hC, hk⟩
      replace dS := dS.go hC hk
      have hzq : w.heap.size < wq.heap.size := Nat.lt_of_lt_of_le hz9 hk.size
      go_wp2_with fail
      go_meet
      exact ⟨20 + rq, by go_num, by omega, dS, hzq⟩
    | false =>
      go_wp2_with fail
      go_meet
      exact ⟨_, rfl, by omega, dS.more (by omega), hz9⟩
  case rest =>
  obtain ⟨n, rfl, hn, dS, hz9⟩ := hcut
  clear hr1 hr3 hr5 hrn hr8 hz0 hz1 hz2 hz3 hz4 hz5 hz6 hob hzn hz7 hz8
  go_upto_block 0 with fail
  go_cut [5, 6] from 31 to 81 (fun s5 s6 wx => ∃ (K' : Nat) (u : Value) (ts : List T2), K' ≤ K + 200 ∧ ts.length ≤ 21 ∧ DS w wx p K' o D A B u ts ∧ w.heap.size < wx.heap.size)
  case first =>
    go_wp2_with fail
    go_loopw [5] (fun s5 wr => ∃ (at_ K' : Nat) (u : Value) (ts : List T2), s5 = .int .i64 at_ ∧ at_ ≤ 999 ∧ K' ≤ K + 18 + 6 * ts.length ∧ ts.length ≤ 21 ∧ DS w wr p K' o D A B u ts ∧ w.heap.size < wr.heap.size) (fun s5 wr => 1000 - (intOf s5).toNat)
    case atStart => exact ⟨0, _, _, [], rfl, by omega, by simp, by simp, dS, hz9⟩
    case round =>
      clear dS hz9
      obtain ⟨a0, K', u, ts, rfl, ha0, hK', hl, dS, hzr⟩ := hrel
      obtain ⟨au, cu, rfl, -⟩ := dS.row.rd.len
      have j0 := dS.var.c0
      have j1 := dS.var.c1
      have j2 := dS.var.c2
      have j3 := dS.var.c3
      have jf0 := dS.var.fz 0
      have jf1 := dS.var.fz 1
      have jf2 := dS.var.fz 2
      have jf3 := dS.var.fz 3
      have hlr := dS.var.lt
      by_cases hlt : ts.length < n
      · have hq0 : 0 ≤ D / ((n : Int) + 1) := Int.ediv_nonneg (by omega) (by omega)
        have hq1 : D / ((n : Int) + 1) ≤ D := Int.ediv_le_self _ (by omega)
        obtain ⟨M, hM⟩ : ∃ M : Nat, max 1 (D / ((n : Int) + 1)) = M := ⟨(max 1 (D / ((n : Int) + 1))).toNat, by omega⟩
        have hM1 : 1 ≤ M := by omega
        have hM2 : M ≤ 1000 := by omega
        have HM := Lib.hid hM
        clear hM
        have hn1 : ((n : Int) + 1) ≠ 0 := by omega
        go_wp2_with fail
        refine (l1Most_any _ _ _).mono ?_
        rintro e w' ⟨rfl, rfl⟩
        rw [HM.out]
        go_wp2_with fail
        refine (pick_any p K' M _ dS.d0.cur (by omega) hM1 (by omega)).mono ?_
        rintro e wp ⟨r, rfl, hrM, hC, hk⟩
        replace dS := dS.go hC hk
        have hzp : w.heap.size < wp.heap.size := Nat.lt_of_lt_of_le hzr hk.size
        clear hC hk j0 j1 j2 j3 jf0 jf1 jf2 jf3
        have j0 := dS.var.c0
        have j1 := dS.var.c1
        have j2 := dS.var.c2
        have j3 := dS.var.c3
        have jf0 := dS.var.fz 0
        have jf1 := dS.var.fz 1
        have jf2 := dS.var.fz 2
        have jf3 := dS.var.fz 3
        by_cases hge : D ≤ (a0 : Int) + (1 + (r : Int))
        · go_wp2_with fail
          go_meet
          exact ⟨_, _, _, by omega, hl, dS, hzp⟩
        · have hT0 : 0 ≤ (a0 : Int) + (1 + (r : Int)) := by omega
          have hT1 : (a0 : Int) + (1 + (r : Int)) ≤ 998 := by omega
          have hp := mul_abs (a := B - A) (b := (a0 : Int) + (1 + (r : Int))) (x := 3000) (y := 998) (by omega) ⟨hT0, hT1⟩ (by decide)
          have hq := tdiv_abs (b := D) (M := 3000 * 998) hp hD.1
          have e0 : IntKind.i64.wrap (B - A) = B - A := IntWalk.i64_in _ (by omega)
          have e1 : IntKind.i64.wrap ((B - A) * ((a0 : Int) + (1 + (r : Int)))) = (B - A) * ((a0 : Int) + (1 + (r : Int))) := IntWalk.i64_in _ (by omega)
          have e2 : IntKind.i64.wrap (A + ((B - A) * ((a0 : Int) + (1 + (r : Int)))).tdiv D) = A + ((B - A) * ((a0 : Int) + (1 + (r : Int)))).tdiv D := IntWalk.i64_in _ (by omega)
          have hDn : D ≠ 0 := by omega
          have K0 := cell_regrown j0
          have K1 := cell_regrown j1
          have K2 := cell_regrown j2
          go_wp2_with fail
          refine wp_region_quiet_below (by kernel_rfl) (by kernel_rfl) ?_
          repeat (go_big_quiet_step (fail))
          refine wpQuiet_nil ?_
          intro _ hw'
          obtain ⟨⟨dq, osq⟩, hw''⟩ := hw'
          subst hw''
          replace dS := dS.below (below_regrown wp dq osq)
          replace hzp : w.heap.size < (grow (redrawn wp dq) osq).heap.size := by have := (below_regrown wp dq osq).size; omega
          have hTT : Hid True := Lib.hid trivial
          generalize hln : A + ((B - A) * ((a0 : Int) + (1 + (r : Int)))).tdiv D = ln at *
          generalize grow (redrawn wp dq) osq = wg at *
          have hl0 : -3000000 ≤ ln ∧ ln ≤ 3000000 := by omega
          obtain ⟨T, hT⟩ : ∃ T, T = (a0 : Int) + (1 + (r : Int)) := ⟨_, rfl⟩
          clear K0 K1 K2 e0 e1 e2 hp hq hln j0 j1 j2 j3 jf0 jf1 jf2 jf3
          have hLL : Hid (ts.length + 1 ≤ 4194304) := Lib.hid (by omega)
          have hopd : o ≠ p := by have := dS.ob; have := dS.d0.pw; omega
          go_wp2_with fail
          refine wp_region_E_drew (S := (fun w' => w'.cell? ⟨o, 3, none⟩ = some (.slice au ts.length cu))) (E := fun i => i == 18) (by kernel_rfl) ?_ (fun hHeld => ?_)
          · exact dS.drew.var.c3
          refine wpAnyE_name ?_
          intro wS hwS
          try rw [← hwS] at hHeld
          have hbS := below_named hwS
          clear hwS
          replace dS := dS.below hbS
          replace hzp : w.heap.size < wS.heap.size := Nat.lt_of_lt_of_le hzp hbS.size
          refine wpAnyE_take (i := 0) (oi := { dst := some 64, op := Go.Op.fieldAddr 25 (Go.Operand.tmp 3) 3, type := 0, pos := "l7_sight.go:158", after := #[], guard := none }) (v := ?_) [1, 16, 17, 18] rfl (by kernel_rfl) (by kernel_rfl) (by kernel_rfl) (by kernel_rfl) (fun j hj => by first | (have e : j = 18 := by simpa using hj); (subst e; rfl)) (by kernel_rfl) (fun _ _ _ h => h) (Or.inl ⟨by rfl, ?_⟩) hHeld ?_
          rotate_left
          · intro w hSw; (try dsimp only at hSw); go_simp; try with_reducible rfl
          try simp only [Act.put, List.setIfInBounds_toArray, List.set_cons_zero, List.set_cons_succ]
          refine wpAnyE_take (i := 1) (oi := { dst := some 65, op := Go.Op.load 23 (Go.Operand.tmp 64), type := 23, pos := "l7_sight.go:158", after := #[{ on := 0, ground := Go.Ground.data }], guard := none }) (v := ?_) [16, 17, 18] rfl (by kernel_rfl) (by kernel_rfl) (by kernel_rfl) (by kernel_rfl) (fun j hj => by first | (have e : j = 18 := by simpa using hj); (subst e; rfl)) (by kernel_rfl) (fun _ _ _ h => h) (Or.inl ⟨by rfl, ?_⟩) hHeld ?_
          rotate_left
          · intro w hSw; (try dsimp only at hSw); go_simp; try with_reducible rfl
          try simp only [Act.put, List.setIfInBounds_toArray, List.set_cons_zero, List.set_cons_succ]
          refine wpAnyE_take (i := 2) (oi := { dst := some 66, op := Go.Op.move (Go.Operand.tmp 5), type := 3, pos := "l7_sight.go:158", after := #[], guard := none }) (v := ?_) [14, 15, 16, 17, 18] rfl (by kernel_rfl) (by kernel_rfl) (by kernel_rfl) (by kernel_rfl) (fun j hj => by first | (have e : j = 18 := by simpa using hj); (subst e; rfl)) (by kernel_rfl) (fun _ _ _ h => h) (Or.inl ⟨by rfl, ?_⟩) hHeld ?_
          rotate_left
          · intro w hSw; (try dsimp only at hSw); go_simp; try with_reducible rfl
          try simp only [Act.put, List.setIfInBounds_toArray, List.set_cons_zero, List.set_cons_succ]
          refine wpAnyE_take (i := 3) (oi := { dst := some 67, op := Go.Op.move (Go.Operand.tmp 6), type := 3, pos := "l7_sight.go:158", after := #[], guard := none }) (v := ?_) [7, 8, 9, 12, 13, 14, 15, 16, 17, 18] rfl (by kernel_rfl) (by kernel_rfl) (by kernel_rfl) (by kernel_rfl) (fun j hj => by first | (have e : j = 18 := by simpa using hj); (subst e; rfl)) (by kernel_rfl) (fun _ _ _ h => h) (Or.inl ⟨by rfl, ?_⟩) hHeld ?_
          rotate_left
          · intro w hSw; (try dsimp only at hSw); go_simp; try with_reducible rfl
          try simp only [Act.put, List.setIfInBounds_toArray, List.set_cons_zero, List.set_cons_succ]
          refine wpAnyE_take (i := 4) (oi := { dst := some 68, op := Go.Op.move (Go.Operand.tmp 0), type := 63, pos := "l7_sight.go:158", after := #[], guard := none }) (v := ?_) [6, 7, 8, 9, 12, 13, 14, 15, 16, 17, 18] rfl (by kernel_rfl) (by kernel_rfl) (by kernel_rfl) (by kernel_rfl) (fun j hj => by first | (have e : j = 18 := by simpa using hj); (subst e; rfl)) (by kernel_rfl) (fun _ _ _ h => h) (Or.inl ⟨by rfl, ?_⟩) hHeld ?_
          rotate_left
          · intro w hSw; (try dsimp only at hSw); go_simp; try with_reducible rfl
          try simp only [Act.put, List.setIfInBounds_toArray, List.set_cons_zero, List.set_cons_succ]
          refine wpAnyE_take (i := 10) (oi := { dst := some 74, op := Go.Op.move (Go.Operand.tmp 0), type := 63, pos := "l7_sight.go:158", after := #[], guard := none }) (v := ?_) [12, 13, 14, 15, 16, 17, 18] rfl (by kernel_rfl) (by kernel_rfl) (by kernel_rfl) (by kernel_rfl) (fun j hj => by first | (have e : j = 18 := by simpa using hj); (subst e; rfl)) (by kernel_rfl) (fun _ _ _ h => h) (Or.inl ⟨by rfl, ?_⟩) hHeld ?_
          rotate_left
          · intro w hSw; (try dsimp only at hSw); go_simp; try with_reducible rfl
          try simp only [Act.put, List.setIfInBounds_toArray, List.set_cons_zero, List.set_cons_succ]
          refine wpAnyE_ready (rs := [5, 11]) (by kernel_rfl) (by simp) ?_
          refine AllReadyE.cons (o := { dst := some 69, op := Go.Op.buildSlice 30 8 #[(0, Go.Operand.const (Go.Value.int Go.IntKind.i64 0)), (1, Go.Operand.const (Go.Value.int Go.IntKind.i64 1)), (2, Go.Operand.const (Go.Value.int Go.IntKind.i64 2)), (3, Go.Operand.const (Go.Value.int Go.IntKind.i64 5)), (4, Go.Operand.const (Go.Value.int Go.IntKind.i64 8)), (5, Go.Operand.const (Go.Value.int Go.IntKind.i64 20)), (6, Go.Operand.const (Go.Value.int Go.IntKind.i64 60)), (7, Go.Operand.const (Go.Value.int Go.IntKind.i64 400))], type := 30, pos := "l7_sight.go:158", after := #[], guard := none }) rfl (fun K hK => ?_) ?_
          · go_simp
            refine hK.out _ _ (fun _ => ?_) (fun hHeld => ?_)
            · exact (dS.alloc _).var.c3
            replace hHeld := hHeld rfl
            clear hK K
            try simp only [Act.put, List.setIfInBounds_toArray, List.set_cons_zero, List.set_cons_succ]
            refine wpAnyE_name ?_
            intro w1 hw1
            try rw [← hw1] at hHeld
            have hb1 := below_alloc hw1
            have hnla : wS.heap.size ≠ p := by have := dS.d0.cur.lt; omega
            have la : LS w1 wS.heap.size [0, 1, 2, 5, 8, 20, 60, 400] := by rw [hw1]; exact LS.new wS [0, 1, 2, 5, 8, 20, 60, 400] _
            replace hzp : w.heap.size < w1.heap.size := Nat.lt_of_lt_of_le hzp hb1.size
            clear hw1
            replace dS := dS.below hb1
            refine wpAnyE_ready (rs := [6, 11]) (by kernel_rfl) (by simp) ?_
            refine AllReadyE.cons (o := { dst := some 70, op := Go.Op.call { callee := Go.Callee.value (Go.Operand.func 66), args := #[Go.Operand.tmp 68, Go.Operand.tmp 69], argTypes := #[63, 30] }, type := 3, pos := "l7_sight.go:158", after := #[{ on := 4, ground := Go.Ground.data }, { on := 5, ground := Go.Ground.data }], guard := none }) rfl (fun K hK => ?_) ?_
            · go_simp
              refine (among_ls p (K' + 2) _ 8 _ _ dS.d0.cur (by omega) (by rfl) (by omega) (by omega) la hnla).mono ?_
              rintro e w2 ⟨z1, hz1, rfl, hC, hk⟩
              simp only [List.mem_cons, List.not_mem_nil, or_false] at hz1
              replace hzp : w.heap.size < w2.heap.size := Nat.lt_of_lt_of_le hzp hk.size
              replace dS := dS.go hC hk
              clear hC
              clear hk
              have hz1' : 0 ≤ z1 ∧ z1 ≤ 400 := by omega
              have ew1 : IntKind.i64.wrap (ln - z1) = ln - z1 := IntWalk.i64_in _ (by omega)
              try go_simp
              refine hK.out _ _ (fun _ => ?_) (fun hHeld => ?_)
              · exact dS.var.c3
              replace hHeld := hHeld rfl
              clear hK K
              try simp only [Act.put, List.setIfInBounds_toArray, List.set_cons_zero, List.set_cons_succ]
              refine wpAnyE_take (i := 7) (oi := { dst := some 71, op := Go.Op.binOp Go.BinOp.sub 3 (Go.Operand.tmp 67) (Go.Operand.tmp 70) 3, type := 3, pos := "l7_sight.go:158", after := #[{ on := 3, ground := Go.Ground.data }, { on := 6, ground := Go.Ground.data }], guard := none }) (v := ?_) [8, 9, 12, 13, 14, 15, 16, 17, 18] rfl (by kernel_rfl) (by kernel_rfl) (by kernel_rfl) (by kernel_rfl) (fun j hj => by first | (have e : j = 18 := by simpa using hj); (subst e; rfl)) (by kernel_rfl) (fun _ _ _ h => h) (Or.inl ⟨by rfl, ?_⟩) hHeld ?_
              rotate_left
              · intro w hSw; (try dsimp only at hSw); go_simp; try with_reducible rfl
              try simp only [Act.put, List.setIfInBounds_toArray, List.set_cons_zero, List.set_cons_succ]
              refine wpAnyE_ready (rs := [8, 11]) (by kernel_rfl) (by simp) ?_
              refine AllReadyE.cons (o := { dst := some 72, op := Go.Op.call { callee := Go.Callee.value (Go.Operand.func 90), args := #[Go.Operand.const (Go.Value.int Go.IntKind.i64 0), Go.Operand.tmp 71], argTypes := #[3, 3] }, type := 3, pos := "l7_sight.go:158", after := #[{ on := 7, ground := Go.Ground.data }, { on := 6, ground := Go.Ground.chain }], guard := none }) rfl (fun K hK => ?_) ?_
              · go_simp
                refine (l1Most_any 0 (ln - z1) _).mono ?_
                rintro e w' ⟨rfl, rfl⟩
                try go_simp
                refine hK.out _ _ (fun _ => ?_) (fun hHeld => ?_)
                · exact dS.var.c3
                replace hHeld := hHeld rfl
                clear hK K
                try simp only [Act.put, List.setIfInBounds_toArray, List.set_cons_zero, List.set_cons_succ]
                refine wpAnyE_ready (rs := [9, 11]) (by kernel_rfl) (by simp) ?_
                refine AllReadyE.cons (o := { dst := some 73, op := Go.Op.call { callee := Go.Callee.value (Go.Operand.func 61), args := #[Go.Operand.const (Go.Value.int Go.IntKind.i64 3000), Go.Operand.tmp 72], argTypes := #[3, 3] }, type := 3, pos := "l7_sight.go:158", after := #[{ on := 8, ground := Go.Ground.data }, { on := 8, ground := Go.Ground.chain }], guard := none }) rfl (fun K hK => ?_) ?_
                · go_simp
                  refine (l1Least_any 3000 (max 0 (ln - z1)) _).mono ?_
                  rintro e w' ⟨rfl, rfl⟩
                  try go_simp
                  refine hK.out _ _ (fun _ => ?_) (fun hHeld => ?_)
                  · exact dS.var.c3
                  replace hHeld := hHeld rfl
                  clear hK K
                  try simp only [Act.put, List.setIfInBounds_toArray, List.set_cons_zero, List.set_cons_succ]
                  refine wpAnyE_ready (rs := [11]) (by kernel_rfl) (by simp) ?_
                  refine AllReadyE.cons (o := { dst := some 75, op := Go.Op.buildSlice 30 4 #[(0, Go.Operand.const (Go.Value.int Go.IntKind.i64 0)), (1, Go.Operand.const (Go.Value.int Go.IntKind.i64 1)), (2, Go.Operand.const (Go.Value.int Go.IntKind.i64 1)), (3, Go.Operand.const (Go.Value.int Go.IntKind.i64 1))], type := 30, pos := "l7_sight.go:158", after := #[], guard := none }) rfl (fun K hK => ?_) AllReadyE.nil
                  go_simp
                  refine hK.out _ _ (fun _ => ?_) (fun hHeld => ?_)
                  · exact (dS.alloc _).var.c3
                  replace hHeld := hHeld rfl
                  clear hK K
                  try simp only [Act.put, List.setIfInBounds_toArray, List.set_cons_zero, List.set_cons_succ]
                  refine wpAnyE_name ?_
                  intro w3 hw3
                  try rw [← hw3] at hHeld
                  have hb3 := below_alloc hw3
                  have hnlb : w2.heap.size ≠ p := by have := dS.d0.cur.lt; omega
                  have lb : LS w3 w2.heap.size [0, 1, 1, 1] := by rw [hw3]; exact LS.new w2 [0, 1, 1, 1] _
                  replace hzp : w.heap.size < w3.heap.size := Nat.lt_of_lt_of_le hzp hb3.size
                  clear hw3
                  replace dS := dS.below hb3
                  refine wpAnyE_ready (rs := [12]) (by kernel_rfl) (by simp) ?_
                  refine AllReadyE.cons (o := { dst := some 76, op := Go.Op.call { callee := Go.Callee.value (Go.Operand.func 66), args := #[Go.Operand.tmp 74, Go.Operand.tmp 75], argTypes := #[63, 30] }, type := 3, pos := "l7_sight.go:158", after := #[{ on := 10, ground := Go.Ground.data }, { on := 11, ground := Go.Ground.data }, { on := 9, ground := Go.Ground.chain }], guard := none }) rfl (fun K hK => ?_) AllReadyE.nil
                  go_simp
                  refine (among_ls p (K' + 2 + 2) _ 4 _ _ dS.d0.cur (by omega) (by rfl) (by omega) (by omega) lb hnlb).mono ?_
                  rintro e w4 ⟨z2, hz2, rfl, hC, hk⟩
                  simp only [List.mem_cons, List.not_mem_nil, or_false] at hz2
                  replace hzp : w.heap.size < w4.heap.size := Nat.lt_of_lt_of_le hzp hk.size
                  replace dS := dS.go hC hk
                  clear hC
                  clear hk
                  have hz2' : 0 ≤ z2 ∧ z2 ≤ 1 := by omega
                  have hpy := mul_le (a := min 3000 (max 0 (ln - z1))) (b := z2) (x := 3000) (y := 1) (by omega) hz2'.1 (by omega) hz2'.2
                  have ew2 : IntKind.i64.wrap (min 3000 (max 0 (ln - z1)) * z2) = min 3000 (max 0 (ln - z1)) * z2 := IntWalk.i64_in _ (by omega)
                  try go_simp
                  refine hK.out _ _ (fun _ => ?_) (fun hHeld => ?_)
                  · exact dS.var.c3
                  replace hHeld := hHeld rfl
                  clear hK K
                  try simp only [Act.put, List.setIfInBounds_toArray, List.set_cons_zero, List.set_cons_succ]
                  refine wpAnyE_take (i := 13) (oi := { dst := some 77, op := Go.Op.binOp Go.BinOp.mul 3 (Go.Operand.tmp 73) (Go.Operand.tmp 76) 3, type := 3, pos := "l7_sight.go:158", after := #[{ on := 9, ground := Go.Ground.data }, { on := 12, ground := Go.Ground.data }], guard := none }) (v := ?_) [14, 15, 16, 17, 18] rfl (by kernel_rfl) (by kernel_rfl) (by kernel_rfl) (by kernel_rfl) (fun j hj => by first | (have e : j = 18 := by simpa using hj); (subst e; rfl)) (by kernel_rfl) (fun _ _ _ h => h) (Or.inl ⟨by rfl, ?_⟩) hHeld ?_
                  rotate_left
                  · intro w hSw; (try dsimp only at hSw); go_simp; try with_reducible rfl
                  try simp only [Act.put, List.setIfInBounds_toArray, List.set_cons_zero, List.set_cons_succ]
                  refine wpAnyE_take (i := 14) (oi := { dst := some 78, op := Go.Op.build 72 #[(0, Go.Operand.tmp 66), (1, Go.Operand.tmp 77)], type := 72, pos := "l7_sight.go:158", after := #[{ on := 2, ground := Go.Ground.data }, { on := 13, ground := Go.Ground.data }], guard := none }) (v := ?_) [15, 16, 17, 18] rfl (by kernel_rfl) (by kernel_rfl) (by kernel_rfl) (by kernel_rfl) (fun j hj => by first | (have e : j = 18 := by simpa using hj); (subst e; rfl)) (by kernel_rfl) (fun _ _ _ h => h) (Or.inl ⟨by rfl, ?_⟩) hHeld ?_
                  rotate_left
                  · intro w hSw; (try dsimp only at hSw); go_simp; try with_reducible rfl
                  try simp only [Act.put, List.setIfInBounds_toArray, List.set_cons_zero, List.set_cons_succ]
                  refine wpAnyE_ready (rs := [15]) (by kernel_rfl) (by simp) ?_
                  refine AllReadyE.cons (o := { dst := some 79, op := Go.Op.buildSlice 23 1 #[(0, Go.Operand.tmp 78)], type := 23, pos := "l7_sight.go:158", after := #[{ on := 14, ground := Go.Ground.data }], guard := none }) rfl (fun K hK => ?_) AllReadyE.nil
                  go_simp
                  refine hK.out _ _ (fun _ => ?_) (fun hHeld => ?_)
                  · exact (dS.alloc _).var.c3
                  replace hHeld := hHeld rfl
                  clear hK K
                  try simp only [Act.put, List.setIfInBounds_toArray, List.set_cons_zero, List.set_cons_succ]
                  refine wpAnyE_name ?_
                  intro w5 hw5
                  try rw [← hw5] at hHeld
                  have hb5 := below_alloc hw5
                  have b0 : w5.cell? ⟨w4.heap.size, 0, none⟩ = some (.int .i64 ((a0 : Int) + (1 + (r : Int)))) := by rw [hw5]; simp [go_sem]
                  have b1 : w5.cell? ⟨w4.heap.size, 1, none⟩ = some (.int .i64 (min 3000 (max 0 (ln - z1)) * z2)) := by rw [hw5]; simp [go_sem]
                  replace hzp : w.heap.size < w5.heap.size := Nat.lt_of_lt_of_le hzp hb5.size
                  clear hw5
                  replace dS := dS.below hb5
                  refine wpAnyE_ready (rs := [16]) (by kernel_rfl) (by simp) ?_
                  refine AllReadyE.cons (o := { dst := some 80, op := Go.Op.call { callee := Go.Callee.builtin Go.Builtin.append, args := #[Go.Operand.tmp 65, Go.Operand.tmp 79], argTypes := #[23, 23] }, type := 23, pos := "l7_sight.go:158", after := #[{ on := 1, ground := Go.Ground.data }, { on := 15, ground := Go.Ground.data }, { on := 12, ground := Go.Ground.chain }], guard := none }) rfl (fun K hK => ?_) AllReadyE.nil
                  have hlo := dS.var.lt
                  refine step_append_GroundS (by rfl) _ _ (by rfl) (o + 1) _ _ ts [⟨((a0 : Int) + (1 + (r : Int))), min 3000 (max 0 (ln - z1)) * z2⟩] (by rfl) (by rfl) dS.row (RdR.one2 (c := 1) ⟨((a0 : Int) + (1 + (r : Int))), min 3000 (max 0 (ln - z1)) * z2⟩ (World.block_lt_of_cell? _ _ b0) (Nat.le_refl _) (by unfold maxLen; decide) b0 b1) hLL.out (by omega) ?_
                  intro v6 w6 o2 hg2 hat6
                  obtain ⟨ad2, cd2, rfl, -⟩ := o2.rd.len
                  have dP := dS.push o2 hg2
                  have hlo2 : o < w6.heap.size := Nat.lt_of_lt_of_le hlo hg2.size
                  have OP : Var4 w6 o (.int .i64 D) (.int .i64 A) (.int .i64 B) _ := dS.var.below ((Below.refl (o + 1) _).grown hg2 (by omega) (fun i hi => (dS.row.lt i hi).1)) (by omega)
                  replace hzp : w.heap.size < w6.heap.size := Nat.lt_of_lt_of_le hzp hg2.size
                  clear b0 b1 dS
                  have j3 := OP.c3
                  have jf := OP.fz 3
                  try go_simp
                  refine hK.out _ _ (fun _ => ?_) (fun hHeld => ?_)
                  · exact OP.c3
                  replace hHeld := hHeld rfl
                  clear hK K
                  try simp only [Act.put, List.setIfInBounds_toArray, List.set_cons_zero, List.set_cons_succ]
                  refine wpAnyE_take (i := 17) (oi := { dst := some 81, op := Go.Op.fieldAddr 25 (Go.Operand.tmp 3) 3, type := 0, pos := "l7_sight.go:158", after := #[{ on := 0, ground := Go.Ground.phase }, { on := 1, ground := Go.Ground.phase }, { on := 2, ground := Go.Ground.phase }, { on := 3, ground := Go.Ground.phase }, { on := 4, ground := Go.Ground.phase }, { on := 5, ground := Go.Ground.phase }, { on := 6, ground := Go.Ground.phase }, { on := 7, ground := Go.Ground.phase }, { on := 8, ground := Go.Ground.phase }, { on := 9, ground := Go.Ground.phase }, { on := 10, ground := Go.Ground.phase }, { on := 11, ground := Go.Ground.phase }, { on := 12, ground := Go.Ground.phase }, { on := 13, ground := Go.Ground.phase }, { on := 14, ground := Go.Ground.phase }, { on := 15, ground := Go.Ground.phase }, { on := 16, ground := Go.Ground.phase }], guard := none }) (v := ?_) [18] rfl (by kernel_rfl) (by kernel_rfl) (by kernel_rfl) (by kernel_rfl) (fun j hj => by first | (have e : j = 18 := by simpa using hj); (subst e; rfl)) (by kernel_rfl) (fun _ _ _ h => h) (Or.inl ⟨by rfl, ?_⟩) hHeld ?_
                  rotate_left
                  · intro w hSw; (try dsimp only at hSw); go_simp; try with_reducible rfl
                  try simp only [Act.put, List.setIfInBounds_toArray, List.set_cons_zero, List.set_cons_succ]
                  refine wpAnyE_ready (rs := [18]) (by kernel_rfl) (by simp) ?_
                  refine AllReadyE.cons (o := { dst := none, op := Go.Op.store 23 (Go.Operand.tmp 81) (Go.Operand.tmp 80), type := 0, pos := "l7_sight.go:158", after := #[{ on := 17, ground := Go.Ground.data }, { on := 16, ground := Go.Ground.data }, { on := 16, ground := Go.Ground.chain }, { on := 0, ground := Go.Ground.phase }, { on := 1, ground := Go.Ground.phase }, { on := 2, ground := Go.Ground.phase }, { on := 3, ground := Go.Ground.phase }, { on := 4, ground := Go.Ground.phase }, { on := 5, ground := Go.Ground.phase }, { on := 6, ground := Go.Ground.phase }, { on := 7, ground := Go.Ground.phase }, { on := 8, ground := Go.Ground.phase }, { on := 9, ground := Go.Ground.phase }, { on := 10, ground := Go.Ground.phase }, { on := 11, ground := Go.Ground.phase }, { on := 12, ground := Go.Ground.phase }, { on := 13, ground := Go.Ground.phase }, { on := 14, ground := Go.Ground.phase }, { on := 15, ground := Go.Ground.phase }, { on := 16, ground := Go.Ground.phase }], guard := none }) rfl (fun K hK => ?_) AllReadyE.nil
                  go_simp
                  refine hK.out _ _ (fun h => absurd h (by decide)) (fun _ => ?_)
                  clear hK K
                  try simp only [Act.put, List.setIfInBounds_toArray, List.set_cons_zero, List.set_cons_succ]
                  refine wpAnyE_done (by kernel_rfl) ?_ _
                  have hzF : w.heap.size < (w6.setCell ⟨o, 3, none⟩ (.slice ad2 (ts ++ [(⟨((a0 : Int) + (1 + (r : Int))), min 3000 (max 0 (ln - z1)) * z2⟩ : T2)]).length cd2)).heap.size := by simpa [World.setCell] using hzp
                  have hlen2 : (ts ++ [(⟨((a0 : Int) + (1 + (r : Int))), min 3000 (max 0 (ln - z1)) * z2⟩ : T2)]).length = ts.length + 1 := by simp
                  rw [hlen2] at dP hzF
                  go_wp2
                  go_roundw
                  case rel => exact ⟨a0 + (1 + r), K' + 2 + 2 + 2, _, ts ++ [⟨((a0 : Int) + (1 + (r : Int))), min 3000 (max 0 (ln - z1)) * z2⟩], by go_num, by omega, by rw [hlen2]; omega, by rw [hlen2]; omega, dP, hzF⟩
                  case measure => simp [intOf]; omega
                refine AllReadyE.cons (o := { dst := some 75, op := Go.Op.buildSlice 30 4 #[(0, Go.Operand.const (Go.Value.int Go.IntKind.i64 0)), (1, Go.Operand.const (Go.Value.int Go.IntKind.i64 1)), (2, Go.Operand.const (Go.Value.int Go.IntKind.i64 1)), (3, Go.Operand.const (Go.Value.int Go.IntKind.i64 1))], type := 30, pos := "l7_sight.go:158", after := #[], guard := none }) rfl (fun K hK => ?_) AllReadyE.nil
                go_simp
                refine hK.out _ _ (fun _ => ?_) (fun hHeld => ?_)
                · exact (dS.alloc _).var.c3
                replace hHeld := hHeld rfl
                clear hK K
                try simp only [Act.put, List.setIfInBounds_toArray, List.set_cons_zero, List.set_cons_succ]
                refine wpAnyE_name ?_
                intro w7 hw7
                try rw [← hw7] at hHeld
                have hb7 := below_alloc hw7
                have hnlb : w2.heap.size ≠ p := by have := dS.d0.cur.lt; omega
                have lb : LS w7 w2.heap.size [0, 1, 1, 1] := by rw [hw7]; exact LS.new w2 [0, 1, 1, 1] _
                replace hzp : w.heap.size < w7.heap.size := Nat.lt_of_lt_of_le hzp hb7.size
                clear hw7
                replace dS := dS.below hb7
                refine wpAnyE_ready (rs := [9]) (by kernel_rfl) (by simp) ?_
                refine AllReadyE.cons (o := { dst := some 73, op := Go.Op.call { callee := Go.Callee.value (Go.Operand.func 61), args := #[Go.Operand.const (Go.Value.int Go.IntKind.i64 3000), Go.Operand.tmp 72], argTypes := #[3, 3] }, type := 3, pos := "l7_sight.go:158", after := #[{ on := 8, ground := Go.Ground.data }, { on := 8, ground := Go.Ground.chain }], guard := none }) rfl (fun K hK => ?_) AllReadyE.nil
                go_simp
                refine (l1Least_any 3000 (max 0 (ln - z1)) _).mono ?_
                rintro e w' ⟨rfl, rfl⟩
                try go_simp
                refine hK.out _ _ (fun _ => ?_) (fun hHeld => ?_)
                · exact dS.var.c3
                replace hHeld := hHeld rfl
                clear hK K
                try simp only [Act.put, List.setIfInBounds_toArray, List.set_cons_zero, List.set_cons_succ]
                refine wpAnyE_ready (rs := [12]) (by kernel_rfl) (by simp) ?_
                refine AllReadyE.cons (o := { dst := some 76, op := Go.Op.call { callee := Go.Callee.value (Go.Operand.func 66), args := #[Go.Operand.tmp 74, Go.Operand.tmp 75], argTypes := #[63, 30] }, type := 3, pos := "l7_sight.go:158", after := #[{ on := 10, ground := Go.Ground.data }, { on := 11, ground := Go.Ground.data }, { on := 9, ground := Go.Ground.chain }], guard := none }) rfl (fun K hK => ?_) AllReadyE.nil
                go_simp
                refine (among_ls p (K' + 2 + 2) _ 4 _ _ dS.d0.cur (by omega) (by rfl) (by omega) (by omega) lb hnlb).mono ?_
                rintro e w8 ⟨z2, hz2, rfl, hC, hk⟩
                simp only [List.mem_cons, List.not_mem_nil, or_false] at hz2
                replace hzp : w.heap.size < w8.heap.size := Nat.lt_of_lt_of_le hzp hk.size
                replace dS := dS.go hC hk
                clear hC
                clear hk
                have hz2' : 0 ≤ z2 ∧ z2 ≤ 1 := by omega
                have hpy := mul_le (a := min 3000 (max 0 (ln - z1))) (b := z2) (x := 3000) (y := 1) (by omega) hz2'.1 (by omega) hz2'.2
                have ew2 : IntKind.i64.wrap (min 3000 (max 0 (ln - z1)) * z2) = min 3000 (max 0 (ln - z1)) * z2 := IntWalk.i64_in _ (by omega)
                try go_simp
                refine hK.out _ _ (fun _ => ?_) (fun hHeld => ?_)
                · exact dS.var.c3
                replace hHeld := hHeld rfl
                clear hK K
                try simp only [Act.put, List.setIfInBounds_toArray, List.set_cons_zero, List.set_cons_succ]
                refine wpAnyE_take (i := 13) (oi := { dst := some 77, op := Go.Op.binOp Go.BinOp.mul 3 (Go.Operand.tmp 73) (Go.Operand.tmp 76) 3, type := 3, pos := "l7_sight.go:158", after := #[{ on := 9, ground := Go.Ground.data }, { on := 12, ground := Go.Ground.data }], guard := none }) (v := ?_) [14, 15, 16, 17, 18] rfl (by kernel_rfl) (by kernel_rfl) (by kernel_rfl) (by kernel_rfl) (fun j hj => by first | (have e : j = 18 := by simpa using hj); (subst e; rfl)) (by kernel_rfl) (fun _ _ _ h => h) (Or.inl ⟨by rfl, ?_⟩) hHeld ?_
                rotate_left
                · intro w hSw; (try dsimp only at hSw); go_simp; try with_reducible rfl
                try simp only [Act.put, List.setIfInBounds_toArray, List.set_cons_zero, List.set_cons_succ]
                refine wpAnyE_take (i := 14) (oi := { dst := some 78, op := Go.Op.build 72 #[(0, Go.Operand.tmp 66), (1, Go.Operand.tmp 77)], type := 72, pos := "l7_sight.go:158", after := #[{ on := 2, ground := Go.Ground.data }, { on := 13, ground := Go.Ground.data }], guard := none }) (v := ?_) [15, 16, 17, 18] rfl (by kernel_rfl) (by kernel_rfl) (by kernel_rfl) (by kernel_rfl) (fun j hj => by first | (have e : j = 18 := by simpa using hj); (subst e; rfl)) (by kernel_rfl) (fun _ _ _ h => h) (Or.inl ⟨by rfl, ?_⟩) hHeld ?_
                rotate_left
                · intro w hSw; (try dsimp only at hSw); go_simp; try with_reducible rfl
                try simp only [Act.put, List.setIfInBounds_toArray, List.set_cons_zero, List.set_cons_succ]
                refine wpAnyE_ready (rs := [15]) (by kernel_rfl) (by simp) ?_
                refine AllReadyE.cons (o := { dst := some 79, op := Go.Op.buildSlice 23 1 #[(0, Go.Operand.tmp 78)], type := 23, pos := "l7_sight.go:158", after := #[{ on := 14, ground := Go.Ground.data }], guard := none }) rfl (fun K hK => ?_) AllReadyE.nil
                go_simp
                refine hK.out _ _ (fun _ => ?_) (fun hHeld => ?_)
                · exact (dS.alloc _).var.c3
                replace hHeld := hHeld rfl
                clear hK K
                try simp only [Act.put, List.setIfInBounds_toArray, List.set_cons_zero, List.set_cons_succ]
                refine wpAnyE_name ?_
                intro w9 hw9
                try rw [← hw9] at hHeld
                have hb9 := below_alloc hw9
                have b0 : w9.cell? ⟨w8.heap.size, 0, none⟩ = some (.int .i64 ((a0 : Int) + (1 + (r : Int)))) := by rw [hw9]; simp [go_sem]
                have b1 : w9.cell? ⟨w8.heap.size, 1, none⟩ = some (.int .i64 (min 3000 (max 0 (ln - z1)) * z2)) := by rw [hw9]; simp [go_sem]
                replace hzp : w.heap.size < w9.heap.size := Nat.lt_of_lt_of_le hzp hb9.size
                clear hw9
                replace dS := dS.below hb9
                refine wpAnyE_ready (rs := [16]) (by kernel_rfl) (by simp) ?_
                refine AllReadyE.cons (o := { dst := some 80, op := Go.Op.call { callee := Go.Callee.builtin Go.Builtin.append, args := #[Go.Operand.tmp 65, Go.Operand.tmp 79], argTypes := #[23, 23] }, type := 23, pos := "l7_sight.go:158", after := #[{ on := 1, ground := Go.Ground.data }, { on := 15, ground := Go.Ground.data }, { on := 12, ground := Go.Ground.chain }], guard := none }) rfl (fun K hK => ?_) AllReadyE.nil
                have hlo := dS.var.lt
                refine step_append_GroundS (by rfl) _ _ (by rfl) (o + 1) _ _ ts [⟨((a0 : Int) + (1 + (r : Int))), min 3000 (max 0 (ln - z1)) * z2⟩] (by rfl) (by rfl) dS.row (RdR.one2 (c := 1) ⟨((a0 : Int) + (1 + (r : Int))), min 3000 (max 0 (ln - z1)) * z2⟩ (World.block_lt_of_cell? _ _ b0) (Nat.le_refl _) (by unfold maxLen; decide) b0 b1) hLL.out (by omega) ?_
                intro v10 w10 o2 hg2 hat10
                obtain ⟨ad2, cd2, rfl, -⟩ := o2.rd.len
                have dP := dS.push o2 hg2
                have hlo2 : o < w10.heap.size := Nat.lt_of_lt_of_le hlo hg2.size
                have OP : Var4 w10 o (.int .i64 D) (.int .i64 A) (.int .i64 B) _ := dS.var.below ((Below.refl (o + 1) _).grown hg2 (by omega) (fun i hi => (dS.row.lt i hi).1)) (by omega)
                replace hzp : w.heap.size < w10.heap.size := Nat.lt_of_lt_of_le hzp hg2.size
                clear b0 b1 dS
                have j3 := OP.c3
                have jf := OP.fz 3
                try go_simp
                refine hK.out _ _ (fun _ => ?_) (fun hHeld => ?_)
                · exact OP.c3
                replace hHeld := hHeld rfl
                clear hK K
                try simp only [Act.put, List.setIfInBounds_toArray, List.set_cons_zero, List.set_cons_succ]
                refine wpAnyE_take (i := 17) (oi := { dst := some 81, op := Go.Op.fieldAddr 25 (Go.Operand.tmp 3) 3, type := 0, pos := "l7_sight.go:158", after := #[{ on := 0, ground := Go.Ground.phase }, { on := 1, ground := Go.Ground.phase }, { on := 2, ground := Go.Ground.phase }, { on := 3, ground := Go.Ground.phase }, { on := 4, ground := Go.Ground.phase }, { on := 5, ground := Go.Ground.phase }, { on := 6, ground := Go.Ground.phase }, { on := 7, ground := Go.Ground.phase }, { on := 8, ground := Go.Ground.phase }, { on := 9, ground := Go.Ground.phase }, { on := 10, ground := Go.Ground.phase }, { on := 11, ground := Go.Ground.phase }, { on := 12, ground := Go.Ground.phase }, { on := 13, ground := Go.Ground.phase }, { on := 14, ground := Go.Ground.phase }, { on := 15, ground := Go.Ground.phase }, { on := 16, ground := Go.Ground.phase }], guard := none }) (v := ?_) [18] rfl (by kernel_rfl) (by kernel_rfl) (by kernel_rfl) (by kernel_rfl) (fun j hj => by first | (have e : j = 18 := by simpa using hj); (subst e; rfl)) (by kernel_rfl) (fun _ _ _ h => h) (Or.inl ⟨by rfl, ?_⟩) hHeld ?_
                rotate_left
                · intro w hSw; (try dsimp only at hSw); go_simp; try with_reducible rfl
                try simp only [Act.put, List.setIfInBounds_toArray, List.set_cons_zero, List.set_cons_succ]
                refine wpAnyE_ready (rs := [18]) (by kernel_rfl) (by simp) ?_
                refine AllReadyE.cons (o := { dst := none, op := Go.Op.store 23 (Go.Operand.tmp 81) (Go.Operand.tmp 80), type := 0, pos := "l7_sight.go:158", after := #[{ on := 17, ground := Go.Ground.data }, { on := 16, ground := Go.Ground.data }, { on := 16, ground := Go.Ground.chain }, { on := 0, ground := Go.Ground.phase }, { on := 1, ground := Go.Ground.phase }, { on := 2, ground := Go.Ground.phase }, { on := 3, ground := Go.Ground.phase }, { on := 4, ground := Go.Ground.phase }, { on := 5, ground := Go.Ground.phase }, { on := 6, ground := Go.Ground.phase }, { on := 7, ground := Go.Ground.phase }, { on := 8, ground := Go.Ground.phase }, { on := 9, ground := Go.Ground.phase }, { on := 10, ground := Go.Ground.phase }, { on := 11, ground := Go.Ground.phase }, { on := 12, ground := Go.Ground.phase }, { on := 13, ground := Go.Ground.phase }, { on := 14, ground := Go.Ground.phase }, { on := 15, ground := Go.Ground.phase }, { on := 16, ground := Go.Ground.phase }], guard := none }) rfl (fun K hK => ?_) AllReadyE.nil
                go_simp
                refine hK.out _ _ (fun h => absurd h (by decide)) (fun _ => ?_)
                clear hK K
                try simp only [Act.put, List.setIfInBounds_toArray, List.set_cons_zero, List.set_cons_succ]
                refine wpAnyE_done (by kernel_rfl) ?_ _
                have hzF : w.heap.size < (w10.setCell ⟨o, 3, none⟩ (.slice ad2 (ts ++ [(⟨((a0 : Int) + (1 + (r : Int))), min 3000 (max 0 (ln - z1)) * z2⟩ : T2)]).length cd2)).heap.size := by simpa [World.setCell] using hzp
                have hlen2 : (ts ++ [(⟨((a0 : Int) + (1 + (r : Int))), min 3000 (max 0 (ln - z1)) * z2⟩ : T2)]).length = ts.length + 1 := by simp
                rw [hlen2] at dP hzF
                go_wp2
                go_roundw
                case rel => exact ⟨a0 + (1 + r), K' + 2 + 2 + 2, _, ts ++ [⟨((a0 : Int) + (1 + (r : Int))), min 3000 (max 0 (ln - z1)) * z2⟩], by go_num, by omega, by rw [hlen2]; omega, by rw [hlen2]; omega, dP, hzF⟩
                case measure => simp [intOf]; omega
              refine AllReadyE.cons (o := { dst := some 75, op := Go.Op.buildSlice 30 4 #[(0, Go.Operand.const (Go.Value.int Go.IntKind.i64 0)), (1, Go.Operand.const (Go.Value.int Go.IntKind.i64 1)), (2, Go.Operand.const (Go.Value.int Go.IntKind.i64 1)), (3, Go.Operand.const (Go.Value.int Go.IntKind.i64 1))], type := 30, pos := "l7_sight.go:158", after := #[], guard := none }) rfl (fun K hK => ?_) AllReadyE.nil
              go_simp
              refine hK.out _ _ (fun _ => ?_) (fun hHeld => ?_)
              · exact (dS.alloc _).var.c3
              replace hHeld := hHeld rfl
              clear hK K
              try simp only [Act.put, List.setIfInBounds_toArray, List.set_cons_zero, List.set_cons_succ]
              refine wpAnyE_name ?_
              intro w11 hw11
              try rw [← hw11] at hHeld
              have hb11 := below_alloc hw11
              have hnlb : w2.heap.size ≠ p := by have := dS.d0.cur.lt; omega
              have lb : LS w11 w2.heap.size [0, 1, 1, 1] := by rw [hw11]; exact LS.new w2 [0, 1, 1, 1] _
              replace hzp : w.heap.size < w11.heap.size := Nat.lt_of_lt_of_le hzp hb11.size
              clear hw11
              replace dS := dS.below hb11
              refine wpAnyE_ready (rs := [8]) (by kernel_rfl) (by simp) ?_
              refine AllReadyE.cons (o := { dst := some 72, op := Go.Op.call { callee := Go.Callee.value (Go.Operand.func 90), args := #[Go.Operand.const (Go.Value.int Go.IntKind.i64 0), Go.Operand.tmp 71], argTypes := #[3, 3] }, type := 3, pos := "l7_sight.go:158", after := #[{ on := 7, ground := Go.Ground.data }, { on := 6, ground := Go.Ground.chain }], guard := none }) rfl (fun K hK => ?_) AllReadyE.nil
              go_simp
              refine (l1Most_any 0 (ln - z1) _).mono ?_
              rintro e w' ⟨rfl, rfl⟩
              try go_simp
              refine hK.out _ _ (fun _ => ?_) (fun hHeld => ?_)
              · exact dS.var.c3
              replace hHeld := hHeld rfl
              clear hK K
              try simp only [Act.put, List.setIfInBounds_toArray, List.set_cons_zero, List.set_cons_succ]
              refine wpAnyE_ready (rs := [9]) (by kernel_rfl) (by simp) ?_
              refine AllReadyE.cons (o := { dst := some 73, op := Go.Op.call { callee := Go.Callee.value (Go.Operand.func 61), args := #[Go.Operand.const (Go.Value.int Go.IntKind.i64 3000), Go.Operand.tmp 72], argTypes := #[3, 3] }, type := 3, pos := "l7_sight.go:158", after := #[{ on := 8, ground := Go.Ground.data }, { on := 8, ground := Go.Ground.chain }], guard := none }) rfl (fun K hK => ?_) AllReadyE.nil
              go_simp
              refine (l1Least_any 3000 (max 0 (ln - z1)) _).mono ?_
              rintro e w' ⟨rfl, rfl⟩
              try go_simp
              refine hK.out _ _ (fun _ => ?_) (fun hHeld => ?_)
              · exact dS.var.c3
              replace hHeld := hHeld rfl
              clear hK K
              try simp only [Act.put, List.setIfInBounds_toArray, List.set_cons_zero, List.set_cons_succ]
              refine wpAnyE_ready (rs := [12]) (by kernel_rfl) (by simp) ?_
              refine AllReadyE.cons (o := { dst := some 76, op := Go.Op.call { callee := Go.Callee.value (Go.Operand.func 66), args := #[Go.Operand.tmp 74, Go.Operand.tmp 75], argTypes := #[63, 30] }, type := 3, pos := "l7_sight.go:158", after := #[{ on := 10, ground := Go.Ground.data }, { on := 11, ground := Go.Ground.data }, { on := 9, ground := Go.Ground.chain }], guard := none }) rfl (fun K hK => ?_) AllReadyE.nil
              go_simp
              refine (among_ls p (K' + 2 + 2) _ 4 _ _ dS.d0.cur (by omega) (by rfl) (by omega) (by omega) lb hnlb).mono ?_
              rintro e w12 ⟨z2, hz2, rfl, hC, hk⟩
              simp only [List.mem_cons, List.not_mem_nil, or_false] at hz2
              replace hzp : w.heap.size < w12.heap.size := Nat.lt_of_lt_of_le hzp hk.size
              replace dS := dS.go hC hk
              clear hC
              clear hk
              have hz2' : 0 ≤ z2 ∧ z2 ≤ 1 := by omega
              have hpy := mul_le (a := min 3000 (max 0 (ln - z1))) (b := z2) (x := 3000) (y := 1) (by omega) hz2'.1 (by omega) hz2'.2
              have ew2 : IntKind.i64.wrap (min 3000 (max 0 (ln - z1)) * z2) = min 3000 (max 0 (ln - z1)) * z2 := IntWalk.i64_in _ (by omega)
              try go_simp
              refine hK.out _ _ (fun _ => ?_) (fun hHeld => ?_)
              · exact dS.var.c3
              replace hHeld := hHeld rfl
              clear hK K
              try simp only [Act.put, List.setIfInBounds_toArray, List.set_cons_zero, List.set_cons_succ]
              refine wpAnyE_take (i := 13) (oi := { dst := some 77, op := Go.Op.binOp Go.BinOp.mul 3 (Go.Operand.tmp 73) (Go.Operand.tmp 76) 3, type := 3, pos := "l7_sight.go:158", after := #[{ on := 9, ground := Go.Ground.data }, { on := 12, ground := Go.Ground.data }], guard := none }) (v := ?_) [14, 15, 16, 17, 18] rfl (by kernel_rfl) (by kernel_rfl) (by kernel_rfl) (by kernel_rfl) (fun j hj => by first | (have e : j = 18 := by simpa using hj); (subst e; rfl)) (by kernel_rfl) (fun _ _ _ h => h) (Or.inl ⟨by rfl, ?_⟩) hHeld ?_
              rotate_left
              · intro w hSw; (try dsimp only at hSw); go_simp; try with_reducible rfl
              try simp only [Act.put, List.setIfInBounds_toArray, List.set_cons_zero, List.set_cons_succ]
              refine wpAnyE_take (i := 14) (oi := { dst := some 78, op := Go.Op.build 72 #[(0, Go.Operand.tmp 66), (1, Go.Operand.tmp 77)], type := 72, pos := "l7_sight.go:158", after := #[{ on := 2, ground := Go.Ground.data }, { on := 13, ground := Go.Ground.data }], guard := none }) (v := ?_) [15, 16, 17, 18] rfl (by kernel_rfl) (by kernel_rfl) (by kernel_rfl) (by kernel_rfl) (fun j hj => by first | (have e : j = 18 := by simpa using hj); (subst e; rfl)) (by kernel_rfl) (fun _ _ _ h => h) (Or.inl ⟨by rfl, ?_⟩) hHeld ?_
              rotate_left
              · intro w hSw; (try dsimp only at hSw); go_simp; try with_reducible rfl
              try simp only [Act.put, List.setIfInBounds_toArray, List.set_cons_zero, List.set_cons_succ]
              refine wpAnyE_ready (rs := [15]) (by kernel_rfl) (by simp) ?_
              refine AllReadyE.cons (o := { dst := some 79, op := Go.Op.buildSlice 23 1 #[(0, Go.Operand.tmp 78)], type := 23, pos := "l7_sight.go:158", after := #[{ on := 14, ground := Go.Ground.data }], guard := none }) rfl (fun K hK => ?_) AllReadyE.nil
              go_simp
              refine hK.out _ _ (fun _ => ?_) (fun hHeld => ?_)
              · exact (dS.alloc _).var.c3
              replace hHeld := hHeld rfl
              clear hK K
              try simp only [Act.put, List.setIfInBounds_toArray, List.set_cons_zero, List.set_cons_succ]
              refine wpAnyE_name ?_
              intro w13 hw13
              try rw [← hw13] at hHeld
              have hb13 := below_alloc hw13
              have b0 : w13.cell? ⟨w12.heap.size, 0, none⟩ = some (.int .i64 ((a0 : Int) + (1 + (r : Int)))) := by rw [hw13]; simp [go_sem]
              have b1 : w13.cell? ⟨w12.heap.size, 1, none⟩ = some (.int .i64 (min 3000 (max 0 (ln - z1)) * z2)) := by rw [hw13]; simp [go_sem]
              replace hzp : w.heap.size < w13.heap.size := Nat.lt_of_lt_of_le hzp hb13.size
              clear hw13
              replace dS := dS.below hb13
              refine wpAnyE_ready (rs := [16]) (by kernel_rfl) (by simp) ?_
              refine AllReadyE.cons (o := { dst := some 80, op := Go.Op.call { callee := Go.Callee.builtin Go.Builtin.append, args := #[Go.Operand.tmp 65, Go.Operand.tmp 79], argTypes := #[23, 23] }, type := 23, pos := "l7_sight.go:158", after := #[{ on := 1, ground := Go.Ground.data }, { on := 15, ground := Go.Ground.data }, { on := 12, ground := Go.Ground.chain }], guard := none }) rfl (fun K hK => ?_) AllReadyE.nil
              have hlo := dS.var.lt
              refine step_append_GroundS (by rfl) _ _ (by rfl) (o + 1) _ _ ts [⟨((a0 : Int) + (1 + (r : Int))), min 3000 (max 0 (ln - z1)) * z2⟩] (by rfl) (by rfl) dS.row (RdR.one2 (c := 1) ⟨((a0 : Int) + (1 + (r : Int))), min 3000 (max 0 (ln - z1)) * z2⟩ (World.block_lt_of_cell? _ _ b0) (Nat.le_refl _) (by unfold maxLen; decide) b0 b1) hLL.out (by omega) ?_
              intro v14 w14 o2 hg2 hat14
              obtain ⟨ad2, cd2, rfl, -⟩ := o2.rd.len
              have dP := dS.push o2 hg2
              have hlo2 : o < w14.heap.size := Nat.lt_of_lt_of_le hlo hg2.size
              have OP : Var4 w14 o (.int .i64 D) (.int .i64 A) (.int .i64 B) _ := dS.var.below ((Below.refl (o + 1) _).grown hg2 (by omega) (fun i hi => (dS.row.lt i hi).1)) (by omega)
              replace hzp : w.heap.size < w14.heap.size := Nat.lt_of_lt_of_le hzp hg2.size
              clear b0 b1 dS
              have j3 := OP.c3
              have jf := OP.fz 3
              try go_simp
              refine hK.out _ _ (fun _ => ?_) (fun hHeld => ?_)
              · exact OP.c3
              replace hHeld := hHeld rfl
              clear hK K
              try simp only [Act.put, List.setIfInBounds_toArray, List.set_cons_zero, List.set_cons_succ]
              refine wpAnyE_take (i := 17) (oi := { dst := some 81, op := Go.Op.fieldAddr 25 (Go.Operand.tmp 3) 3, type := 0, pos := "l7_sight.go:158", after := #[{ on := 0, ground := Go.Ground.phase }, { on := 1, ground := Go.Ground.phase }, { on := 2, ground := Go.Ground.phase }, { on := 3, ground := Go.Ground.phase }, { on := 4, ground := Go.Ground.phase }, { on := 5, ground := Go.Ground.phase }, { on := 6, ground := Go.Ground.phase }, { on := 7, ground := Go.Ground.phase }, { on := 8, ground := Go.Ground.phase }, { on := 9, ground := Go.Ground.phase }, { on := 10, ground := Go.Ground.phase }, { on := 11, ground := Go.Ground.phase }, { on := 12, ground := Go.Ground.phase }, { on := 13, ground := Go.Ground.phase }, { on := 14, ground := Go.Ground.phase }, { on := 15, ground := Go.Ground.phase }, { on := 16, ground := Go.Ground.phase }], guard := none }) (v := ?_) [18] rfl (by kernel_rfl) (by kernel_rfl) (by kernel_rfl) (by kernel_rfl) (fun j hj => by first | (have e : j = 18 := by simpa using hj); (subst e; rfl)) (by kernel_rfl) (fun _ _ _ h => h) (Or.inl ⟨by rfl, ?_⟩) hHeld ?_
              rotate_left
              · intro w hSw; (try dsimp only at hSw); go_simp; try with_reducible rfl
              try simp only [Act.put, List.setIfInBounds_toArray, List.set_cons_zero, List.set_cons_succ]
              refine wpAnyE_ready (rs := [18]) (by kernel_rfl) (by simp) ?_
              refine AllReadyE.cons (o := { dst := none, op := Go.Op.store 23 (Go.Operand.tmp 81) (Go.Operand.tmp 80), type := 0, pos := "l7_sight.go:158", after := #[{ on := 17, ground := Go.Ground.data }, { on := 16, ground := Go.Ground.data }, { on := 16, ground := Go.Ground.chain }, { on := 0, ground := Go.Ground.phase }, { on := 1, ground := Go.Ground.phase }, { on := 2, ground := Go.Ground.phase }, { on := 3, ground := Go.Ground.phase }, { on := 4, ground := Go.Ground.phase }, { on := 5, ground := Go.Ground.phase }, { on := 6, ground := Go.Ground.phase }, { on := 7, ground := Go.Ground.phase }, { on := 8, ground := Go.Ground.phase }, { on := 9, ground := Go.Ground.phase }, { on := 10, ground := Go.Ground.phase }, { on := 11, ground := Go.Ground.phase }, { on := 12, ground := Go.Ground.phase }, { on := 13, ground := Go.Ground.phase }, { on := 14, ground := Go.Ground.phase }, { on := 15, ground := Go.Ground.phase }, { on := 16, ground := Go.Ground.phase }], guard := none }) rfl (fun K hK => ?_) AllReadyE.nil
              go_simp
              refine hK.out _ _ (fun h => absurd h (by decide)) (fun _ => ?_)
              clear hK K
              try simp only [Act.put, List.setIfInBounds_toArray, List.set_cons_zero, List.set_cons_succ]
              refine wpAnyE_done (by kernel_rfl) ?_ _
              have hzF : w.heap.size < (w14.setCell ⟨o, 3, none⟩ (.slice ad2 (ts ++ [(⟨((a0 : Int) + (1 + (r : Int))), min 3000 (max 0 (ln - z1)) * z2⟩ : T2)]).length cd2)).heap.size := by simpa [World.setCell] using hzp
              have hlen2 : (ts ++ [(⟨((a0 : Int) + (1 + (r : Int))), min 3000 (max 0 (ln - z1)) * z2⟩ : T2)]).length = ts.length + 1 := by simp
              rw [hlen2] at dP hzF
              go_wp2
              go_roundw
              case rel => exact ⟨a0 + (1 + r), K' + 2 + 2 + 2, _, ts ++ [⟨((a0 : Int) + (1 + (r : Int))), min 3000 (max 0 (ln - z1)) * z2⟩], by go_num, by omega, by rw [hlen2]; omega, by rw [hlen2]; omega, dP, hzF⟩
              case measure => simp [intOf]; omega
            refine AllReadyE.cons (o := { dst := some 75, op := Go.Op.buildSlice 30 4 #[(0, Go.Operand.const (Go.Value.int Go.IntKind.i64 0)), (1, Go.Operand.const (Go.Value.int Go.IntKind.i64 1)), (2, Go.Operand.const (Go.Value.int Go.IntKind.i64 1)), (3, Go.Operand.const (Go.Value.int Go.IntKind.i64 1))], type := 30, pos := "l7_sight.go:158", after := #[], guard := none }) rfl (fun K hK => ?_) AllReadyE.nil
            go_simp
            refine hK.out _ _ (fun _ => ?_) (fun hHeld => ?_)
            · exact (dS.alloc _).var.c3
            replace hHeld := hHeld rfl
            clear hK K
            try simp only [Act.put, List.setIfInBounds_toArray, List.set_cons_zero, List.set_cons_succ]
            refine wpAnyE_name ?_
            intro w15 hw15
            try rw [← hw15] at hHeld
            have hb15 := below_alloc hw15
            have hnlb : w1.heap.size ≠ p := by have := dS.d0.cur.lt; omega
            have lb : LS w15 w1.heap.size [0, 1, 1, 1] := by rw [hw15]; exact LS.new w1 [0, 1, 1, 1] _
            replace hzp : w.heap.size < w15.heap.size := Nat.lt_of_lt_of_le hzp hb15.size
            clear hw15
            replace dS := dS.below hb15
            replace la := la.below hb15
            refine wpAnyE_ready (rs := [6]) (by kernel_rfl) (by simp) ?_
            refine AllReadyE.cons (o := { dst := some 70, op := Go.Op.call { callee := Go.Callee.value (Go.Operand.func 66), args := #[Go.Operand.tmp 68, Go.Operand.tmp 69], argTypes := #[63, 30] }, type := 3, pos := "l7_sight.go:158", after := #[{ on := 4, ground := Go.Ground.data }, { on := 5, ground := Go.Ground.data }], guard := none }) rfl (fun K hK => ?_) AllReadyE.nil
            go_simp
            refine (among_ls p (K' + 2) _ 8 _ _ dS.d0.cur (by omega) (by rfl) (by omega) (by omega) la hnla).mono ?_
            rintro e w16 ⟨z1, hz1, rfl, hC, hk⟩
            simp only [List.mem_cons, List.not_mem_nil, or_false] at hz1
            replace hzp : w.heap.size < w16.heap.size := Nat.lt_of_lt_of_le hzp hk.size
            replace dS := dS.go hC hk
            replace lb := lb.go hk hnlb
            clear hC
            clear hk
            have hz1' : 0 ≤ z1 ∧ z1 ≤ 400 := by omega
            have ew1 : IntKind.i64.wrap (ln - z1) = ln - z1 := IntWalk.i64_in _ (by omega)
            try go_simp
            refine hK.out _ _ (fun _ => ?_) (fun hHeld => ?_)
            · exact dS.var.c3
            replace hHeld := hHeld rfl
            clear hK K
            try simp only [Act.put, List.setIfInBounds_toArray, List.set_cons_zero, List.set_cons_succ]
            refine wpAnyE_take (i := 7) (oi := { dst := some 71, op := Go.Op.binOp Go.BinOp.sub 3 (Go.Operand.tmp 67) (Go.Operand.tmp 70) 3, type := 3, pos := "l7_sight.go:158", after := #[{ on := 3, ground := Go.Ground.data }, { on := 6, ground := Go.Ground.data }], guard := none }) (v := ?_) [8, 9, 12, 13, 14, 15, 16, 17, 18] rfl (by kernel_rfl) (by kernel_rfl) (by kernel_rfl) (by kernel_rfl) (fun j hj => by first | (have e : j = 18 := by simpa using hj); (subst e; rfl)) (by kernel_rfl) (fun _ _ _ h => h) (Or.inl ⟨by rfl, ?_⟩) hHeld ?_
            rotate_left
            · intro w hSw; (try dsimp only at hSw); go_simp; try with_reducible rfl
            try simp only [Act.put, List.setIfInBounds_toArray, List.set_cons_zero, List.set_cons_succ]
            refine wpAnyE_ready (rs := [8]) (by kernel_rfl) (by simp) ?_
            refine AllReadyE.cons (o := { dst := some 72, op := Go.Op.call { callee := Go.Callee.value (Go.Operand.func 90), args := #[Go.Operand.const (Go.Value.int Go.IntKind.i64 0), Go.Operand.tmp 71], argTypes := #[3, 3] }, type := 3, pos := "l7_sight.go:158", after := #[{ on := 7, ground := Go.Ground.data }, { on := 6, ground := Go.Ground.chain }], guard := none }) rfl (fun K hK => ?_) AllReadyE.nil
            go_simp
            refine (l1Most_any 0 (ln - z1) _).mono ?_
            rintro e w' ⟨rfl, rfl⟩
            try go_simp
            refine hK.out _ _ (fun _ => ?_) (fun hHeld => ?_)
            · exact dS.var.c3
            replace hHeld := hHeld rfl
            clear hK K
            try simp only [Act.put, List.setIfInBounds_toArray, List.set_cons_zero, List.set_cons_succ]
            refine wpAnyE_ready (rs := [9]) (by kernel_rfl) (by simp) ?_
            refine AllReadyE.cons (o := { dst := some 73, op := Go.Op.call { callee := Go.Callee.value (Go.Operand.func 61), args := #[Go.Operand.const (Go.Value.int Go.IntKind.i64 3000), Go.Operand.tmp 72], argTypes := #[3, 3] }, type := 3, pos := "l7_sight.go:158", after := #[{ on := 8, ground := Go.Ground.data }, { on := 8, ground := Go.Ground.chain }], guard := none }) rfl (fun K hK => ?_) AllReadyE.nil
            go_simp
            refine (l1Least_any 3000 (max 0 (ln - z1)) _).mono ?_
            rintro e w' ⟨rfl, rfl⟩
            try go_simp
            refine hK.out _ _ (fun _ => ?_) (fun hHeld => ?_)
            · exact dS.var.c3
            replace hHeld := hHeld rfl
            clear hK K
            try simp only [Act.put, List.setIfInBounds_toArray, List.set_cons_zero, List.set_cons_succ]
            refine wpAnyE_ready (rs := [12]) (by kernel_rfl) (by simp) ?_
            refine AllReadyE.cons (o := { dst := some 76, op := Go.Op.call { callee := Go.Callee.value (Go.Operand.func 66), args := #[Go.Operand.tmp 74, Go.Operand.tmp 75], argTypes := #[63, 30] }, type := 3, pos := "l7_sight.go:158", after := #[{ on := 10, ground := Go.Ground.data }, { on := 11, ground := Go.Ground.data }, { on := 9, ground := Go.Ground.chain }], guard := none }) rfl (fun K hK => ?_) AllReadyE.nil
            go_simp
            refine (among_ls p (K' + 2 + 2) _ 4 _ _ dS.d0.cur (by omega) (by rfl) (by omega) (by omega) lb hnlb).mono ?_
            rintro e w17 ⟨z2, hz2, rfl, hC, hk⟩
            simp only [List.mem_cons, List.not_mem_nil, or_false] at hz2
            replace hzp : w.heap.size < w17.heap.size := Nat.lt_of_lt_of_le hzp hk.size
            replace dS := dS.go hC hk
            clear hC
            clear hk
            have hz2' : 0 ≤ z2 ∧ z2 ≤ 1 := by omega
            have hpy := mul_le (a := min 3000 (max 0 (ln - z1))) (b := z2) (x := 3000) (y := 1) (by omega) hz2'.1 (by omega) hz2'.2
            have ew2 : IntKind.i64.wrap (min 3000 (max 0 (ln - z1)) * z2) = min 3000 (max 0 (ln - z1)) * z2 := IntWalk.i64_in _ (by omega)
            try go_simp
            refine hK.out _ _ (fun _ => ?_) (fun hHeld => ?_)
            · exact dS.var.c3
            replace hHeld := hHeld rfl
            clear hK K
            try simp only [Act.put, List.setIfInBounds_toArray, List.set_cons_zero, List.set_cons_succ]
            refine wpAnyE_take (i := 13) (oi := { dst := some 77, op := Go.Op.binOp Go.BinOp.mul 3 (Go.Operand.tmp 73) (Go.Operand.tmp 76) 3, type := 3, pos := "l7_sight.go:158", after := #[{ on := 9, ground := Go.Ground.data }, { on := 12, ground := Go.Ground.data }], guard := none }) (v := ?_) [14, 15, 16, 17, 18] rfl (by kernel_rfl) (by kernel_rfl) (by kernel_rfl) (by kernel_rfl) (fun j hj => by first | (have e : j = 18 := by simpa using hj); (subst e; rfl)) (by kernel_rfl) (fun _ _ _ h => h) (Or.inl ⟨by rfl, ?_⟩) hHeld ?_
            rotate_left
            · intro w hSw; (try dsimp only at hSw); go_simp; try with_reducible rfl
            try simp only [Act.put, List.setIfInBounds_toArray, List.set_cons_zero, List.set_cons_succ]
            refine wpAnyE_take (i := 14) (oi := { dst := some 78, op := Go.Op.build 72 #[(0, Go.Operand.tmp 66), (1, Go.Operand.tmp 77)], type := 72, pos := "l7_sight.go:158", after := #[{ on := 2, ground := Go.Ground.data }, { on := 13, ground := Go.Ground.data }], guard := none }) (v := ?_) [15, 16, 17, 18] rfl (by kernel_rfl) (by kernel_rfl) (by kernel_rfl) (by kernel_rfl) (fun j hj => by first | (have e : j = 18 := by simpa using hj); (subst e; rfl)) (by kernel_rfl) (fun _ _ _ h => h) (Or.inl ⟨by rfl, ?_⟩) hHeld ?_
            rotate_left
            · intro w hSw; (try dsimp only at hSw); go_simp; try with_reducible rfl
            try simp only [Act.put, List.setIfInBounds_toArray, List.set_cons_zero, List.set_cons_succ]
            refine wpAnyE_ready (rs := [15]) (by kernel_rfl) (by simp) ?_
            refine AllReadyE.cons (o := { dst := some 79, op := Go.Op.buildSlice 23 1 #[(0, Go.Operand.tmp 78)], type := 23, pos := "l7_sight.go:158", after := #[{ on := 14, ground := Go.Ground.data }], guard := none }) rfl (fun K hK => ?_) AllReadyE.nil
            go_simp
            refine hK.out _ _ (fun _ => ?_) (fun hHeld => ?_)
            · exact (dS.alloc _).var.c3
            replace hHeld := hHeld rfl
            clear hK K
            try simp only [Act.put, List.setIfInBounds_toArray, List.set_cons_zero, List.set_cons_succ]
            refine wpAnyE_name ?_
            intro w18 hw18
            try rw [← hw18] at hHeld
            have hb18 := below_alloc hw18
            have b0 : w18.cell? ⟨w17.heap.size, 0, none⟩ = some (.int .i64 ((a0 : Int) + (1 + (r : Int)))) := by rw [hw18]; simp [go_sem]
            have b1 : w18.cell? ⟨w17.heap.size, 1, none⟩ = some (.int .i64 (min 3000 (max 0 (ln - z1)) * z2)) := by rw [hw18]; simp [go_sem]
            replace hzp : w.heap.size < w18.heap.size := Nat.lt_of_lt_of_le hzp hb18.size
            clear hw18
            replace dS := dS.below hb18
            refine wpAnyE_ready (rs := [16]) (by kernel_rfl) (by simp) ?_
            refine AllReadyE.cons (o := { dst := some 80, op := Go.Op.call { callee := Go.Callee.builtin Go.Builtin.append, args := #[Go.Operand.tmp 65, Go.Operand.tmp 79], argTypes := #[23, 23] }, type := 23, pos := "l7_sight.go:158", after := #[{ on := 1, ground := Go.Ground.data }, { on := 15, ground := Go.Ground.data }, { on := 12, ground := Go.Ground.chain }], guard := none }) rfl (fun K hK => ?_) AllReadyE.nil
            have hlo := dS.var.lt
            refine step_append_GroundS (by rfl) _ _ (by rfl) (o + 1) _ _ ts [⟨((a0 : Int) + (1 + (r : Int))), min 3000 (max 0 (ln - z1)) * z2⟩] (by rfl) (by rfl) dS.row (RdR.one2 (c := 1) ⟨((a0 : Int) + (1 + (r : Int))), min 3000 (max 0 (ln - z1)) * z2⟩ (World.block_lt_of_cell? _ _ b0) (Nat.le_refl _) (by unfold maxLen; decide) b0 b1) hLL.out (by omega) ?_
            intro v19 w19 o2 hg2 hat19
            obtain ⟨ad2, cd2, rfl, -⟩ := o2.rd.len
            have dP := dS.push o2 hg2
            have hlo2 : o < w19.heap.size := Nat.lt_of_lt_of_le hlo hg2.size
            have OP : Var4 w19 o (.int .i64 D) (.int .i64 A) (.int .i64 B) _ := dS.var.below ((Below.refl (o + 1) _).grown hg2 (by omega) (fun i hi => (dS.row.lt i hi).1)) (by omega)
            replace hzp : w.heap.size < w19.heap.size := Nat.lt_of_lt_of_le hzp hg2.size
            clear b0 b1 dS
            have j3 := OP.c3
            have jf := OP.fz 3
            try go_simp
            refine hK.out _ _ (fun _ => ?_) (fun hHeld => ?_)
            · exact OP.c3
            replace hHeld := hHeld rfl
            clear hK K
            try simp only [Act.put, List.setIfInBounds_toArray, List.set_cons_zero, List.set_cons_succ]
            refine wpAnyE_take (i := 17) (oi := { dst := some 81, op := Go.Op.fieldAddr 25 (Go.Operand.tmp 3) 3, type := 0, pos := "l7_sight.go:158", after := #[{ on := 0, ground := Go.Ground.phase }, { on := 1, ground := Go.Ground.phase }, { on := 2, ground := Go.Ground.phase }, { on := 3, ground := Go.Ground.phase }, { on := 4, ground := Go.Ground.phase }, { on := 5, ground := Go.Ground.phase }, { on := 6, ground := Go.Ground.phase }, { on := 7, ground := Go.Ground.phase }, { on := 8, ground := Go.Ground.phase }, { on := 9, ground := Go.Ground.phase }, { on := 10, ground := Go.Ground.phase }, { on := 11, ground := Go.Ground.phase }, { on := 12, ground := Go.Ground.phase }, { on := 13, ground := Go.Ground.phase }, { on := 14, ground := Go.Ground.phase }, { on := 15, ground := Go.Ground.phase }, { on := 16, ground := Go.Ground.phase }], guard := none }) (v := ?_) [18] rfl (by kernel_rfl) (by kernel_rfl) (by kernel_rfl) (by kernel_rfl) (fun j hj => by first | (have e : j = 18 := by simpa using hj); (subst e; rfl)) (by kernel_rfl) (fun _ _ _ h => h) (Or.inl ⟨by rfl, ?_⟩) hHeld ?_
            rotate_left
            · intro w hSw; (try dsimp only at hSw); go_simp; try with_reducible rfl
            try simp only [Act.put, List.setIfInBounds_toArray, List.set_cons_zero, List.set_cons_succ]
            refine wpAnyE_ready (rs := [18]) (by kernel_rfl) (by simp) ?_
            refine AllReadyE.cons (o := { dst := none, op := Go.Op.store 23 (Go.Operand.tmp 81) (Go.Operand.tmp 80), type := 0, pos := "l7_sight.go:158", after := #[{ on := 17, ground := Go.Ground.data }, { on := 16, ground := Go.Ground.data }, { on := 16, ground := Go.Ground.chain }, { on := 0, ground := Go.Ground.phase }, { on := 1, ground := Go.Ground.phase }, { on := 2, ground := Go.Ground.phase }, { on := 3, ground := Go.Ground.phase }, { on := 4, ground := Go.Ground.phase }, { on := 5, ground := Go.Ground.phase }, { on := 6, ground := Go.Ground.phase }, { on := 7, ground := Go.Ground.phase }, { on := 8, ground := Go.Ground.phase }, { on := 9, ground := Go.Ground.phase }, { on := 10, ground := Go.Ground.phase }, { on := 11, ground := Go.Ground.phase }, { on := 12, ground := Go.Ground.phase }, { on := 13, ground := Go.Ground.phase }, { on := 14, ground := Go.Ground.phase }, { on := 15, ground := Go.Ground.phase }, { on := 16, ground := Go.Ground.phase }], guard := none }) rfl (fun K hK => ?_) AllReadyE.nil
            go_simp
            refine hK.out _ _ (fun h => absurd h (by decide)) (fun _ => ?_)
            clear hK K
            try simp only [Act.put, List.setIfInBounds_toArray, List.set_cons_zero, List.set_cons_succ]
            refine wpAnyE_done (by kernel_rfl) ?_ _
            have hzF : w.heap.size < (w19.setCell ⟨o, 3, none⟩ (.slice ad2 (ts ++ [(⟨((a0 : Int) + (1 + (r : Int))), min 3000 (max 0 (ln - z1)) * z2⟩ : T2)]).length cd2)).heap.size := by simpa [World.setCell] using hzp
            have hlen2 : (ts ++ [(⟨((a0 : Int) + (1 + (r : Int))), min 3000 (max 0 (ln - z1)) * z2⟩ : T2)]).length = ts.length + 1 := by simp
            rw [hlen2] at dP hzF
            go_wp2
            go_roundw
            case rel => exact ⟨a0 + (1 + r), K' + 2 + 2 + 2, _, ts ++ [⟨((a0 : Int) + (1 + (r : Int))), min 3000 (max 0 (ln - z1)) * z2⟩], by go_num, by omega, by rw [hlen2]; omega, by rw [hlen2]; omega, dP, hzF⟩
            case measure => simp [intOf]; omega
          refine AllReadyE.cons (o := { dst := some 75, op := Go.Op.buildSlice 30 4 #[(0, Go.Operand.const (Go.Value.int Go.IntKind.i64 0)), (1, Go.Operand.const (Go.Value.int Go.IntKind.i64 1)), (2, Go.Operand.const (Go.Value.int Go.IntKind.i64 1)), (3, Go.Operand.const (Go.Value.int Go.IntKind.i64 1))], type := 30, pos := "l7_sight.go:158", after := #[], guard := none }) rfl (fun K hK => ?_) AllReadyE.nil
          go_simp
          refine hK.out _ _ (fun _ => ?_) (fun hHeld => ?_)
          · exact (dS.alloc _).var.c3
          replace hHeld := hHeld rfl
          clear hK K
          try simp only [Act.put, List.setIfInBounds_toArray, List.set_cons_zero, List.set_cons_succ]
          refine wpAnyE_name ?_
          intro w20 hw20
          try rw [← hw20] at hHeld
          have hb20 := below_alloc hw20
          have hnlb : wS.heap.size ≠ p := by have := dS.d0.cur.lt; omega
          have lb : LS w20 wS.heap.size [0, 1, 1, 1] := by rw [hw20]; exact LS.new wS [0, 1, 1, 1] _
          replace hzp : w.heap.size < w20.heap.size := Nat.lt_of_lt_of_le hzp hb20.size
          clear hw20
          replace dS := dS.below hb20
          refine wpAnyE_ready (rs := [5]) (by kernel_rfl) (by simp) ?_
          refine AllReadyE.cons (o := { dst := some 69, op := Go.Op.buildSlice 30 8 #[(0, Go.Operand.const (Go.Value.int Go.IntKind.i64 0)), (1, Go.Operand.const (Go.Value.int Go.IntKind.i64 1)), (2, Go.Operand.const (Go.Value.int Go.IntKind.i64 2)), (3, Go.Operand.const (Go.Value.int Go.IntKind.i64 5)), (4, Go.Operand.const (Go.Value.int Go.IntKind.i64 8)), (5, Go.Operand.const (Go.Value.int Go.IntKind.i64 20)), (6, Go.Operand.const (Go.Value.int Go.IntKind.i64 60)), (7, Go.Operand.const (Go.Value.int Go.IntKind.i64 400))], type := 30, pos := "l7_sight.go:158", after := #[], guard := none }) rfl (fun K hK => ?_) AllReadyE.nil
          go_simp
          refine hK.out _ _ (fun _ => ?_) (fun hHeld => ?_)
          · exact (dS.alloc _).var.c3
          replace hHeld := hHeld rfl
          clear hK K
          try simp only [Act.put, List.setIfInBounds_toArray, List.set_cons_zero, List.set_cons_succ]
          refine wpAnyE_name ?_
          intro w21 hw21
          try rw [← hw21] at hHeld
          have hb21 := below_alloc hw21
          have hnla : w20.heap.size ≠ p := by have := dS.d0.cur.lt; omega
          have la : LS w21 w20.heap.size [0, 1, 2, 5, 8, 20, 60, 400] := by rw [hw21]; exact LS.new w20 [0, 1, 2, 5, 8, 20, 60, 400] _
          replace hzp : w.heap.size < w21.heap.size := Nat.lt_of_lt_of_le hzp hb21.size
          clear hw21
          replace dS := dS.below hb21
          replace lb := lb.below hb21
          refine wpAnyE_ready (rs := [6]) (by kernel_rfl) (by simp) ?_
          refine AllReadyE.cons (o := { dst := some 70, op := Go.Op.call { callee := Go.Callee.value (Go.Operand.func 66), args := #[Go.Operand.tmp 68, Go.Operand.tmp 69], argTypes := #[63, 30] }, type := 3, pos := "l7_sight.go:158", after := #[{ on := 4, ground := Go.Ground.data }, { on := 5, ground := Go.Ground.data }], guard := none }) rfl (fun K hK => ?_) AllReadyE.nil
          go_simp
          refine (among_ls p (K' + 2) _ 8 _ _ dS.d0.cur (by omega) (by rfl) (by omega) (by omega) la hnla).mono ?_
          rintro e w22 ⟨z1, hz1, rfl, hC, hk⟩
          simp only [List.mem_cons, List.not_mem_nil, or_false] at hz1
          replace hzp : w.heap.size < w22.heap.size := Nat.lt_of_lt_of_le hzp hk.size
          replace dS := dS.go hC hk
          replace lb := lb.go hk hnlb
          clear hC
          clear hk
          have hz1' : 0 ≤ z1 ∧ z1 ≤ 400 := by omega
          have ew1 : IntKind.i64.wrap (ln - z1) = ln - z1 := IntWalk.i64_in _ (by omega)
          try go_simp
          refine hK.out _ _ (fun _ => ?_) (fun hHeld => ?_)
          · exact dS.var.c3
          replace hHeld := hHeld rfl
          clear hK K
          try simp only [Act.put, List.setIfInBounds_toArray, List.set_cons_zero, List.set_cons_succ]
          refine wpAnyE_take (i := 7) (oi := { dst := some 71, op := Go.Op.binOp Go.BinOp.sub 3 (Go.Operand.tmp 67) (Go.Operand.tmp 70) 3, type := 3, pos := "l7_sight.go:158", after := #[{ on := 3, ground := Go.Ground.data }, { on := 6, ground := Go.Ground.data }], guard := none }) (v := ?_) [8, 9, 12, 13, 14, 15, 16, 17, 18] rfl (by kernel_rfl) (by kernel_rfl) (by kernel_rfl) (by kernel_rfl) (fun j hj => by first | (have e : j = 18 := by simpa using hj); (subst e; rfl)) (by kernel_rfl) (fun _ _ _ h => h) (Or.inl ⟨by rfl, ?_⟩) hHeld ?_
          rotate_left
          · intro w hSw; (try dsimp only at hSw); go_simp; try with_reducible rfl
          try simp only [Act.put, List.setIfInBounds_toArray, List.set_cons_zero, List.set_cons_succ]
          refine wpAnyE_ready (rs := [8]) (by kernel_rfl) (by simp) ?_
          refine AllReadyE.cons (o := { dst := some 72, op := Go.Op.call { callee := Go.Callee.value (Go.Operand.func 90), args := #[Go.Operand.const (Go.Value.int Go.IntKind.i64 0), Go.Operand.tmp 71], argTypes := #[3, 3] }, type := 3, pos := "l7_sight.go:158", after := #[{ on := 7, ground := Go.Ground.data }, { on := 6, ground := Go.Ground.chain }], guard := none }) rfl (fun K hK => ?_) AllReadyE.nil
          go_simp
          refine (l1Most_any 0 (ln - z1) _).mono ?_
          rintro e w' ⟨rfl, rfl⟩
          try go_simp
          refine hK.out _ _ (fun _ => ?_) (fun hHeld => ?_)
          · exact dS.var.c3
          replace hHeld := hHeld rfl
          clear hK K
          try simp only [Act.put, List.setIfInBounds_toArray, List.set_cons_zero, List.set_cons_succ]
          refine wpAnyE_ready (rs := [9]) (by kernel_rfl) (by simp) ?_
          refine AllReadyE.cons (o := { dst := some 73, op := Go.Op.call { callee := Go.Callee.value (Go.Operand.func 61), args := #[Go.Operand.const (Go.Value.int Go.IntKind.i64 3000), Go.Operand.tmp 72], argTypes := #[3, 3] }, type := 3, pos := "l7_sight.go:158", after := #[{ on := 8, ground := Go.Ground.data }, { on := 8, ground := Go.Ground.chain }], guard := none }) rfl (fun K hK => ?_) AllReadyE.nil
          go_simp
          refine (l1Least_any 3000 (max 0 (ln - z1)) _).mono ?_
          rintro e w' ⟨rfl, rfl⟩
          try go_simp
          refine hK.out _ _ (fun _ => ?_) (fun hHeld => ?_)
          · exact dS.var.c3
          replace hHeld := hHeld rfl
          clear hK K
          try simp only [Act.put, List.setIfInBounds_toArray, List.set_cons_zero, List.set_cons_succ]
          refine wpAnyE_ready (rs := [12]) (by kernel_rfl) (by simp) ?_
          refine AllReadyE.cons (o := { dst := some 76, op := Go.Op.call { callee := Go.Callee.value (Go.Operand.func 66), args := #[Go.Operand.tmp 74, Go.Operand.tmp 75], argTypes := #[63, 30] }, type := 3, pos := "l7_sight.go:158", after := #[{ on := 10, ground := Go.Ground.data }, { on := 11, ground := Go.Ground.data }, { on := 9, ground := Go.Ground.chain }], guard := none }) rfl (fun K hK => ?_) AllReadyE.nil
          go_simp
          refine (among_ls p (K' + 2 + 2) _ 4 _ _ dS.d0.cur (by omega) (by rfl) (by omega) (by omega) lb hnlb).mono ?_
          rintro e w23 ⟨z2, hz2, rfl, hC, hk⟩
          simp only [List.mem_cons, List.not_mem_nil, or_false] at hz2
          replace hzp : w.heap.size < w23.heap.size := Nat.lt_of_lt_of_le hzp hk.size
          replace dS := dS.go hC hk
          clear hC
          clear hk
          have hz2' : 0 ≤ z2 ∧ z2 ≤ 1 := by omega
          have hpy := mul_le (a := min 3000 (max 0 (ln - z1))) (b := z2) (x := 3000) (y := 1) (by omega) hz2'.1 (by omega) hz2'.2
          have ew2 : IntKind.i64.wrap (min 3000 (max 0 (ln - z1)) * z2) = min 3000 (max 0 (ln - z1)) * z2 := IntWalk.i64_in _ (by omega)
          try go_simp
          refine hK.out _ _ (fun _ => ?_) (fun hHeld => ?_)
          · exact dS.var.c3
          replace hHeld := hHeld rfl
          clear hK K
          try simp only [Act.put, List.setIfInBounds_toArray, List.set_cons_zero, List.set_cons_succ]
          refine wpAnyE_take (i := 13) (oi := { dst := some 77, op := Go.Op.binOp Go.BinOp.mul 3 (Go.Operand.tmp 73) (Go.Operand.tmp 76) 3, type := 3, pos := "l7_sight.go:158", after := #[{ on := 9, ground := Go.Ground.data }, { on := 12, ground := Go.Ground.data }], guard := none }) (v := ?_) [14, 15, 16, 17, 18] rfl (by kernel_rfl) (by kernel_rfl) (by kernel_rfl) (by kernel_rfl) (fun j hj => by first | (have e : j = 18 := by simpa using hj); (subst e; rfl)) (by kernel_rfl) (fun _ _ _ h => h) (Or.inl ⟨by rfl, ?_⟩) hHeld ?_
          rotate_left
          · intro w hSw; (try dsimp only at hSw); go_simp; try with_reducible rfl
          try simp only [Act.put, List.setIfInBounds_toArray, List.set_cons_zero, List.set_cons_succ]
          refine wpAnyE_take (i := 14) (oi := { dst := some 78, op := Go.Op.build 72 #[(0, Go.Operand.tmp 66), (1, Go.Operand.tmp 77)], type := 72, pos := "l7_sight.go:158", after := #[{ on := 2, ground := Go.Ground.data }, { on := 13, ground := Go.Ground.data }], guard := none }) (v := ?_) [15, 16, 17, 18] rfl (by kernel_rfl) (by kernel_rfl) (by kernel_rfl) (by kernel_rfl) (fun j hj => by first | (have e : j = 18 := by simpa using hj); (subst e; rfl)) (by kernel_rfl) (fun _ _ _ h => h) (Or.inl ⟨by rfl, ?_⟩) hHeld ?_
          rotate_left
          · intro w hSw; (try dsimp only at hSw); go_simp; try with_reducible rfl
          try simp only [Act.put, List.setIfInBounds_toArray, List.set_cons_zero, List.set_cons_succ]
          refine wpAnyE_ready (rs := [15]) (by kernel_rfl) (by simp) ?_
          refine AllReadyE.cons (o := { dst := some 79, op := Go.Op.buildSlice 23 1 #[(0, Go.Operand.tmp 78)], type := 23, pos := "l7_sight.go:158", after := #[{ on := 14, ground := Go.Ground.data }], guard := none }) rfl (fun K hK => ?_) AllReadyE.nil
          go_simp
          refine hK.out _ _ (fun _ => ?_) (fun hHeld => ?_)
          · exact (dS.alloc _).var.c3
          replace hHeld := hHeld rfl
          clear hK K
          try simp only [Act.put, List.setIfInBounds_toArray, List.set_cons_zero, List.set_cons_succ]
          refine wpAnyE_name ?_
          intro w24 hw24
          try rw [← hw24] at hHeld
          have hb24 := below_alloc hw24
          have b0 : w24.cell? ⟨w23.heap.size, 0, none⟩ = some (.int .i64 ((a0 : Int) + (1 + (r : Int)))) := by rw [hw24]; simp [go_sem]
          have b1 : w24.cell? ⟨w23.heap.size, 1, none⟩ = some (.int .i64 (min 3000 (max 0 (ln - z1)) * z2)) := by rw [hw24]; simp [go_sem]
          replace hzp : w.heap.size < w24.heap.size := Nat.lt_of_lt_of_le hzp hb24.size
          clear hw24
          replace dS := dS.below hb24
          refine wpAnyE_ready (rs := [16]) (by kernel_rfl) (by simp) ?_
          refine AllReadyE.cons (o := { dst := some 80, op := Go.Op.call { callee := Go.Callee.builtin Go.Builtin.append, args := #[Go.Operand.tmp 65, Go.Operand.tmp 79], argTypes := #[23, 23] }, type := 23, pos := "l7_sight.go:158", after := #[{ on := 1, ground := Go.Ground.data }, { on := 15, ground := Go.Ground.data }, { on := 12, ground := Go.Ground.chain }], guard := none }) rfl (fun K hK => ?_) AllReadyE.nil
          have hlo := dS.var.lt
          refine step_append_GroundS (by rfl) _ _ (by rfl) (o + 1) _ _ ts [⟨((a0 : Int) + (1 + (r : Int))), min 3000 (max 0 (ln - z1)) * z2⟩] (by rfl) (by rfl) dS.row (RdR.one2 (c := 1) ⟨((a0 : Int) + (1 + (r : Int))), min 3000 (max 0 (ln - z1)) * z2⟩ (World.block_lt_of_cell? _ _ b0) (Nat.le_refl _) (by unfold maxLen; decide) b0 b1) hLL.out (by omega) ?_
          intro v25 w25 o2 hg2 hat25
          obtain ⟨ad2, cd2, rfl, -⟩ := o2.rd.len
          have dP := dS.push o2 hg2
          have hlo2 : o < w25.heap.size := Nat.lt_of_lt_of_le hlo hg2.size
          have OP : Var4 w25 o (.int .i64 D) (.int .i64 A) (.int .i64 B) _ := dS.var.below ((Below.refl (o + 1) _).grown hg2 (by omega) (fun i hi => (dS.row.lt i hi).1)) (by omega)
          replace hzp : w.heap.size < w25.heap.size := Nat.lt_of_lt_of_le hzp hg2.size
          clear b0 b1 dS
          have j3 := OP.c3
          have jf := OP.fz 3
          try go_simp
          refine hK.out _ _ (fun _ => ?_) (fun hHeld => ?_)
          · exact OP.c3
          replace hHeld := hHeld rfl
          clear hK K
          try simp only [Act.put, List.setIfInBounds_toArray, List.set_cons_zero, List.set_cons_succ]
          refine wpAnyE_take (i := 17) (oi := { dst := some 81, op := Go.Op.fieldAddr 25 (Go.Operand.tmp 3) 3, type := 0, pos := "l7_sight.go:158", after := #[{ on := 0, ground := Go.Ground.phase }, { on := 1, ground := Go.Ground.phase }, { on := 2, ground := Go.Ground.phase }, { on := 3, ground := Go.Ground.phase }, { on := 4, ground := Go.Ground.phase }, { on := 5, ground := Go.Ground.phase }, { on := 6, ground := Go.Ground.phase }, { on := 7, ground := Go.Ground.phase }, { on := 8, ground := Go.Ground.phase }, { on := 9, ground := Go.Ground.phase }, { on := 10, ground := Go.Ground.phase }, { on := 11, ground := Go.Ground.phase }, { on := 12, ground := Go.Ground.phase }, { on := 13, ground := Go.Ground.phase }, { on := 14, ground := Go.Ground.phase }, { on := 15, ground := Go.Ground.phase }, { on := 16, ground := Go.Ground.phase }], guard := none }) (v := ?_) [18] rfl (by kernel_rfl) (by kernel_rfl) (by kernel_rfl) (by kernel_rfl) (fun j hj => by first | (have e : j = 18 := by simpa using hj); (subst e; rfl)) (by kernel_rfl) (fun _ _ _ h => h) (Or.inl ⟨by rfl, ?_⟩) hHeld ?_
          rotate_left
          · intro w hSw; (try dsimp only at hSw); go_simp; try with_reducible rfl
          try simp only [Act.put, List.setIfInBounds_toArray, List.set_cons_zero, List.set_cons_succ]
          refine wpAnyE_ready (rs := [18]) (by kernel_rfl) (by simp) ?_
          refine AllReadyE.cons (o := { dst := none, op := Go.Op.store 23 (Go.Operand.tmp 81) (Go.Operand.tmp 80), type := 0, pos := "l7_sight.go:158", after := #[{ on := 17, ground := Go.Ground.data }, { on := 16, ground := Go.Ground.data }, { on := 16, ground := Go.Ground.chain }, { on := 0, ground := Go.Ground.phase }, { on := 1, ground := Go.Ground.phase }, { on := 2, ground := Go.Ground.phase }, { on := 3, ground := Go.Ground.phase }, { on := 4, ground := Go.Ground.phase }, { on := 5, ground := Go.Ground.phase }, { on := 6, ground := Go.Ground.phase }, { on := 7, ground := Go.Ground.phase }, { on := 8, ground := Go.Ground.phase }, { on := 9, ground := Go.Ground.phase }, { on := 10, ground := Go.Ground.phase }, { on := 11, ground := Go.Ground.phase }, { on := 12, ground := Go.Ground.phase }, { on := 13, ground := Go.Ground.phase }, { on := 14, ground := Go.Ground.phase }, { on := 15, ground := Go.Ground.phase }, { on := 16, ground := Go.Ground.phase }], guard := none }) rfl (fun K hK => ?_) AllReadyE.nil
          go_simp
          refine hK.out _ _ (fun h => absurd h (by decide)) (fun _ => ?_)
          clear hK K
          try simp only [Act.put, List.setIfInBounds_toArray, List.set_cons_zero, List.set_cons_succ]
          refine wpAnyE_done (by kernel_rfl) ?_ _
          have hzF : w.heap.size < (w25.setCell ⟨o, 3, none⟩ (.slice ad2 (ts ++ [(⟨((a0 : Int) + (1 + (r : Int))), min 3000 (max 0 (ln - z1)) * z2⟩ : T2)]).length cd2)).heap.size := by simpa [World.setCell] using hzp
          have hlen2 : (ts ++ [(⟨((a0 : Int) + (1 + (r : Int))), min 3000 (max 0 (ln - z1)) * z2⟩ : T2)]).length = ts.length + 1 := by simp
          rw [hlen2] at dP hzF
          go_wp2
          go_roundw
          case rel => exact ⟨a0 + (1 + r), K' + 2 + 2 + 2, _, ts ++ [⟨((a0 : Int) + (1 + (r : Int))), min 3000 (max 0 (ln - z1)) * z2⟩], by go_num, by omega, by rw [hlen2]; omega, by rw [hlen2]; omega, dP, hzF⟩
          case measure => simp [intOf]; omega
      · go_wp2_with fail
        go_meet
        exact ⟨_, _, _, by omega, hl, dS, hzr⟩
  case rest =>
  obtain ⟨K1, u, ts, hK1, hl, dS, hzt⟩ := hcut
  go_wp2_with fail
  refine (pick_any p K1 30 _ dS.d0.cur (by omega) (by omega) (by omega)).mono ?_
  rintro e wt ⟨r, rfl, hr30, hC, hk⟩
  replace dS := dS.go hC hk
  replace hzt : w.heap.size < wt.heap.size := Nat.lt_of_lt_of_le hzt hk.size
  clear hC hk
  obtain ⟨au, cu, rfl, -⟩ := dS.row.rd.len
  have hob := dS.ob
  by_cases c0 : r = 0
  · subst c0
    have t0 : (((0 : Nat) : Int) == 0) = true := by simp
    go_wp2_with fail
    refine (among_list p (K1 + 2) [0, 1, 999, 1000] wt dS.d0.cur (by omega) (by simp) (by simp) 3).mono ?_
    rintro e wu ⟨z, hm, rfl, hC, hk⟩
    replace dS := dS.go hC hk
    replace hzt : w.heap.size < wu.heap.size := Nat.lt_of_lt_of_le hzt hk.size
    clear hC hk hm
    have j0 := dS.var.c0
    have j1 := dS.var.c1
    have j2 := dS.var.c2
    have j3 := dS.var.c3
    have jf0 := dS.var.fz 0
    have jf1 := dS.var.fz 1
    have jf2 := dS.var.fz 2
    have jf3 := dS.var.fz 3
    have dT := dS.put0 z
    have j0 := dT.var.c0
    have j1 := dT.var.c1
    have j2 := dT.var.c2
    have j3 := dT.var.c3
    have jf0 := dT.var.fz 0
    have jf1 := dT.var.fz 1
    have jf2 := dT.var.fz 2
    have jf3 := dT.var.fz 3
    have s0 := dT.d0.res.c0
    have s1 := dT.d0.res.c1
    have s2 := dT.d0.res.c2
    have s3 := dT.d0.res.c3
    have sf0 := dT.d0.res.fz 0
    have sf1 := dT.d0.res.fz 1
    have sf2 := dT.d0.res.fz 2
    have sf3 := dT.d0.res.fz 3
    have hlW := dT.var.lt
    have hlS := dT.d0.res.lt
    have HNW : (.slice au ts.length cu : Value).ownBlock ≠ some w.heap.size := fun e => by have := (dT.row.lt _ e).1; omega
    have rF := ((((dT.row.setFar (b := w.heap.size) (o := 0) (x := .int .i64 z) HNW).setFar (b := w.heap.size) (o := 1) (x := .int .i64 A) HNW).setFar (b := w.heap.size) (o := 2) (x := .int .i64 B) HNW).setFar (b := w.heap.size) (o := 3) (x := .slice au ts.length cu) HNW).base (B' := w.heap.size) (by omega)
    go_wp2
    refine bodyPost_ret (v := .agg #[.int .i64 z, .int .i64 A, .int .i64 B, .slice au ts.length cu]) (by simp [results, Try.results51, go_sem, *]) rfl ⟨_, _, _, _, _, rfl, rF, ?_, ?_⟩
    · first | omega | (simp; omega)
    · have hfin := dT.d0.fin (((((Below.refl w.heap.size _).setCell (p := ⟨w.heap.size, 0, none⟩) (Nat.le_refl _) (.int .i64 z)).setCell (p := ⟨w.heap.size, 1, none⟩) (Nat.le_refl _) (.int .i64 A)).setCell (p := ⟨w.heap.size, 2, none⟩) (Nat.le_refl _) (.int .i64 B)).setCell (p := ⟨w.heap.size, 3, none⟩) (Nat.le_refl _) (.slice au ts.length cu))
      exact ⟨hfin.1.more (by omega), hfin.2⟩
  · have t0 : ((r : Int) == 0) = false := by simp; omega
    by_cases c1 : r = 1
    · subst c1
      have t1 : (((1 : Nat) : Int) == 1) = true := by simp
      go_wp2_with fail
      refine (among_list p (K1 + 2) [-1, 3001] wt dS.d0.cur (by omega) (by simp) (by simp) 3).mono ?_
      rintro e wu ⟨z, hm, rfl, hC, hk⟩
      replace dS := dS.go hC hk
      replace hzt : w.heap.size < wu.heap.size := Nat.lt_of_lt_of_le hzt hk.size
      clear hC hk hm
      have j0 := dS.var.c0
      have j1 := dS.var.c1
      have j2 := dS.var.c2
      have j3 := dS.var.c3
      have jf0 := dS.var.fz 0
      have jf1 := dS.var.fz 1
      have jf2 := dS.var.fz 2
      have jf3 := dS.var.fz 3
      have dT := dS.put1 z
      have j0 := dT.var.c0
      have j1 := dT.var.c1
      have j2 := dT.var.c2
      have j3 := dT.var.c3
      have jf0 := dT.var.fz 0
      have jf1 := dT.var.fz 1
      have jf2 := dT.var.fz 2
      have jf3 := dT.var.fz 3
      have s0 := dT.d0.res.c0
      have s1 := dT.d0.res.c1
      have s2 := dT.d0.res.c2
      have s3 := dT.d0.res.c3
      have sf0 := dT.d0.res.fz 0
      have sf1 := dT.d0.res.fz 1
      have sf2 := dT.d0.res.fz 2
      have sf3 := dT.d0.res.fz 3
      have hlW := dT.var.lt
      have hlS := dT.d0.res.lt
      have HNW : (.slice au ts.length cu : Value).ownBlock ≠ some w.heap.size := fun e => by have := (dT.row.lt _ e).1; omega
      have rF := ((((dT.row.setFar (b := w.heap.size) (o := 0) (x := .int .i64 D) HNW).setFar (b := w.heap.size) (o := 1) (x := .int .i64 z) HNW).setFar (b := w.heap.size) (o := 2) (x := .int .i64 B) HNW).setFar (b := w.heap.size) (o := 3) (x := .slice au ts.length cu) HNW).base (B' := w.heap.size) (by omega)
      go_wp2
      refine bodyPost_ret (v := .agg #[.int .i64 D, .int .i64 z, .int .i64 B, .slice au ts.length cu]) (by simp [results, Try.results51, go_sem, *]) rfl ⟨_, _, _, _, _, rfl, rF, ?_, ?_⟩
      · first | omega | (simp; omega)
      · have hfin := dT.d0.fin (((((Below.refl w.heap.size _).setCell (p := ⟨w.heap.size, 0, none⟩) (Nat.le_refl _) (.int .i64 D)).setCell (p := ⟨w.heap.size, 1, none⟩) (Nat.le_refl _) (.int .i64 z)).setCell (p := ⟨w.heap.size, 2, none⟩) (Nat.le_refl _) (.int .i64 B)).setCell (p := ⟨w.heap.size, 3, none⟩) (Nat.le_refl _) (.slice au ts.length cu))
        exact ⟨hfin.1.more (by omega), hfin.2⟩
    · have t1 : ((r : Int) == 1) = false := by simp; omega
      by_cases c2 : r = 2
      · subst c2
        have t2 : (((2 : Nat) : Int) == 2) = true := by simp
        go_wp2_with fail
        refine (among_list p (K1 + 2) [-1, 3000, 3001] wt dS.d0.cur (by omega) (by simp) (by simp) 3).mono ?_
        rintro e wu ⟨z, hm, rfl, hC, hk⟩
        replace dS := dS.go hC hk
        replace hzt : w.heap.size < wu.heap.size := Nat.lt_of_lt_of_le hzt hk.size
        clear hC hk hm
        have j0 := dS.var.c0
        have j1 := dS.var.c1
        have j2 := dS.var.c2
        have j3 := dS.var.c3
        have jf0 := dS.var.fz 0
        have jf1 := dS.var.fz 1
        have jf2 := dS.var.fz 2
        have jf3 := dS.var.fz 3
        have dT := dS.put2 z
        have j0 := dT.var.c0
        have j1 := dT.var.c1
        have j2 := dT.var.c2
        have j3 := dT.var.c3
        have jf0 := dT.var.fz 0
        have jf1 := dT.var.fz 1
        have jf2 := dT.var.fz 2
        have jf3 := dT.var.fz 3
        have s0 := dT.d0.res.c0
        have s1 := dT.d0.res.c1
        have s2 := dT.d0.res.c2
        have s3 := dT.d0.res.c3
        have sf0 := dT.d0.res.fz 0
        have sf1 := dT.d0.res.fz 1
        have sf2 := dT.d0.res.fz 2
        have sf3 := dT.d0.res.fz 3
        have hlW := dT.var.lt
        have hlS := dT.d0.res.lt
        have HNW : (.slice au ts.length cu : Value).ownBlock ≠ some w.heap.size := fun e => by have := (dT.row.lt _ e).1; omega
        have rF := ((((dT.row.setFar (b := w.heap.size) (o := 0) (x := .int .i64 D) HNW).setFar (b := w.heap.size) (o := 1) (x := .int .i64 A) HNW).setFar (b := w.heap.size) (o := 2) (x := .int .i64 z) HNW).setFar (b := w.heap.size) (o := 3) (x := .slice au ts.length cu) HNW).base (B' := w.heap.size) (by omega)
        go_wp2
        refine bodyPost_ret (v := .agg #[.int .i64 D, .int .i64 A, .int .i64 z, .slice au ts.length cu]) (by simp [results, Try.results51, go_sem, *]) rfl ⟨_, _, _, _, _, rfl, rF, ?_, ?_⟩
        · first | omega | (simp; omega)
        · have hfin := dT.d0.fin (((((Below.refl w.heap.size _).setCell (p := ⟨w.heap.size, 0, none⟩) (Nat.le_refl _) (.int .i64 D)).setCell (p := ⟨w.heap.size, 1, none⟩) (Nat.le_refl _) (.int .i64 A)).setCell (p := ⟨w.heap.size, 2, none⟩) (Nat.le_refl _) (.int .i64 z)).setCell (p := ⟨w.heap.size, 3, none⟩) (Nat.le_refl _) (.slice au ts.length cu))
          exact ⟨hfin.1.more (by omega), hfin.2⟩
      · have t2 : ((r : Int) == 2) = false := by simp; omega
        by_cases c3 : r = 3
        · subst c3
          have t3 : (((3 : Nat) : Int) == 3) = true := by simp
          by_cases hpos : 0 < ts.length
          · obtain ⟨m, hm⟩ : ∃ m, ts.length = m + 1 := ⟨ts.length - 1, by omega⟩
            obtain ⟨g, cap, hgv, hgB, hgl⟩ := dS.row.nonnil m hm
            simp only [Value.slice.injEq] at hgv
            obtain ⟨rfl, -, rfl⟩ := hgv
            have hposI : (0 : Int) < (ts.length : Int) := by omega
            have hzp := hzt
            clear hm
            have j0 := dS.var.c0
            have j1 := dS.var.c1
            have j2 := dS.var.c2
            have j3 := dS.var.c3
            have jf0 := dS.var.fz 0
            have jf1 := dS.var.fz 1
            have jf2 := dS.var.fz 2
            have jf3 := dS.var.fz 3
            go_wp2_with fail
            clear j0 j1 j2 j3 jf0 jf1 jf2 jf3
            refine wp_region_E_drew (S := (fun w' => w'.cell? ⟨o, 3, none⟩ = some (.slice (some ⟨g, 0, none⟩) ts.length cu))) (E := fun i => i == 7) (by kernel_rfl) ?_ (fun hHeld => ?_)
            · exact dS.drew.var.c3
            refine wpAnyE_name ?_
            intro wS hwS
            rw [← hwS] at hHeld
            have hbS := below_named hwS
            clear hwS
            replace dS := dS.below hbS
            replace hzp : w.heap.size < wS.heap.size := Nat.lt_of_lt_of_le hzp hbS.size
            refine wpAnyE_take (i := 0) (oi := { dst := some 108, op := Go.Op.fieldAddr 25 (Go.Operand.tmp 3) 3, type := 0, pos := "l7_sight.go:169", after := #[], guard := none }) (v := ?_) [1, 5, 6, 7] rfl (by kernel_rfl) (by kernel_rfl) (by kernel_rfl) (by kernel_rfl) (fun j hj => by first | (have e : j = 7 := by simpa using hj); (subst e; rfl)) (by kernel_rfl) (fun _ _ _ h => h) (Or.inl ⟨by rfl, ?_⟩) hHeld ?_
            rotate_left
            · intro w hSw; (try dsimp only at hSw); go_simp; try with_reducible rfl
            try simp only [Act.put, List.setIfInBounds_toArray, List.set_cons_zero, List.set_cons_succ]
            refine wpAnyE_take (i := 1) (oi := { dst := some 109, op := Go.Op.load 23 (Go.Operand.tmp 108), type := 23, pos := "l7_sight.go:169", after := #[{ on := 0, ground := Go.Ground.data }], guard := none }) (v := ?_) [5, 6, 7] rfl (by kernel_rfl) (by kernel_rfl) (by kernel_rfl) (by kernel_rfl) (fun j hj => by first | (have e : j = 7 := by simpa using hj); (subst e; rfl)) (by kernel_rfl) (fun _ _ _ h => h) (Or.inl ⟨by rfl, ?_⟩) hHeld ?_
            rotate_left
            · intro w hSw; (try dsimp only at hSw); go_simp; try with_reducible rfl
            try simp only [Act.put, List.setIfInBounds_toArray, List.set_cons_zero, List.set_cons_succ]
            refine wpAnyE_take (i := 2) (oi := { dst := some 110, op := Go.Op.move (Go.Operand.tmp 0), type := 63, pos := "l7_sight.go:169", after := #[], guard := none }) (v := ?_) [4, 5, 6, 7] rfl (by kernel_rfl) (by kernel_rfl) (by kernel_rfl) (by kernel_rfl) (fun j hj => by first | (have e : j = 7 := by simpa using hj); (subst e; rfl)) (by kernel_rfl) (fun _ _ _ h => h) (Or.inl ⟨by rfl, ?_⟩) hHeld ?_
            rotate_left
            · intro w hSw; (try dsimp only at hSw); go_simp; try with_reducible rfl
            try simp only [Act.put, List.setIfInBounds_toArray, List.set_cons_zero, List.set_cons_succ]
            refine wpAnyE_ready (rs := [3]) (by kernel_rfl) (by simp) ?_
            refine AllReadyE.cons (o := { dst := some 111, op := Go.Op.buildSlice 30 3 #[(0, Go.Operand.const (Go.Value.int Go.IntKind.i64 (-1))), (1, Go.Operand.const (Go.Value.int Go.IntKind.i64 3000)), (2, Go.Operand.const (Go.Value.int Go.IntKind.i64 3001))], type := 30, pos := "l7_sight.go:169", after := #[], guard := none }) rfl (fun K hK => ?_) AllReadyE.nil
            go_simp
            refine hK.out _ _ (fun _ => ?_) (fun hHeld => ?_)
            · exact (dS.alloc _).var.c3
            replace hHeld := hHeld rfl
            clear hK K
            try simp only [Act.put, List.setIfInBounds_toArray, List.set_cons_zero, List.set_cons_succ]
            refine wpAnyE_name ?_
            intro w201 hw201
            try rw [← hw201] at hHeld
            have hb201 := below_alloc hw201
            have hnla : wS.heap.size ≠ p := by have := dS.d0.cur.lt; omega
            have la : LS w201 wS.heap.size [-1, 3000, 3001] := by rw [hw201]; exact LS.new wS [-1, 3000, 3001] _
            replace hzp : w.heap.size < w201.heap.size := Nat.lt_of_lt_of_le hzp hb201.size
            clear hw201
            replace dS := dS.below hb201
            refine wpAnyE_ready (rs := [4]) (by kernel_rfl) (by simp) ?_
            refine AllReadyE.cons (o := { dst := some 112, op := Go.Op.call { callee := Go.Callee.value (Go.Operand.func 66), args := #[Go.Operand.tmp 110, Go.Operand.tmp 111], argTypes := #[63, 30] }, type := 3, pos := "l7_sight.go:169", after := #[{ on := 2, ground := Go.Ground.data }, { on := 3, ground := Go.Ground.data }], guard := none }) rfl (fun K hK => ?_) AllReadyE.nil
            go_simp
            refine (among_ls p (K1 + 2) _ 3 _ _ dS.d0.cur (by omega) (by rfl) (by omega) (by omega) la hnla).mono ?_
            rintro e w202 ⟨z, hz, rfl, hC, hk⟩
            clear hz
            replace hzp : w.heap.size < w202.heap.size := Nat.lt_of_lt_of_le hzp hk.size
            replace dS := dS.go hC hk
            clear hC
            clear hk
            try go_simp
            refine hK.out _ _ (fun _ => ?_) (fun hHeld => ?_)
            · exact dS.var.c3
            replace hHeld := hHeld rfl
            clear hK K
            try simp only [Act.put, List.setIfInBounds_toArray, List.set_cons_zero, List.set_cons_succ]
            refine wpAnyE_take (i := 5) (oi := { dst := some 113, op := Go.Op.indexAddr 23 (Go.Operand.tmp 109) (Go.Operand.const (Go.Value.int Go.IntKind.i64 0)), type := 0, pos := "l7_sight.go:169", after := #[{ on := 1, ground := Go.Ground.data }, { on := 0, ground := Go.Ground.phase }, { on := 1, ground := Go.Ground.phase }, { on := 2, ground := Go.Ground.phase }, { on := 3, ground := Go.Ground.phase }, { on := 4, ground := Go.Ground.phase }], guard := none }) (v := ?_) [6, 7] rfl (by kernel_rfl) (by kernel_rfl) (by kernel_rfl) (by kernel_rfl) (fun j hj => by first | (have e : j = 7 := by simpa using hj); (subst e; rfl)) (by kernel_rfl) (fun _ _ _ h => h) (Or.inl ⟨by rfl, ?_⟩) hHeld ?_
            rotate_left
            · intro w hSw; (try dsimp only at hSw); go_simp; try with_reducible rfl
            try simp only [Act.put, List.setIfInBounds_toArray, List.set_cons_zero, List.set_cons_succ]
            refine wpAnyE_take (i := 6) (oi := { dst := some 114, op := Go.Op.fieldAddr 72 (Go.Operand.tmp 113) 1, type := 0, pos := "l7_sight.go:169", after := #[{ on := 5, ground := Go.Ground.data }, { on := 0, ground := Go.Ground.phase }, { on := 1, ground := Go.Ground.phase }, { on := 2, ground := Go.Ground.phase }, { on := 3, ground := Go.Ground.phase }, { on := 4, ground := Go.Ground.phase }], guard := none }) (v := ?_) [7] rfl (by kernel_rfl) (by kernel_rfl) (by kernel_rfl) (by kernel_rfl) (fun j hj => by first | (have e : j = 7 := by simpa using hj); (subst e; rfl)) (by kernel_rfl) (fun _ _ _ h => h) (Or.inl ⟨by rfl, ?_⟩) hHeld ?_
            rotate_left
            · intro w hSw; (try dsimp only at hSw); go_simp; try with_reducible rfl
            try simp only [Act.put, List.setIfInBounds_toArray, List.set_cons_zero, List.set_cons_succ]
            refine wpAnyE_ready (rs := [7]) (by kernel_rfl) (by simp) ?_
            refine AllReadyE.cons (o := { dst := none, op := Go.Op.store 3 (Go.Operand.tmp 114) (Go.Operand.tmp 112), type := 0, pos := "l7_sight.go:169", after := #[{ on := 6, ground := Go.Ground.data }, { on := 4, ground := Go.Ground.data }, { on := 4, ground := Go.Ground.chain }, { on := 0, ground := Go.Ground.phase }, { on := 1, ground := Go.Ground.phase }, { on := 2, ground := Go.Ground.phase }, { on := 3, ground := Go.Ground.phase }, { on := 4, ground := Go.Ground.phase }], guard := none }) rfl (fun K hK => ?_) AllReadyE.nil
            have k1 := dS.row.cellAt 0 hpos 1 (by omega)
            have kf := dS.row.frozen (1)
            simp only [Nat.zero_mul, Nat.zero_add, Nat.add_zero] at k1 kf
            go_simp
            refine hK.out _ _ (fun h => absurd h (by decide)) (fun _ => ?_)
            clear hK K
            try simp only [Act.put, List.setIfInBounds_toArray, List.set_cons_zero, List.set_cons_succ]
            refine wpAnyE_done (by kernel_rfl) ?_ _
            have dT := dS.putG (i := 0) (f := 1) (t := ⟨(rAt ts 0).x0, z⟩) (x := .int .i64 z) hpos (by omega) rfl (by
              intro f' h1 h2
              match f', h1, h2 with
              | 0, _, h2 => first | rfl | exact absurd rfl h2
              | 1, _, h2 => first | rfl | exact absurd rfl h2
              | m + 2, h, _ => omega)
            simp only [Nat.zero_mul, Nat.zero_add, Nat.add_zero] at dT
            clear hHeld
            have j0 := dT.var.c0
            have j1 := dT.var.c1
            have j2 := dT.var.c2
            have j3 := dT.var.c3
            have jf0 := dT.var.fz 0
            have jf1 := dT.var.fz 1
            have jf2 := dT.var.fz 2
            have jf3 := dT.var.fz 3
            have s0 := dT.d0.res.c0
            have s1 := dT.d0.res.c1
            have s2 := dT.d0.res.c2
            have s3 := dT.d0.res.c3
            have sf0 := dT.d0.res.fz 0
            have sf1 := dT.d0.res.fz 1
            have sf2 := dT.d0.res.fz 2
            have sf3 := dT.d0.res.fz 3
            have hlW := dT.var.lt
            have hlS := dT.d0.res.lt
            have HNW : (.slice (some ⟨g, 0, none⟩) ts.length cu : Value).ownBlock ≠ some w.heap.size := fun e => by have := (dT.row.lt _ e).1; omega
            have rF := ((((dT.row.setFar (b := w.heap.size) (o := 0) (x := .int .i64 D) HNW).setFar (b := w.heap.size) (o := 1) (x := .int .i64 A) HNW).setFar (b := w.heap.size) (o := 2) (x := .int .i64 B) HNW).setFar (b := w.heap.size) (o := 3) (x := .slice (some ⟨g, 0, none⟩) ts.length cu) HNW).base (B' := w.heap.size) (by omega)
            go_wp2
            refine bodyPost_ret (v := .agg #[.int .i64 D, .int .i64 A, .int .i64 B, .slice (some ⟨g, 0, none⟩) ts.length cu]) (by simp [results, Try.results51, go_sem, *]) rfl ⟨_, _, _, _, _, rfl, rF, ?_, ?_⟩
            · first | omega | (simp; omega)
            · have hfin := dT.d0.fin (((((Below.refl w.heap.size _).setCell (p := ⟨w.heap.size, 0, none⟩) (Nat.le_refl _) (.int .i64 D)).setCell (p := ⟨w.heap.size, 1, none⟩) (Nat.le_refl _) (.int .i64 A)).setCell (p := ⟨w.heap.size, 2, none⟩) (Nat.le_refl _) (.int .i64 B)).setCell (p := ⟨w.heap.size, 3, none⟩) (Nat.le_refl _) (.slice (some ⟨g, 0, none⟩) ts.length cu))
              exact ⟨hfin.1.more (by omega), hfin.2⟩
          · have hneg : ¬ (0 : Int) < (ts.length : Int) := by omega
            have j0 := dS.var.c0
            have j1 := dS.var.c1
            have j2 := dS.var.c2
            have j3 := dS.var.c3
            have jf0 := dS.var.fz 0
            have jf1 := dS.var.fz 1
            have jf2 := dS.var.fz 2
            have jf3 := dS.var.fz 3
            have s0 := dS.d0.res.c0
            have s1 := dS.d0.res.c1
            have s2 := dS.d0.res.c2
            have s3 := dS.d0.res.c3
            have sf0 := dS.d0.res.fz 0
            have sf1 := dS.d0.res.fz 1
            have sf2 := dS.d0.res.fz 2
            have sf3 := dS.d0.res.fz 3
            have hlW := dS.var.lt
            have hlS := dS.d0.res.lt
            have HNW : (.slice au ts.length cu : Value).ownBlock ≠ some w.heap.size := fun e => by have := (dS.row.lt _ e).1; omega
            have rF := ((((dS.row.setFar (b := w.heap.size) (o := 0) (x := .int .i64 D) HNW).setFar (b := w.heap.size) (o := 1) (x := .int .i64 A) HNW).setFar (b := w.heap.size) (o := 2) (x := .int .i64 B) HNW).setFar (b := w.heap.size) (o := 3) (x := .slice au ts.length cu) HNW).base (B' := w.heap.size) (by omega)
            go_wp2
            refine bodyPost_ret (v := .agg #[.int .i64 D, .int .i64 A, .int .i64 B, .slice au ts.length cu]) (by simp [results, Try.results51, go_sem, *]) rfl ⟨_, _, _, _, _, rfl, rF, ?_, ?_⟩
            · first | omega | (simp; omega)
            · have hfin := dS.d0.fin (((((Below.refl w.heap.size _).setCell (p := ⟨w.heap.size, 0, none⟩) (Nat.le_refl _) (.int .i64 D)).setCell (p := ⟨w.heap.size, 1, none⟩) (Nat.le_refl _) (.int .i64 A)).setCell (p := ⟨w.heap.size, 2, none⟩) (Nat.le_refl _) (.int .i64 B)).setCell (p := ⟨w.heap.size, 3, none⟩) (Nat.le_refl _) (.slice au ts.length cu))
              exact ⟨hfin.1.more (by omega), hfin.2⟩
        · have t3 : ((r : Int) == 3) = false := by simp; omega
          by_cases c4 : r = 4
          · subst c4
            have t4 : (((4 : Nat) : Int) == 4) = true := by simp
            by_cases hpos : 0 < ts.length
            · obtain ⟨m, hm⟩ : ∃ m, ts.length = m + 1 := ⟨ts.length - 1, by omega⟩
              obtain ⟨g, cap, hgv, hgB, hgl⟩ := dS.row.nonnil m hm
              simp only [Value.slice.injEq] at hgv
              obtain ⟨rfl, -, rfl⟩ := hgv
              have hposI : (0 : Int) < (ts.length : Int) := by omega
              have hzp := hzt
              clear hm
              obtain ⟨I, hI⟩ : ∃ I : Nat, I = ts.length - 1 := ⟨_, rfl⟩
              have hIl : I < ts.length := by omega
              have ew : IntKind.i64.wrap ((ts.length : Int) - 1) = (I : Int) := by rw [IntWalk.i64_in _ (by omega)]; omega
              have ewD : IntKind.i64.wrap (D - 1) = D - 1 := IntWalk.i64_in _ (by omega)
              clear hI
              have j0 := dS.var.c0
              have j1 := dS.var.c1
              have j2 := dS.var.c2
              have j3 := dS.var.c3
              have jf0 := dS.var.fz 0
              have jf1 := dS.var.fz 1
              have jf2 := dS.var.fz 2
              have jf3 := dS.var.fz 3
              go_wp2_with fail
              clear j0 j1 j2 j3 jf0 jf1 jf2 jf3
              refine wp_region_E_drew (S := (fun w' => w'.cell? ⟨o, 3, none⟩ = some (.slice (some ⟨g, 0, none⟩) ts.length cu) ∧ w'.cell? ⟨o, 0, none⟩ = some (.int .i64 D))) (E := fun i => i == 16) (by kernel_rfl) ?_ (fun hHeld => ?_)
              · exact ⟨dS.drew.var.c3, dS.drew.var.c0⟩
              refine wpAnyE_name ?_
              intro wS hwS
              rw [← hwS] at hHeld
              have hbS := below_named hwS
              clear hwS
              replace dS := dS.below hbS
              replace hzp : w.heap.size < wS.heap.size := Nat.lt_of_lt_of_le hzp hbS.size
              refine wpAnyE_take (i := 0) (oi := { dst := some 121, op := Go.Op.fieldAddr 25 (Go.Operand.tmp 3) 3, type := 0, pos := "l7_sight.go:173", after := #[], guard := none }) (v := ?_) [1, 14, 15, 16] rfl (by kernel_rfl) (by kernel_rfl) (by kernel_rfl) (by kernel_rfl) (fun j hj => by first | (have e : j = 16 := by simpa using hj); (subst e; rfl)) (by kernel_rfl) (fun _ _ _ h => h) (Or.inl ⟨by rfl, ?_⟩) hHeld ?_
              rotate_left
              · intro w hSw; (try dsimp only at hSw); go_simp; try with_reducible rfl
              try simp only [Act.put, List.setIfInBounds_toArray, List.set_cons_zero, List.set_cons_succ]
              refine wpAnyE_take (i := 1) (oi := { dst := some 122, op := Go.Op.load 23 (Go.Operand.tmp 121), type := 23, pos := "l7_sight.go:173", after := #[{ on := 0, ground := Go.Ground.data }], guard := none }) (v := ?_) [14, 15, 16] rfl (by kernel_rfl) (by kernel_rfl) (by kernel_rfl) (by kernel_rfl) (fun j hj => by first | (have e : j = 16 := by simpa using hj); (subst e; rfl)) (by kernel_rfl) (fun _ _ _ h => h) (Or.inl ⟨by rfl, ?_⟩) hHeld ?_
              rotate_left
              · intro w hSw; (try dsimp only at hSw); go_simp; try with_reducible rfl
              try simp only [Act.put, List.setIfInBounds_toArray, List.set_cons_zero, List.set_cons_succ]
              refine wpAnyE_take (i := 2) (oi := { dst := some 123, op := Go.Op.fieldAddr 25 (Go.Operand.tmp 3) 3, type := 0, pos := "l7_sight.go:173", after := #[], guard := none }) (v := ?_) [3, 4, 5, 14, 15, 16] rfl (by kernel_rfl) (by kernel_rfl) (by kernel_rfl) (by kernel_rfl) (fun j hj => by first | (have e : j = 16 := by simpa using hj); (subst e; rfl)) (by kernel_rfl) (fun _ _ _ h => h) (Or.inl ⟨by rfl, ?_⟩) hHeld ?_
              rotate_left
              · intro w hSw; (try dsimp only at hSw); go_simp; try with_reducible rfl
              try simp only [Act.put, List.setIfInBounds_toArray, List.set_cons_zero, List.set_cons_succ]
              refine wpAnyE_take (i := 3) (oi := { dst := some 124, op := Go.Op.load 23 (Go.Operand.tmp 123), type := 23, pos := "l7_sight.go:173", after := #[{ on := 2, ground := Go.Ground.data }], guard := none }) (v := ?_) [4, 5, 14, 15, 16] rfl (by kernel_rfl) (by kernel_rfl) (by kernel_rfl) (by kernel_rfl) (fun j hj => by first | (have e : j = 16 := by simpa using hj); (subst e; rfl)) (by kernel_rfl) (fun _ _ _ h => h) (Or.inl ⟨by rfl, ?_⟩) hHeld ?_
              rotate_left
              · intro w hSw; (try dsimp only at hSw); go_simp; try with_reducible rfl
              try simp only [Act.put, List.setIfInBounds_toArray, List.set_cons_zero, List.set_cons_succ]
              refine wpAnyE_take (i := 4) (oi := { dst := some 125, op := Go.Op.call { callee := Go.Callee.builtin Go.Builtin.len, args := #[Go.Operand.tmp 124], argTypes := #[23] }, type := 3, pos := "l7_sight.go:173", after := #[{ on := 3, ground := Go.Ground.data }], guard := none }) (v := ?_) [5, 14, 15, 16] rfl (by kernel_rfl) (by kernel_rfl) (by kernel_rfl) (by kernel_rfl) (fun j hj => by first | (have e : j = 16 := by simpa using hj); (subst e; rfl)) (by kernel_rfl) (fun _ _ _ h => h) (Or.inl ⟨by rfl, ?_⟩) hHeld ?_
              rotate_left
              · intro w hSw; (try dsimp only at hSw); go_simp; try with_reducible rfl
              try simp only [Act.put, List.setIfInBounds_toArray, List.set_cons_zero, List.set_cons_succ]
              refine wpAnyE_take (i := 5) (oi := { dst := some 126, op := Go.Op.binOp Go.BinOp.sub 3 (Go.Operand.tmp 125) (Go.Operand.const (Go.Value.int Go.IntKind.i64 1)) 3, type := 3, pos := "l7_sight.go:173", after := #[{ on := 4, ground := Go.Ground.data }], guard := none }) (v := ?_) [14, 15, 16] rfl (by kernel_rfl) (by kernel_rfl) (by kernel_rfl) (by kernel_rfl) (fun j hj => by first | (have e : j = 16 := by simpa using hj); (subst e; rfl)) (by kernel_rfl) (fun _ _ _ h => h) (Or.inl ⟨by rfl, ?_⟩) hHeld ?_
              rotate_left
              · intro w hSw; (try dsimp only at hSw); go_simp; try with_reducible rfl
              try simp only [Act.put, List.setIfInBounds_toArray, List.set_cons_zero, List.set_cons_succ]
              refine wpAnyE_take (i := 6) (oi := { dst := some 127, op := Go.Op.move (Go.Operand.tmp 0), type := 63, pos := "l7_sight.go:173", after := #[], guard := none }) (v := ?_) [13, 14, 15, 16] rfl (by kernel_rfl) (by kernel_rfl) (by kernel_rfl) (by kernel_rfl) (fun j hj => by first | (have e : j = 16 := by simpa using hj); (subst e; rfl)) (by kernel_rfl) (fun _ _ _ h => h) (Or.inl ⟨by rfl, ?_⟩) hHeld ?_
              rotate_left
              · intro w hSw; (try dsimp only at hSw); go_simp; try with_reducible rfl
              try simp only [Act.put, List.setIfInBounds_toArray, List.set_cons_zero, List.set_cons_succ]
              refine wpAnyE_take (i := 7) (oi := { dst := some 128, op := Go.Op.fieldAddr 25 (Go.Operand.tmp 3) 0, type := 0, pos := "l7_sight.go:173", after := #[], guard := none }) (v := ?_) [8, 9, 12, 13, 14, 15, 16] rfl (by kernel_rfl) (by kernel_rfl) (by kernel_rfl) (by kernel_rfl) (fun j hj => by first | (have e : j = 16 := by simpa using hj); (subst e; rfl)) (by kernel_rfl) (fun _ _ _ h => h) (Or.inl ⟨by rfl, ?_⟩) hHeld ?_
              rotate_left
              · intro w hSw; (try dsimp only at hSw); go_simp; try with_reducible rfl
              try simp only [Act.put, List.setIfInBounds_toArray, List.set_cons_zero, List.set_cons_succ]
              refine wpAnyE_take (i := 8) (oi := { dst := some 129, op := Go.Op.load 3 (Go.Operand.tmp 128), type := 3, pos := "l7_sight.go:173", after := #[{ on := 7, ground := Go.Ground.data }], guard := none }) (v := ?_) [9, 12, 13, 14, 15, 16] rfl (by kernel_rfl) (by kernel_rfl) (by kernel_rfl) (by kernel_rfl) (fun j hj => by first | (have e : j = 16 := by simpa using hj); (subst e; rfl)) (by kernel_rfl) (fun _ _ _ h => h) (Or.inl ⟨by rfl, ?_⟩) hHeld ?_
              rotate_left
              · intro w hSw; (try dsimp only at hSw); go_simp; try with_reducible rfl
              try simp only [Act.put, List.setIfInBounds_toArray, List.set_cons_zero, List.set_cons_succ]
              refine wpAnyE_take (i := 9) (oi := { dst := some 130, op := Go.Op.binOp Go.BinOp.sub 3 (Go.Operand.tmp 129) (Go.Operand.const (Go.Value.int Go.IntKind.i64 1)) 3, type := 3, pos := "l7_sight.go:173", after := #[{ on := 8, ground := Go.Ground.data }], guard := none }) (v := ?_) [12, 13, 14, 15, 16] rfl (by kernel_rfl) (by kernel_rfl) (by kernel_rfl) (by kernel_rfl) (fun j hj => by first | (have e : j = 16 := by simpa using hj); (subst e; rfl)) (by kernel_rfl) (fun _ _ _ h => h) (Or.inl ⟨by rfl, ?_⟩) hHeld ?_
              rotate_left
              · intro w hSw; (try dsimp only at hSw); go_simp; try with_reducible rfl
              try simp only [Act.put, List.setIfInBounds_toArray, List.set_cons_zero, List.set_cons_succ]
              refine wpAnyE_take (i := 10) (oi := { dst := some 131, op := Go.Op.fieldAddr 25 (Go.Operand.tmp 3) 0, type := 0, pos := "l7_sight.go:173", after := #[], guard := none }) (v := ?_) [11, 12, 13, 14, 15, 16] rfl (by kernel_rfl) (by kernel_rfl) (by kernel_rfl) (by kernel_rfl) (fun j hj => by first | (have e : j = 16 := by simpa using hj); (subst e; rfl)) (by kernel_rfl) (fun _ _ _ h => h) (Or.inl ⟨by rfl, ?_⟩) hHeld ?_
              rotate_left
              · intro w hSw; (try dsimp only at hSw); go_simp; try with_reducible rfl
              try simp only [Act.put, List.setIfInBounds_toArray, List.set_cons_zero, List.set_cons_succ]
              refine wpAnyE_take (i := 11) (oi := { dst := some 132, op := Go.Op.load 3 (Go.Operand.tmp 131), type := 3, pos := "l7_sight.go:173", after := #[{ on := 10, ground := Go.Ground.data }], guard := none }) (v := ?_) [12, 13, 14, 15, 16] rfl (by kernel_rfl) (by kernel_rfl) (by kernel_rfl) (by kernel_rfl) (fun j hj => by first | (have e : j = 16 := by simpa using hj); (subst e; rfl)) (by kernel_rfl) (fun _ _ _ h => h) (Or.inl ⟨by rfl, ?_⟩) hHeld ?_
              rotate_left
              · intro w hSw; (try dsimp only at hSw); go_simp; try with_reducible rfl
              try simp only [Act.put, List.setIfInBounds_toArray, List.set_cons_zero, List.set_cons_succ]
              refine wpAnyE_ready (rs := [12]) (by kernel_rfl) (by simp) ?_
              refine AllReadyE.cons (o := { dst := some 133, op := Go.Op.buildSlice 30 3 #[(0, Go.Operand.const (Go.Value.int Go.IntKind.i64 0)), (1, Go.Operand.tmp 130), (2, Go.Operand.tmp 132)], type := 30, pos := "l7_sight.go:173", after := #[{ on := 9, ground := Go.Ground.data }, { on := 11, ground := Go.Ground.data }], guard := none }) rfl (fun K hK => ?_) AllReadyE.nil
              go_simp
              refine hK.out _ _ (fun _ => ?_) (fun hHeld => ?_)
              · exact ⟨(dS.alloc _).var.c3, (dS.alloc _).var.c0⟩
              replace hHeld := hHeld rfl
              clear hK K
              try simp only [Act.put, List.setIfInBounds_toArray, List.set_cons_zero, List.set_cons_succ]
              refine wpAnyE_name ?_
              intro w301 hw301
              try rw [← hw301] at hHeld
              have hb301 := below_alloc hw301
              have hnla : wS.heap.size ≠ p := by have := dS.d0.cur.lt; omega
              have la : LS w301 wS.heap.size [0, D - 1, D] := by rw [hw301]; exact LS.new wS [0, D - 1, D] _
              replace hzp : w.heap.size < w301.heap.size := Nat.lt_of_lt_of_le hzp hb301.size
              clear hw301
              replace dS := dS.below hb301
              refine wpAnyE_ready (rs := [13]) (by kernel_rfl) (by simp) ?_
              refine AllReadyE.cons (o := { dst := some 134, op := Go.Op.call { callee := Go.Callee.value (Go.Operand.func 66), args := #[Go.Operand.tmp 127, Go.Operand.tmp 133], argTypes := #[63, 30] }, type := 3, pos := "l7_sight.go:173", after := #[{ on := 6, ground := Go.Ground.data }, { on := 12, ground := Go.Ground.data }], guard := none }) rfl (fun K hK => ?_) AllReadyE.nil
              go_simp
              refine (among_ls p (K1 + 2) _ 3 _ _ dS.d0.cur (by omega) (by rfl) (by omega) (by omega) la hnla).mono ?_
              rintro e w302 ⟨z, hz, rfl, hC, hk⟩
              clear hz
              replace hzp : w.heap.size < w302.heap.size := Nat.lt_of_lt_of_le hzp hk.size
              replace dS := dS.go hC hk
              clear hC
              clear hk
              try go_simp
              refine hK.out _ _ (fun _ => ?_) (fun hHeld => ?_)
              · exact ⟨dS.var.c3, dS.var.c0⟩
              replace hHeld := hHeld rfl
              clear hK K
              try simp only [Act.put, List.setIfInBounds_toArray, List.set_cons_zero, List.set_cons_succ]
              refine wpAnyE_take (i := 14) (oi := { dst := some 135, op := Go.Op.indexAddr 23 (Go.Operand.tmp 122) (Go.Operand.tmp 126), type := 0, pos := "l7_sight.go:173", after := #[{ on := 1, ground := Go.Ground.data }, { on := 5, ground := Go.Ground.data }, { on := 0, ground := Go.Ground.phase }, { on := 1, ground := Go.Ground.phase }, { on := 2, ground := Go.Ground.phase }, { on := 3, ground := Go.Ground.phase }, { on := 4, ground := Go.Ground.phase }, { on := 5, ground := Go.Ground.phase }, { on := 6, ground := Go.Ground.phase }, { on := 7, ground := Go.Ground.phase }, { on := 8, ground := Go.Ground.phase }, { on := 9, ground := Go.Ground.phase }, { on := 10, ground := Go.Ground.phase }, { on := 11, ground := Go.Ground.phase }, { on := 12, ground := Go.Ground.phase }, { on := 13, ground := Go.Ground.phase }], guard := none }) (v := ?_) [15, 16] rfl (by kernel_rfl) (by kernel_rfl) (by kernel_rfl) (by kernel_rfl) (fun j hj => by first | (have e : j = 16 := by simpa using hj); (subst e; rfl)) (by kernel_rfl) (fun _ _ _ h => h) (Or.inl ⟨by rfl, ?_⟩) hHeld ?_
              rotate_left
              · intro w hSw; (try dsimp only at hSw); go_simp; try with_reducible rfl
              try simp only [Act.put, List.setIfInBounds_toArray, List.set_cons_zero, List.set_cons_succ]
              refine wpAnyE_take (i := 15) (oi := { dst := some 136, op := Go.Op.fieldAddr 72 (Go.Operand.tmp 135) 0, type := 0, pos := "l7_sight.go:173", after := #[{ on := 14, ground := Go.Ground.data }, { on := 0, ground := Go.Ground.phase }, { on := 1, ground := Go.Ground.phase }, { on := 2, ground := Go.Ground.phase }, { on := 3, ground := Go.Ground.phase }, { on := 4, ground := Go.Ground.phase }, { on := 5, ground := Go.Ground.phase }, { on := 6, ground := Go.Ground.phase }, { on := 7, ground := Go.Ground.phase }, { on := 8, ground := Go.Ground.phase }, { on := 9, ground := Go.Ground.phase }, { on := 10, ground := Go.Ground.phase }, { on := 11, ground := Go.Ground.phase }, { on := 12, ground := Go.Ground.phase }, { on := 13, ground := Go.Ground.phase }], guard := none }) (v := ?_) [16] rfl (by kernel_rfl) (by kernel_rfl) (by kernel_rfl) (by kernel_rfl) (fun j hj => by first | (have e : j = 16 := by simpa using hj); (subst e; rfl)) (by kernel_rfl) (fun _ _ _ h => h) (Or.inl ⟨by rfl, ?_⟩) hHeld ?_
              rotate_left
              · intro w hSw; (try dsimp only at hSw); go_simp; try with_reducible rfl
              try simp only [Act.put, List.setIfInBounds_toArray, List.set_cons_zero, List.set_cons_succ]
              refine wpAnyE_ready (rs := [16]) (by kernel_rfl) (by simp) ?_
              refine AllReadyE.cons (o := { dst := none, op := Go.Op.store 3 (Go.Operand.tmp 136) (Go.Operand.tmp 134), type := 0, pos := "l7_sight.go:173", after := #[{ on := 15, ground := Go.Ground.data }, { on := 13, ground := Go.Ground.data }, { on := 13, ground := Go.Ground.chain }, { on := 0, ground := Go.Ground.phase }, { on := 1, ground := Go.Ground.phase }, { on := 2, ground := Go.Ground.phase }, { on := 3, ground := Go.Ground.phase }, { on := 4, ground := Go.Ground.phase }, { on := 5, ground := Go.Ground.phase }, { on := 6, ground := Go.Ground.phase }, { on := 7, ground := Go.Ground.phase }, { on := 8, ground := Go.Ground.phase }, { on := 9, ground := Go.Ground.phase }, { on := 10, ground := Go.Ground.phase }, { on := 11, ground := Go.Ground.phase }, { on := 12, ground := Go.Ground.phase }, { on := 13, ground := Go.Ground.phase }], guard := none }) rfl (fun K hK => ?_) AllReadyE.nil
              have k1 := dS.row.cellAt I hIl 0 (by omega)
              have kf := dS.row.frozen (I * 2)
              simp only [Nat.zero_mul, Nat.zero_add, Nat.add_zero] at k1 kf
              go_simp
              refine hK.out _ _ (fun h => absurd h (by decide)) (fun _ => ?_)
              clear hK K
              try simp only [Act.put, List.setIfInBounds_toArray, List.set_cons_zero, List.set_cons_succ]
              refine wpAnyE_done (by kernel_rfl) ?_ _
              have dT := dS.putG (i := I) (f := 0) (t := ⟨z, (rAt ts I).x1⟩) (x := .int .i64 z) hIl (by omega) rfl (by
                intro f' h1 h2
                match f', h1, h2 with
                | 0, _, h2 => first | rfl | exact absurd rfl h2
                | 1, _, h2 => first | rfl | exact absurd rfl h2
                | m + 2, h, _ => omega)
              simp only [Nat.zero_mul, Nat.zero_add, Nat.add_zero] at dT
              clear hHeld
              have j0 := dT.var.c0
              have j1 := dT.var.c1
              have j2 := dT.var.c2
              have j3 := dT.var.c3
              have jf0 := dT.var.fz 0
              have jf1 := dT.var.fz 1
              have jf2 := dT.var.fz 2
              have jf3 := dT.var.fz 3
              have s0 := dT.d0.res.c0
              have s1 := dT.d0.res.c1
              have s2 := dT.d0.res.c2
              have s3 := dT.d0.res.c3
              have sf0 := dT.d0.res.fz 0
              have sf1 := dT.d0.res.fz 1
              have sf2 := dT.d0.res.fz 2
              have sf3 := dT.d0.res.fz 3
              have hlW := dT.var.lt
              have hlS := dT.d0.res.lt
              have HNW : (.slice (some ⟨g, 0, none⟩) ts.length cu : Value).ownBlock ≠ some w.heap.size := fun e => by have := (dT.row.lt _ e).1; omega
              have rF := ((((dT.row.setFar (b := w.heap.size) (o := 0) (x := .int .i64 D) HNW).setFar (b := w.heap.size) (o := 1) (x := .int .i64 A) HNW).setFar (b := w.heap.size) (o := 2) (x := .int .i64 B) HNW).setFar (b := w.heap.size) (o := 3) (x := .slice (some ⟨g, 0, none⟩) ts.length cu) HNW).base (B' := w.heap.size) (by omega)
              go_wp2
              refine bodyPost_ret (v := .agg #[.int .i64 D, .int .i64 A, .int .i64 B, .slice (some ⟨g, 0, none⟩) ts.length cu]) (by simp [results, Try.results51, go_sem, *]) rfl ⟨_, _, _, _, _, rfl, rF, ?_, ?_⟩
              · first | omega | (simp; omega)
              · have hfin := dT.d0.fin (((((Below.refl w.heap.size _).setCell (p := ⟨w.heap.size, 0, none⟩) (Nat.le_refl _) (.int .i64 D)).setCell (p := ⟨w.heap.size, 1, none⟩) (Nat.le_refl _) (.int .i64 A)).setCell (p := ⟨w.heap.size, 2, none⟩) (Nat.le_refl _) (.int .i64 B)).setCell (p := ⟨w.heap.size, 3, none⟩) (Nat.le_refl _) (.slice (some ⟨g, 0, none⟩) ts.length cu))
                exact ⟨hfin.1.more (by omega), hfin.2⟩
            · have hneg : ¬ (0 : Int) < (ts.length : Int) := by omega
              have j0 := dS.var.c0
              have j1 := dS.var.c1
              have j2 := dS.var.c2
              have j3 := dS.var.c3
              have jf0 := dS.var.fz 0
              have jf1 := dS.var.fz 1
              have jf2 := dS.var.fz 2
              have jf3 := dS.var.fz 3
              have s0 := dS.d0.res.c0
              have s1 := dS.d0.res.c1
              have s2 := dS.d0.res.c2
              have s3 := dS.d0.res.c3
              have sf0 := dS.d0.res.fz 0
              have sf1 := dS.d0.res.fz 1
              have sf2 := dS.d0.res.fz 2
              have sf3 := dS.d0.res.fz 3
              have hlW := dS.var.lt
              have hlS := dS.d0.res.lt
              have HNW : (.slice au ts.length cu : Value).ownBlock ≠ some w.heap.size := fun e => by have := (dS.row.lt _ e).1; omega
              have rF := ((((dS.row.setFar (b := w.heap.size) (o := 0) (x := .int .i64 D) HNW).setFar (b := w.heap.size) (o := 1) (x := .int .i64 A) HNW).setFar (b := w.heap.size) (o := 2) (x := .int .i64 B) HNW).setFar (b := w.heap.size) (o := 3) (x := .slice au ts.length cu) HNW).base (B' := w.heap.size) (by omega)
              go_wp2
              refine bodyPost_ret (v := .agg #[.int .i64 D, .int .i64 A, .int .i64 B, .slice au ts.length cu]) (by simp [results, Try.results51, go_sem, *]) rfl ⟨_, _, _, _, _, rfl, rF, ?_, ?_⟩
              · first | omega | (simp; omega)
              · have hfin := dS.d0.fin (((((Below.refl w.heap.size _).setCell (p := ⟨w.heap.size, 0, none⟩) (Nat.le_refl _) (.int .i64 D)).setCell (p := ⟨w.heap.size, 1, none⟩) (Nat.le_refl _) (.int .i64 A)).setCell (p := ⟨w.heap.size, 2, none⟩) (Nat.le_refl _) (.int .i64 B)).setCell (p := ⟨w.heap.size, 3, none⟩) (Nat.le_refl _) (.slice au ts.length cu))
                exact ⟨hfin.1.more (by omega), hfin.2⟩
          · have t4 : ((r : Int) == 4) = false := by simp; omega
            have j0 := dS.var.c0
            have j1 := dS.var.c1
            have j2 := dS.var.c2
            have j3 := dS.var.c3
            have jf0 := dS.var.fz 0
            have jf1 := dS.var.fz 1
            have jf2 := dS.var.fz 2
            have jf3 := dS.var.fz 3
            have s0 := dS.d0.res.c0
            have s1 := dS.d0.res.c1
            have s2 := dS.d0.res.c2
            have s3 := dS.d0.res.c3
            have sf0 := dS.d0.res.fz 0
            have sf1 := dS.d0.res.fz 1
            have sf2 := dS.d0.res.fz 2
            have sf3 := dS.d0.res.fz 3
            have hlW := dS.var.lt
            have hlS := dS.d0.res.lt
            have HNW : (.slice au ts.length cu : Value).ownBlock ≠ some w.heap.size := fun e => by have := (dS.row.lt _ e).1; omega
            have rF := ((((dS.row.setFar (b := w.heap.size) (o := 0) (x := .int .i64 D) HNW).setFar (b := w.heap.size) (o := 1) (x := .int .i64 A) HNW).setFar (b := w.heap.size) (o := 2) (x := .int .i64 B) HNW).setFar (b := w.heap.size) (o := 3) (x := .slice au ts.length cu) HNW).base (B' := w.heap.size) (by omega)
            go_wp2
            refine bodyPost_ret (v := .agg #[.int .i64 D, .int .i64 A, .int .i64 B, .slice au ts.length cu]) (by simp [results, Try.results51, go_sem, *]) rfl ⟨_, _, _, _, _, rfl, rF, ?_, ?_⟩
            · first | omega | (simp; omega)
            · have hfin := dS.d0.fin (((((Below.refl w.heap.size _).setCell (p := ⟨w.heap.size, 0, none⟩) (Nat.le_refl _) (.int .i64 D)).setCell (p := ⟨w.heap.size, 1, none⟩) (Nat.le_refl _) (.int .i64 A)).setCell (p := ⟨w.heap.size, 2, none⟩) (Nat.le_refl _) (.int .i64 B)).setCell (p := ⟨w.heap.size, 3, none⟩) (Nat.le_refl _) (.slice au ts.length cu))
              exact ⟨hfin.1.more (by omega), hfin.2⟩
end Go.Proofs.Ytkdmjeonlghnjaa
