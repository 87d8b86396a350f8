/- Chapter 7: clearances of the program. Written by a generator of this claim's author. -/
import Derived.Test.YtkdmjeonlghnjaaSi9
namespace Go.Proofs.Ytkdmjeonlghnjaa
open Go.RowKit Go.Sort
set_option linter.unusedSimpArgs false
set_option linter.unusedVariables false
set_option maxRecDepth 100000 in
set_option maxHeartbeats 1000000 in
theorem implClearance_any (D A B n : Int) (c : Value) (ts : List T2) (w : World) (hr : RdR c2 2 w c ts) :
    Calls Try.prog 20 #[.agg #[.int .i64 D, .int .i64 A, .int .i64 B, c], .int .i64 n] w fun e w' => e = .returned (.tuple #[.int .i64 (clX D A B n ts), .int .i64 (clY D A B n ts), .bool (clB D A B n ts)]) ∧ Below w.heap.size w w' := by
  have hm : (ts.length : Int) ≤ 9223372036854775807 := by have := hr.max; unfold maxLen at this; omega
  obtain ⟨a, pc, rfl, hpc⟩ := hr.len
  obtain ⟨N, hn⟩ : ∃ N, N = ts.length := ⟨_, rfl⟩
  rw [← hn] at hm hr hpc
  rw [← hn]
  have HN := Lib.hid hn
  clear hn
  have S0 := SB.start (D := D) (A := A) (B := B) hr 25
  have q0 := S0.q0
  have q1 := S0.q1
  have q2 := S0.q2
  have q3 := S0.q3
  cases hq : sightB D A B ts with
  | false =>
    have HC := Lib.hid (clB_no (askB_no1 (n := n) hq))
    have HS := Lib.hid hq
    clear hq
    go_enter Try.func20, Try.ntmps20
    go_wp2_with fail
    refine (isSight_b D A B _ ts _ S0.rd HS.out).mono ?_
    rintro e w1 ⟨rfl, hb1⟩
    have S1 := S0.next hb1
    go_wp2
    go_ret3
    exact ⟨ret3 (clX_no HC.out).symm (clY_no HC.out).symm HC.out.symm, S1.below⟩
  | true =>
    have HS := Lib.hid hq
    clear hq
    cases hq : inB n 0 3 with
    | false =>
      have HC := Lib.hid (clB_no (askB_no2 (D := D) (A := A) (B := B) (ts := ts) hq))
      have HI := Lib.hid hq
      clear hq
      go_enter Try.func20, Try.ntmps20
      go_wp2_with fail
      refine (isSight_b D A B _ ts _ S0.rd HS.out).mono ?_
      rintro e w1 ⟨rfl, hb1⟩
      have S1 := S0.next hb1
      have q0 := S1.q0
      have q1 := S1.q1
      have q2 := S1.q2
      have q3 := S1.q3
      go_wp2_with fail
      refine (isRefraction_b n _ HI.out).mono ?_
      rintro e w' ⟨rfl, rfl⟩
      go_wp2
      go_ret3
      exact ⟨ret3 (clX_no HC.out).symm (clY_no HC.out).symm HC.out.symm, S1.below⟩
    | true =>
      have HQ := Lib.hid (askB_yes HS.out hq)
      have HB := Lib.hid (SiBn.ask HQ.out)
      have HI := Lib.hid hq
      clear hq
      by_cases hz : N = 0
      · have HC := Lib.hid (clB_nil (D := D) (A := A) (B := B) (n := n) (HN.out.symm.trans hz))
        have hnz : Hid (((N : Int) == 0) = true) := Lib.hid (by simp [hz])
        clear hz
        go_enter Try.func20, Try.ntmps20
        go_wp2_with fail
        refine (isSight_b D A B _ ts _ S0.rd HS.out).mono ?_
        rintro e w1 ⟨rfl, hb1⟩
        have S1 := S0.next hb1
        have q0 := S1.q0
        have q1 := S1.q1
        have q2 := S1.q2
        have q3 := S1.q3
        go_wp2_with fail
        refine (isRefraction_b n _ HI.out).mono ?_
        rintro e w' ⟨rfl, rfl⟩
        have hnz := hnz.out
        go_wp2
        go_ret3
        exact ⟨ret3 (clX_no HC.out).symm (clY_no HC.out).symm HC.out.symm, S1.below⟩
      · have HC := Lib.hid (clB_yes HQ.out (by rw [← HN.out]; exact hz))
        have HX := Lib.hid (clX_yes HC.out)
        have HY := Lib.hid (clY_yes HC.out)
        have HM := Lib.hid (mnT_bound HB.out (k := ts.length - 1) (by rw [← HN.out]; omega))
        have hD1 := HB.out.d1
        have hD9 := HB.out.d9
        have hNZ : 0 < N := by omega
        have hnz : ((N : Int) == 0) = false := by simp [hz]
        clear hz
        go_enter Try.func20, Try.ntmps20
        go_wp2_with fail
        refine (isSight_b D A B _ ts _ S0.rd HS.out).mono ?_
        rintro e w1 ⟨rfl, hb1⟩
        have S1 := S0.next hb1
        have q0 := S1.q0
        have q1 := S1.q1
        have q2 := S1.q2
        have q3 := S1.q3
        go_wp2_with fail
        refine (isRefraction_b n _ HI.out).mono ?_
        rintro e w' ⟨rfl, rfl⟩
        obtain ⟨g, off, rfl, hg, x0, x1⟩ := S1.rd.at2 HN.out 0 hNZ
        simp only [Nat.zero_mul, Nat.add_zero] at x0 x1
        have C0 := roomAbove_g D A B n (rAt ts 0).x0 (rAt ts 0).x1 (.slice (some ⟨g, off, none⟩) N pc) w1 (HB.out.at_ (by rw [← HN.out]; exact hNZ))
        have hI : (0 : Int) < (N : Int) := by omega
        go_wp2_with fail
        have K0 := cell_regrown S1.q0
        have K1 := cell_regrown S1.q1
        have K2 := cell_regrown S1.q2
        have K3 := cell_regrown S1.q3
        have K4 := cell_regrown x0
        have K5 := cell_regrown x1
        refine wp_region_quiet_below (by kernel_rfl) (by kernel_rfl) ?_
        repeat (go_big_quiet_step (first | (with_reducible exact C0 _ _)))
        refine wpQuiet_nil ?_
        intro _ hw'
        obtain ⟨⟨dq, osq⟩, hw''⟩ := hw'
        subst hw''
        have S2 := S1.next (below_regrown w1 dq osq)
        generalize grow (redrawn w1 dq) osq = W2 at *
        clear C0 K0 K1 K2 K3 K4 K5 x0 x1 q0 q1 q2 q3 S0 S1
        have q0 := S2.q0
        have q1 := S2.q1
        have q2 := S2.q2
        have q3 := S2.q3
        by_cases hcap : pc = 1
        · obtain rfl : N = 1 := by omega
          subst hcap
          go_wp2
          go_loopw [7, 37] (fun s7 t wr => ∃ z : Int, t = .int .i64 0 ∧ s7 = .int .i64 z ∧ Hid (z = mnT D A B n ts 0) ∧ SB w wr D A B (some ⟨g, off, none⟩) 1 1 ts) (fun s7 t wr => 0)
          case atStart => exact ⟨_, rfl, rfl, Lib.hid rfl, S2⟩
          case round =>
            clear q0 q1 q2 q3 S2
            obtain ⟨z, rfl, rfl, hz', SK⟩ := hrel
            have q0 := SK.q0
            have q1 := SK.q1
            have q2 := SK.q2
            have q3 := SK.q3
            have hzM : Hid (z = clM D A B n ts) := Lib.hid (by rw [hz'.out]; unfold clM; rw [← HN.out] <;> rfl)
            have hzb : -1000000000000 ≤ z ∧ z ≤ 1000000000000 := by rw [hzM.out]; exact HM.out
            obtain ⟨hz1, hz2⟩ := hzb
            have hgp : 0 < Int.gcd z (50968 * D) := Int.gcd_pos_of_ne_zero_right _ (by omega)
            have hgb : Int.gcd z (50968 * D) ≤ 1000000000000 := by have := Int.gcd_le_natAbs_right z (b := 50968 * D) (by omega); omega
            have HX2 := Lib.hid (HX.out.trans (by rw [← hzM.out]))
            have HY2 := Lib.hid (HY.out.trans (by rw [← hzM.out]))
            have HCD := Lib.hid (fun w => commonDivisor_any z (50968 * D) w hz1 hz2 (by omega) (by omega))
            obtain ⟨gg, hgg⟩ : ∃ gg, gg = Int.gcd z (50968 * D) := ⟨_, rfl⟩
            rw [← hgg] at hgp hgb HX2 HY2 HCD
            clear hgg
            have hgn : (gg : Int) ≠ 0 := by omega
            go_wp2_with fail
            refine (HCD.out _).mono ?_
            rintro e w' ⟨rfl, rfl⟩
            go_wp2_with fail
            refine wp_region_quiet_below (by kernel_rfl) (by kernel_rfl) ?_
            repeat (go_big_quiet_step (fail))
            refine wpQuiet_nil ?_
            intro _ hw'
            obtain ⟨⟨dq, osq⟩, hw''⟩ := hw'
            subst hw''
            have S4 := SK.next (below_regrown wr dq osq)
            go_wp2
            go_ret3
            exact ⟨ret3 HX2.out.symm HY2.out.symm HC.out.symm, S4.below⟩
        · go_wp2
          go_loopw [7, 37] (fun s7 t wr => ∃ k : Nat, ∃ z : Int, k ≤ N - 1 ∧ t = .int .i64 k ∧ s7 = .int .i64 z ∧ Hid (z = mnT D A B n ts k) ∧ SB w wr D A B (some ⟨g, off, none⟩) N pc ts) (fun s7 t wr => N - (intOf t).toNat)
          case atStart => exact ⟨0, _, Nat.zero_le _, rfl, rfl, Lib.hid rfl, S2⟩
          case round =>
            clear q0 q1 q2 q3 S2
            obtain ⟨k, z, hk, rfl, rfl, hz', SK⟩ := hrel
            have hlt0 := SK.lt
            have q0 := SK.q0
            have q1 := SK.q1
            have q2 := SK.q2
            have q3 := SK.q3
            by_cases hlt : k < N - 1
            · obtain ⟨g', off', hge, hg', x0, x1⟩ := (SK.rd.drop (m := 1) (by omega) hcap).at2 (by rw [List.length_drop, ← HN.out]) k (by omega)
              simp only [Option.some.injEq, Addr.mk.injEq, and_true] at hge
              obtain ⟨rfl, rfl⟩ := hge
              rw [rAt_drop] at x0 x1
              simp only [Nat.one_mul] at x0 x1
              rw [Nat.add_comm 1 k] at x0 x1
              have HCB := Lib.hid (HB.out.at_ (i := k + 1) (by rw [← HN.out]; omega))
              have SA := SK.alloc (.cells #[.int .i64 (rAt ts (k + 1)).x0, .int .i64 (rAt ts (k + 1)).x1] 72)
              obtain ⟨r, hr'⟩ : ∃ r, r = ovr D A B n ⟨(rAt ts (k + 1)).x0, (rAt ts (k + 1)).x1⟩ := ⟨_, rfl⟩
              have E1 : Hid (min z r = mnT D A B n ts (k + 1)) := Lib.hid (by rw [hz'.out, hr']; rfl)
              have HCA := Lib.hid (fun (c : Value) (w : World) => roomAbove_any D A B n (rAt ts (k + 1)).x0 (rAt ts (k + 1)).x1 c w HCB.out)
              rw [← hr'] at HCA
              clear hr'
              go_wp2_with fail
              refine (HCA.out _ _).mono ?_
              rintro e w3 ⟨rfl, hb3⟩
              have S3 := SA.next hb3
              by_cases hzr : z < r
              · go_wp2
                go_roundw
                case rel => exact ⟨k + 1, _, by omega, by go_num, rfl, Lib.hid (by have := E1.out; omega), S3⟩
                case measure => simp [intOf]; omega
              · have hzr' : r ≤ z := by omega
                go_wp2
                all_goals
                  go_roundw
                  case rel => exact ⟨k + 1, _, by omega, by go_num, rfl, Lib.hid (by have := E1.out; omega), S3⟩
                  case measure => simp [intOf]; omega
            · obtain rfl : k = N - 1 := by omega
              have hzM : Hid (z = clM D A B n ts) := Lib.hid (by rw [hz'.out]; unfold clM; rw [← HN.out] <;> rfl)
              have hzb : -1000000000000 ≤ z ∧ z ≤ 1000000000000 := by rw [hzM.out]; exact HM.out
              obtain ⟨hz1, hz2⟩ := hzb
              have hgp : 0 < Int.gcd z (50968 * D) := Int.gcd_pos_of_ne_zero_right _ (by omega)
              have hgb : Int.gcd z (50968 * D) ≤ 1000000000000 := by have := Int.gcd_le_natAbs_right z (b := 50968 * D) (by omega); omega
              have HX2 := Lib.hid (HX.out.trans (by rw [← hzM.out]))
              have HY2 := Lib.hid (HY.out.trans (by rw [← hzM.out]))
              have HCD := Lib.hid (fun w => commonDivisor_any z (50968 * D) w hz1 hz2 (by omega) (by omega))
              obtain ⟨gg, hgg⟩ : ∃ gg, gg = Int.gcd z (50968 * D) := ⟨_, rfl⟩
              rw [← hgg] at hgp hgb HX2 HY2 HCD
              clear hgg
              have hgn : (gg : Int) ≠ 0 := by omega
              go_wp2_with fail
              refine (HCD.out _).mono ?_
              rintro e w' ⟨rfl, rfl⟩
              go_wp2_with fail
              refine wp_region_quiet_below (by kernel_rfl) (by kernel_rfl) ?_
              repeat (go_big_quiet_step (fail))
              refine wpQuiet_nil ?_
              intro _ hw'
              obtain ⟨⟨dq, osq⟩, hw''⟩ := hw'
              subst hw''
              have S4 := SK.next (below_regrown wr dq osq)
              go_wp2
              go_ret3
              exact ⟨ret3 HX2.out.symm HY2.out.symm HC.out.symm, S4.below⟩
end Go.Proofs.Ytkdmjeonlghnjaa
