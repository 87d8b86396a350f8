/- Chapter 6: LongestLink and NeighboursOf of both sides. Written by a generator of this claim's author. -/
import Derived.Test.YteickcpmicifgaaNe8
namespace Go.Proofs.Yteickcpmicifgaa
open Go.RowKit Go.Sort
set_option linter.unusedSimpArgs false
set_option linter.unusedVariables false

theorem NB.grown {w W W' : World} {a0 a1 : Option Addr} {n p0 m p1 : Nat} {ts ls : List T3} (h : NB w W a0 n p0 a1 m p1 ts ls) (h0 : RdN w (.slice a0 n p0) (.slice a1 m p1) ts ls) {row : Option Nat} (hg : W.grownBy W' row) (hr : ∀ k, row = some k → w.heap.size < k) : NB w W' a0 n p0 a1 m p1 ts ls :=
  have hB : Below w.heap.size w W' := h.below.grown hg (Nat.le_of_lt h.lt) (fun k hk => Nat.le_of_lt (hr k hk))
  ⟨hB, Nat.lt_of_lt_of_le h.lt hg.size, hg.cell h.b0 (fun e => by have := hr _ e.symm; exact absurd this (Nat.lt_irrefl _)), hg.cell h.b1 (fun e => by have := hr _ e.symm; exact absurd this (Nat.lt_irrefl _)), h0.below hB (Nat.le_refl _)⟩

def llC (ts ls : List T3) : Bool := netB ts ls && decide (0 < ls.length)
/-- What stands in 'most' after k links, where it begins at z. -/
def mostZ (ts ls : List T3) (z : Int) (k : Nat) : Int := if k = 0 then z else sqL ts ls (mxI ts ls k)
theorem mostZ_yes {ts ls : List T3} {z : Int} {k : Nat} (hz : z < 0 ∨ z = 0) (h0 : 0 ≤ sqL ts ls k) (h : mostZ ts ls z k < sqL ts ls k) : mxI ts ls (k + 1) = k ∧ mostZ ts ls z (k + 1) = sqL ts ls k := by
  have e : mxI ts ls (k + 1) = k := by
    by_cases hk : k = 0
    · subst hk; exact mxI_one _ _
    · unfold mostZ at h; rw [if_neg hk] at h; exact mxI_yes h
  exact ⟨e, by unfold mostZ; rw [if_neg (by omega), e]⟩
theorem mostZ_no {ts ls : List T3} {z : Int} {k : Nat} (hz : z < 0 ∨ z = 0) (h0 : 0 ≤ sqL ts ls k) (h : ¬ mostZ ts ls z k < sqL ts ls k) : mxI ts ls (k + 1) = mxI ts ls k ∧ mostZ ts ls z (k + 1) = mostZ ts ls z k := by
  by_cases hk : k = 0
  · subst hk
    unfold mostZ at h
    simp at h
    have hs : sqL ts ls 0 = 0 := by omega
    have hz0 : z = 0 := by omega
    exact ⟨mxI_one _ _, by unfold mostZ; simp [mxI_one, hs, hz0]⟩
  · unfold mostZ at h; rw [if_neg hk] at h
    have e := mxI_no h
    exact ⟨e, by unfold mostZ; rw [if_neg (by omega), if_neg hk, e]⟩

set_option maxRecDepth 100000 in
set_option maxHeartbeats 1000000 in
theorem specLongestLink_any (c0 c1 : Value) (ts ls : List T3) (w : World) (hr : RdN w c0 c1 ts ls) :
    Calls Try.prog 32 #[.agg #[c0, c1]] w fun e w' => e = .returned (resZ (llC ts ls) (mxI ts ls ls.length : Nat)) ∧ Below w.heap.size w w' := by
  have hm0 : (ts.length : Int) ≤ 9223372036854775807 := by have := hr.1.max; unfold maxLen at this; omega
  have hm1 : (ls.length : Int) ≤ 9223372036854775807 := by have := hr.2.max; unfold maxLen at this; omega
  obtain ⟨a0, p0, rfl, hp0⟩ := hr.1.len
  obtain ⟨a1, p1, rfl, hp1⟩ := hr.2.len
  obtain ⟨n, hn⟩ : ∃ n, n = ts.length := ⟨_, rfl⟩
  obtain ⟨m, hm⟩ : ∃ m, m = ls.length := ⟨_, rfl⟩
  rw [← hn] at hm0 hr hp0
  rw [← hm] at hm1 hr hp1
  rw [← hn, ← hm]
  have HN := Lib.hid hn
  have HM := Lib.hid hm
  clear hn hm
  have N0 := NB.start hr 31
  have h0 := N0.b0
  have h1 := N0.b1
  have HR := Lib.hid hr
  clear hr
  cases c0 : netB ts ls with
  | false =>
    have H0 := Lib.hid c0
    clear c0
    have HF := Lib.hid (resZ_no (c := llC ts ls) (x := (mxI ts ls m : Nat)) (by unfold llC; rw [H0.out]; rfl))
    go_enter Try.func32, Try.ntmps32
    go_wp2_with fail
    refine (neGood_b _ _ ts ls _ N0.rd H0.out).mono ?_
    rintro e w1 ⟨rfl, hb1⟩
    have N1 := N0.next hb1
    have h0 := N1.b0
    have h1 := N1.b1
    go_wp2
    go_ret2
    exact ⟨by rw [HF.out]; rfl, N1.below⟩
  | true =>
    have H0 := Lib.hid c0
    clear c0
    go_enter Try.func32, Try.ntmps32
    go_wp2_with fail
    refine (neGood_b _ _ ts ls _ N0.rd H0.out).mono ?_
    rintro e w1 ⟨rfl, hb1⟩
    have N1 := N0.next hb1
    have h0 := N1.b0
    have h1 := N1.b1
    have HOK := Lib.hid (netB_iff.1 H0.out)
    rcases Nat.eq_zero_or_pos m with hz | hpos
    · have HF := Lib.hid (resZ_no (c := llC ts ls) (x := (mxI ts ls m : Nat)) (by unfold llC; rw [← HM.out, hz]; simp))
      have hz0 : ((m : Int) == 0) = true := by simp [hz]
      clear hz
      go_wp2
      go_ret2
      exact ⟨by rw [HF.out]; rfl, N1.below⟩
    have HF := Lib.hid (resZ_yes (c := llC ts ls) (x := (mxI ts ls m : Nat)) (by unfold llC; rw [H0.out, ← HM.out]; simpa using hpos))
    have hz0 : ((m : Int) == 0) = false := by simp; omega
    go_wp2
    clear hz0
    go_loopw [4, 5, 21] (fun b s i wr => ∃ k : Nat, k ≤ m ∧ i = .int .i64 k ∧ b = .int .i64 (mxI ts ls k : Nat) ∧ s = .int .i64 (mostZ ts ls (-1) k) ∧ NB w wr a0 n p0 a1 m p1 ts ls) (fun b s i wr => m - (intOf i).toNat)
    case atStart => exact ⟨0, Nat.zero_le _, rfl, rfl, rfl, N1⟩
    case round =>
      clear h0 h1 N0 N1 hb1
      obtain ⟨k, hk, rfl, rfl, rfl, NK⟩ := hrel
      have h0 := NK.b0
      have h1 := NK.b1
      by_cases hlt : k < m
      · obtain ⟨g, off, rfl, hg, q0, q1, q2⟩ := NK.rd.2.at3 HM.out k hlt
        have hl := HOK.out.lnk k (by rw [← HM.out]; exact hlt)
        rw [← HN.out] at hl
        obtain ⟨u, hu⟩ : ∃ u : Nat, (rAt ls k).x0 = (u : Int) := ⟨(rAt ls k).x0.toNat, by omega⟩
        obtain ⟨v, hv⟩ : ∃ v : Nat, (rAt ls k).x1 = (v : Int) := ⟨(rAt ls k).x1.toNat, by omega⟩
        have hun : u < n := by omega
        have hvn : v < n := by omega
        have hS : Hid (sqL ts ls k = sqZ ts u v) := Lib.hid (by unfold sqL; rw [hu, hv]; rfl)
        have hSb : 0 ≤ sqZ ts u v := (sqZ_bound HOK.out (a := u) (b := v) (by rw [← HN.out]; exact hun) (by rw [← HN.out]; exact hvn)).1
        rw [hu] at q0
        rw [hv] at q1
        clear hl hu hv
        generalize (rAt ls k).x2 = x2 at *
        have NA := NK.alloc (.cells #[.int .i64 (u : Int), .int .i64 (v : Int), .int .i64 x2] 53)
        have HY := Lib.hid (mostZ_yes (ts := ts) (ls := ls) (z := (-1)) (k := k) (by omega) (by rw [hS.out]; exact hSb))
        have HNO := Lib.hid (mostZ_no (ts := ts) (ls := ls) (z := (-1)) (k := k) (by omega) (by rw [hS.out]; exact hSb))
        obtain ⟨y, hy⟩ : ∃ y, sqZ ts u v = y := ⟨_, rfl⟩
        rw [hy] at hS
        obtain ⟨s0, hs0⟩ : ∃ s0, mostZ ts ls (-1) k = s0 := ⟨_, rfl⟩
        rw [hs0] at HY HNO
        have HSQ := Lib.hid hy
        rw [hs0]
        clear hs0 hy hSb
        have j0 := NA.b0
        have j1 := NA.b1
        have HC := Lib.hid (neSquare_any _ _ ts ls u v _ NA.rd HOK.out (by rw [← HN.out]; exact hun) (by rw [← HN.out]; exact hvn))
        clear h0 h1
        by_cases hgt : s0 < y
        · obtain ⟨e1, e2⟩ := HY.out (by rw [hS.out]; exact hgt)
          have E1 := Lib.hid e1
          have E2 := Lib.hid e2
          clear e1 e2
          go_wp2_with fail
          refine (HC.out).mono ?_
          rintro e w2 ⟨rfl, hb2⟩
          rw [HSQ.out]
          go_wp2
          go_roundw
          case rel => exact ⟨k + 1, by omega, by go_num, by rw [E1.out], by rw [E2.out, hS.out], NA.next hb2⟩
          case measure => simp [intOf]; omega
        · obtain ⟨e1, e2⟩ := HNO.out (by rw [hS.out]; omega)
          have E1 := Lib.hid e1
          have E2 := Lib.hid e2
          clear e1 e2
          go_wp2_with fail
          refine (HC.out).mono ?_
          rintro e w2 ⟨rfl, hb2⟩
          rw [HSQ.out]
          go_wp2
          go_roundw
          case rel => exact ⟨k + 1, by omega, by go_num, by rw [E1.out], by rw [E2.out], NA.next hb2⟩
          case measure => simp [intOf]; omega
      · obtain rfl : k = m := by omega
        go_wp2
        go_ret2
        exact ⟨by rw [HF.out]; rfl, NK.below⟩

set_option maxRecDepth 100000 in
set_option maxHeartbeats 1000000 in
theorem implLongestLink_any (c0 c1 : Value) (ts ls : List T3) (w : World) (hr : RdN w c0 c1 ts ls) :
    Calls Try.prog 33 #[.agg #[c0, c1]] w fun e w' => e = .returned (resZ (llC ts ls) (mxI ts ls ls.length : Nat)) ∧ Below w.heap.size w w' := by
  have hm0 : (ts.length : Int) ≤ 9223372036854775807 := by have := hr.1.max; unfold maxLen at this; omega
  have hm1 : (ls.length : Int) ≤ 9223372036854775807 := by have := hr.2.max; unfold maxLen at this; omega
  obtain ⟨a0, p0, rfl, hp0⟩ := hr.1.len
  obtain ⟨a1, p1, rfl, hp1⟩ := hr.2.len
  obtain ⟨n, hn⟩ : ∃ n, n = ts.length := ⟨_, rfl⟩
  obtain ⟨m, hm⟩ : ∃ m, m = ls.length := ⟨_, rfl⟩
  rw [← hn] at hm0 hr hp0
  rw [← hm] at hm1 hr hp1
  rw [← hn, ← hm]
  have HN := Lib.hid hn
  have HM := Lib.hid hm
  clear hn hm
  have N0 := NB.start hr 31
  have h0 := N0.b0
  have h1 := N0.b1
  have HR := Lib.hid hr
  clear hr
  cases c0 : netB ts ls with
  | false =>
    have H0 := Lib.hid c0
    clear c0
    have HF := Lib.hid (resZ_no (c := llC ts ls) (x := (mxI ts ls m : Nat)) (by unfold llC; rw [H0.out]; rfl))
    go_enter Try.func33, Try.ntmps33
    go_wp2_with fail
    refine (isNet_b _ _ ts ls _ N0.rd H0.out).mono ?_
    rintro e w1 ⟨rfl, hb1⟩
    have N1 := N0.next hb1
    have h0 := N1.b0
    have h1 := N1.b1
    go_wp2
    go_ret2
    exact ⟨by rw [HF.out]; rfl, N1.below⟩
  | true =>
    have H0 := Lib.hid c0
    clear c0
    go_enter Try.func33, Try.ntmps33
    go_wp2_with fail
    refine (isNet_b _ _ ts ls _ N0.rd H0.out).mono ?_
    rintro e w1 ⟨rfl, hb1⟩
    have N1 := N0.next hb1
    have h0 := N1.b0
    have h1 := N1.b1
    have HOK := Lib.hid (netB_iff.1 H0.out)
    rcases Nat.eq_zero_or_pos m with hz | hpos
    · have HF := Lib.hid (resZ_no (c := llC ts ls) (x := (mxI ts ls m : Nat)) (by unfold llC; rw [← HM.out, hz]; simp))
      have hz0 : ((m : Int) == 0) = true := by simp [hz]
      clear hz
      go_wp2
      go_ret2
      exact ⟨by rw [HF.out]; rfl, N1.below⟩
    have HF := Lib.hid (resZ_yes (c := llC ts ls) (x := (mxI ts ls m : Nat)) (by unfold llC; rw [H0.out, ← HM.out]; simpa using hpos))
    have hz0 : ((m : Int) == 0) = false := by simp; omega
    go_wp2
    clear hz0
    go_loopw [4, 5, 21] (fun b s i wr => ∃ k : Nat, k ≤ m ∧ i = .int .i64 k ∧ b = .int .i64 (mxI ts ls k : Nat) ∧ s = .int .i64 (mostZ ts ls 0 k) ∧ NB w wr a0 n p0 a1 m p1 ts ls) (fun b s i wr => m - (intOf i).toNat)
    case atStart => exact ⟨0, Nat.zero_le _, rfl, rfl, rfl, N1⟩
    case round =>
      clear h0 h1 N0 N1 hb1
      obtain ⟨k, hk, rfl, rfl, rfl, NK⟩ := hrel
      have h0 := NK.b0
      have h1 := NK.b1
      by_cases hlt : k < m
      · obtain ⟨g, off, rfl, hg, q0, q1, q2⟩ := NK.rd.2.at3 HM.out k hlt
        have hl := HOK.out.lnk k (by rw [← HM.out]; exact hlt)
        rw [← HN.out] at hl
        obtain ⟨u, hu⟩ : ∃ u : Nat, (rAt ls k).x0 = (u : Int) := ⟨(rAt ls k).x0.toNat, by omega⟩
        obtain ⟨v, hv⟩ : ∃ v : Nat, (rAt ls k).x1 = (v : Int) := ⟨(rAt ls k).x1.toNat, by omega⟩
        have hun : u < n := by omega
        have hvn : v < n := by omega
        have hS : Hid (sqL ts ls k = sqZ ts u v) := Lib.hid (by unfold sqL; rw [hu, hv]; rfl)
        have hSb : 0 ≤ sqZ ts u v := (sqZ_bound HOK.out (a := u) (b := v) (by rw [← HN.out]; exact hun) (by rw [← HN.out]; exact hvn)).1
        rw [hu] at q0
        rw [hv] at q1
        clear hl hu hv
        generalize (rAt ls k).x2 = x2 at *
        have NA := NK.alloc (.cells #[.int .i64 (u : Int), .int .i64 (v : Int), .int .i64 x2] 53)
        have HY := Lib.hid (mostZ_yes (ts := ts) (ls := ls) (z := 0) (k := k) (by omega) (by rw [hS.out]; exact hSb))
        have HNO := Lib.hid (mostZ_no (ts := ts) (ls := ls) (z := 0) (k := k) (by omega) (by rw [hS.out]; exact hSb))
        obtain ⟨y, hy⟩ : ∃ y, sqZ ts u v = y := ⟨_, rfl⟩
        rw [hy] at hS
        obtain ⟨s0, hs0⟩ : ∃ s0, mostZ ts ls 0 k = s0 := ⟨_, rfl⟩
        rw [hs0] at HY HNO
        have HSQ := Lib.hid hy
        rw [hs0]
        clear hs0 hy hSb
        obtain ⟨g0, off0, rfl, hg0, r0, r1, r2⟩ := NA.rd.1.at3 HN.out u hun
        obtain ⟨g1, off1, hge, -, t0, t1, t2⟩ := NA.rd.1.at3 HN.out v hvn
        simp only [Option.some.injEq, Addr.mk.injEq, and_true] at hge
        obtain ⟨rfl, rfl⟩ := hge
        have x0c : (wr.alloc (.cells #[.int .i64 (u : Int), .int .i64 (v : Int), .int .i64 x2] 53)).cell? ⟨wr.heap.size, 0, none⟩ = some (.int .i64 (u : Int)) := by simp [go_sem]
        have x1c : (wr.alloc (.cells #[.int .i64 (u : Int), .int .i64 (v : Int), .int .i64 x2] 53)).cell? ⟨wr.heap.size, 1, none⟩ = some (.int .i64 (v : Int)) := by simp [go_sem]
        go_wp2
        generalize wr.alloc (.cells #[.int .i64 (u : Int), .int .i64 (v : Int), .int .i64 x2] 53) = W at *
        generalize wr.heap.size = Bx at *
        have K0 := cell_regrown NA.b0
        have K1 := cell_regrown r0
        have K2 := cell_regrown r1
        have K3 := cell_regrown r2
        have K4 := cell_regrown t0
        have K5 := cell_regrown t1
        have K6 := cell_regrown t2
        have K7 := cell_regrown x0c
        have K8 := cell_regrown x1c
        have KC : ∀ d os, Calls Try.prog 63 #[.agg #[.int .i64 (rAt ts u).x0, .int .i64 (rAt ts u).x1, .int .i64 (rAt ts u).x2], .agg #[.int .i64 (rAt ts v).x0, .int .i64 (rAt ts v).x1, .int .i64 (rAt ts v).x2]] (grow (redrawn W d) os) fun e w'' => e = .returned (.int .i64 y) ∧ ∃ p : Regrown, w'' = grow (redrawn W p.d) p.os :=
          fun d os => HSQ.out ▸ Calls.regrown_of (squareOf_any _ _ _ _ _ _ _ (HOK.out.tow u (by rw [← HN.out]; exact hun)).1 (HOK.out.tow u (by rw [← HN.out]; exact hun)).2.1 (HOK.out.tow v (by rw [← HN.out]; exact hvn)).1 (HOK.out.tow v (by rw [← HN.out]; exact hvn)).2.1)
        clear r0 r1 r2 t0 t1 t2 x0c x1c h0 h1
        refine wp_region_quiet_below (by kernel_rfl) (by kernel_rfl) ?_
        repeat (go_big_quiet_step (first | (with_reducible exact KC _ _)))
        refine wpQuiet_nil ?_
        intro _ hw'
        obtain ⟨⟨dq, osq⟩, hw''⟩ := hw'
        subst hw''
        have NQ := NA.next (below_regrown W dq osq)
        clear K0 K1 K2 K3 K4 K5 K6 K7 K8 KC
        by_cases hgt : s0 < y
        · obtain ⟨e1, e2⟩ := HY.out (by rw [hS.out]; exact hgt)
          have E1 := Lib.hid e1
          have E2 := Lib.hid e2
          clear e1 e2
          go_wp2
          go_roundw
          case rel => exact ⟨k + 1, by omega, by go_num, by rw [E1.out], by rw [E2.out, hS.out], NQ⟩
          case measure => simp [intOf]; omega
        · obtain ⟨e1, e2⟩ := HNO.out (by rw [hS.out]; omega)
          have E1 := Lib.hid e1
          have E2 := Lib.hid e2
          clear e1 e2
          go_wp2
          go_roundw
          case rel => exact ⟨k + 1, by omega, by go_num, by rw [E1.out], by rw [E2.out], NQ⟩
          case measure => simp [intOf]; omega
      · obtain rfl : k = m := by omega
        go_wp2
        go_ret2
        exact ⟨by rw [HF.out]; rfl, NK.below⟩

end Go.Proofs.Yteickcpmicifgaa
