/- Chapter 6: is it a net? The model's check. -/
import Derived.Test.YtfmmkiijohnbfaaDoorNe2
namespace Go.Proofs.YtfmmkiijohnbfaaDoor
open Go.RowKit Go.Sort
set_option linter.unusedSimpArgs false
set_option linter.unusedVariables false

theorem l1In_b {b : Bool} (n lo hi : Int) (w : World) (hb : inB n lo hi = b) : Calls Tryd.prog 36 #[.int .i64 n, .int .i64 lo, .int .i64 hi] w fun e w' => e = .returned (.bool b) ∧ w = w' := by
  subst hb; exact l1In_any n lo hi w
theorem Calls.regrown_same {P : Program} {f : FuncId} {args : Array Value} {w : World} {d : Nat} {os : Array Obj} {v : Value}
    (h : Calls P f args (grow (redrawn w d) os) fun e w' => e = .returned v ∧ grow (redrawn w d) os = w') : Calls P f args (grow (redrawn w d) os) fun e w'' => e = .returned v ∧ ∃ p : Regrown, w'' = grow (redrawn w p.d) p.os :=
  h.mono fun _ _ ⟨he, hw⟩ => ⟨he, ⟨d, os⟩, hw.symm⟩
theorem l1In_g {b : Bool} (n lo hi : Int) (w : World) (hb : inB n lo hi = b) : ∀ d os, Calls Tryd.prog 36 #[.int .i64 n, .int .i64 lo, .int .i64 hi] (grow (redrawn w d) os) fun e w'' => e = .returned (.bool b) ∧ ∃ p : Regrown, w'' = grow (redrawn w p.d) p.os :=
  fun d os => Calls.regrown_same (l1In_b n lo hi _ hb)
theorem neBefore_g {b : Bool} (x0 x1 x2 y0 y1 y2 : Int) (w : World) (hb : befB ⟨x0, x1, x2⟩ ⟨y0, y1, y2⟩ = b) : ∀ d os, Calls Tryd.prog 37 #[.agg #[.int .i64 x0, .int .i64 x1, .int .i64 x2], .agg #[.int .i64 y0, .int .i64 y1, .int .i64 y2]] (grow (redrawn w d) os) fun e w'' => e = .returned (.bool b) ∧ ∃ p : Regrown, w'' = grow (redrawn w p.d) p.os :=
  fun d os => Calls.regrown_of (by subst hb; exact neBefore_any _ _ _ _ _ _ _)

/-- The model's tests of a link, in their order. -/
theorem lnk_tests {m : Nat} {x0 x1 x2 z : Int} (hm : (m : Int) ≤ 9223372036854775807) (hz : IntKind.i64.wrap (x1 - 1) = z) :
    lnkB m ⟨x0, x1, x2⟩ = (inB x0 0 z && inB x1 0 ((m : Int) - 1) && inB x2 1 60) := by
  by_cases h : 0 ≤ x1 ∧ x1 ≤ (m : Int) - 1
  · have hz' : z = x1 - 1 := by rw [← hz]; exact IntWalk.i64_in _ (by omega)
    subst hz'
    rw [Bool.eq_iff_iff]
    simp only [lnkB_iff, Bool.and_eq_true, inB_iff]
    omega
  · rw [inB_no (n := x1) (by omega)]
    have : lnkB m ⟨x0, x1, x2⟩ = false := by
      cases e : lnkB m ⟨x0, x1, x2⟩ with
      | false => rfl
      | true => have := lnkB_iff.1 e; simp at this; omega
    rw [this]; simp

set_option maxRecDepth 100000 in
set_option maxHeartbeats 2000000 in
theorem neGood_any (c0 c1 : Value) (ts ls : List T3) (w : World) (hr : RdN w c0 c1 ts ls) :
    Calls Tryd.prog 16 #[.agg #[c0, c1]] w fun e w' => e = .returned (.bool (netB ts ls)) ∧ Below w.heap.size w w' := by
  have hm0 := hr.1.max
  have hm1 := hr.2.max
  have hm0 : (ts.length : Int) ≤ 9223372036854775807 := by unfold maxLen at hm0; omega
  have hm1 : (ls.length : Int) ≤ 9223372036854775807 := by unfold maxLen at hm1; omega
  obtain ⟨a0, p0, rfl, hc0⟩ := hr.1.len
  obtain ⟨a1, p1, rfl, hc1⟩ := hr.2.len
  obtain ⟨n, hn⟩ : ∃ n, n = ts.length := ⟨_, rfl⟩
  obtain ⟨m, hm⟩ : ∃ m, m = ls.length := ⟨_, rfl⟩
  have HN := Lib.hid hn
  have HM := Lib.hid hm
  have HR := Lib.hid hr
  rw [← hn] at hm0 hc0 ⊢
  rw [← hm] at hm1 hc1 ⊢
  clear hn hm hr
  go_enter Tryd.func16, Tryd.ntmps16
  go_wp2
  go_loopw [10] (fun i wr => ∃ k : Nat, k ≤ n ∧ i = .int .i64 k ∧ Below w.heap.size w wr ∧ w.heap.size < wr.heap.size ∧ wr.cell? ⟨w.heap.size, 0, none⟩ = some (.slice a0 n p0) ∧ wr.cell? ⟨w.heap.size, 1, none⟩ = some (.slice a1 m p1) ∧ Hid (∀ j, j < k → towB (rAt ts j) = true)) (fun i wr => n - (intOf i).toNat)
  case atStart => exact ⟨0, Nat.zero_le _, rfl, (Below.refl _ _).alloc (Nat.le_refl _) _, by simp, by simp [go_sem], by simp [go_sem], Lib.hid fun j hj => by omega⟩
  case round =>
    obtain ⟨k, hk, rfl, hbl, hbs, hb0, hb1, hall⟩ := hrel
    by_cases hlt : k < n
    · obtain ⟨g, off, rfl, hg, q0, q1, q2⟩ := (HR.out.below hbl (Nat.le_refl _)).1.at3 rfl k (by rw [← HN.out]; exact hlt)
      have hb2 := hbl.alloc hbl.size (.cells #[.int .i64 (rAt ts k).x0, .int .i64 (rAt ts k).x1, .int .i64 (rAt ts k).x2] 69)
      have HT : Hid (towB (rAt ts k) = (inB (rAt ts k).x0 0 999 && inB (rAt ts k).x1 0 999 && inB (rAt ts k).x2 0 500)) := Lib.hid rfl
      have hf : Hid (towB (rAt ts k) = false → netB ts ls = false) := Lib.hid fun h => netB_noT (by rw [← HN.out]; exact hlt) h
      have hall' : Hid (towB (rAt ts k) = true → ∀ j, j < k + 1 → towB (rAt ts j) = true) := Lib.hid fun h j hj => by
        by_cases e : j = k
        · rw [e]; exact h
        · exact hall.out j (by omega)
      cases h0 : inB (rAt ts k).x0 0 999 with
      | false =>
        have H0 := Lib.hid h0
        clear h0
        go_wp2_with fail
        refine (l1In_b _ _ _ _ H0.out).mono ?_
        rintro e w' ⟨rfl, rfl⟩
        go_wp2
        go_ret
        exact ⟨ret_bool (hf.out (by rw [HT.out, H0.out]; rfl)).symm, hb2⟩
      | true =>
        have H0 := Lib.hid h0
        clear h0
        cases h1 : inB (rAt ts k).x1 0 999 with
        | false =>
          have H1 := Lib.hid h1
          clear h1
          go_wp2_with fail
          refine (l1In_b _ _ _ _ H0.out).mono ?_
          rintro e w' ⟨rfl, rfl⟩
          go_wp2_with fail
          refine (l1In_b _ _ _ _ H1.out).mono ?_
          rintro e w' ⟨rfl, rfl⟩
          go_wp2
          go_ret
          exact ⟨ret_bool (hf.out (by rw [HT.out, H0.out, H1.out]; rfl)).symm, hb2⟩
        | true =>
          have H1 := Lib.hid h1
          clear h1
          cases h2 : inB (rAt ts k).x2 0 500 with
          | false =>
            have H2 := Lib.hid h2
            clear h2
            go_wp2_with fail
            refine (l1In_b _ _ _ _ H0.out).mono ?_
            rintro e w' ⟨rfl, rfl⟩
            go_wp2_with fail
            refine (l1In_b _ _ _ _ H1.out).mono ?_
            rintro e w' ⟨rfl, rfl⟩
            go_wp2_with fail
            refine (l1In_b _ _ _ _ H2.out).mono ?_
            rintro e w' ⟨rfl, rfl⟩
            go_wp2
            go_ret
            exact ⟨ret_bool (hf.out (by rw [HT.out, H0.out, H1.out, H2.out]; rfl)).symm, hb2⟩
          | true =>
            have H2 := Lib.hid h2
            clear h2
            go_wp2_with fail
            refine (l1In_b _ _ _ _ H0.out).mono ?_
            rintro e w' ⟨rfl, rfl⟩
            go_wp2_with fail
            refine (l1In_b _ _ _ _ H1.out).mono ?_
            rintro e w' ⟨rfl, rfl⟩
            go_wp2_with fail
            refine (l1In_b _ _ _ _ H2.out).mono ?_
            rintro e w' ⟨rfl, rfl⟩
            go_wp2
            go_roundw
            case rel => exact ⟨k + 1, by omega, by go_num, hb2, by simp; omega, by simp [go_sem, *], by simp [go_sem, *], Lib.hid (hall'.out (by rw [HT.out, H0.out, H1.out, H2.out]; rfl))⟩
            case measure => simp [intOf]; omega
    · obtain rfl : k = n := by omega
      have hallT : Hid (∀ j, j < ts.length → towB (rAt ts j) = true) := Lib.hid fun j hj => hall.out j (by rw [HN.out]; exact hj)
      clear hall
      go_wp2
      go_loopw [34] (fun i ws => ∃ l : Nat, l ≤ m ∧ i = .int .i64 l ∧ Below w.heap.size w ws ∧ w.heap.size < ws.heap.size ∧ ws.cell? ⟨w.heap.size, 0, none⟩ = some (.slice a0 k p0) ∧ ws.cell? ⟨w.heap.size, 1, none⟩ = some (.slice a1 m p1) ∧ Hid (∀ j, j < l → lnkB ts.length (rAt ls j) = true ∧ stepB ls j = true)) (fun i ws => m - (intOf i).toNat)
      case atStart => exact ⟨0, Nat.zero_le _, rfl, hbl, hbs, hb0, hb1, Lib.hid fun j hj => by omega⟩
      case round =>
        clear hbl hbs hb0 hb1
        obtain ⟨l, hl, rfl, hbl, hbs, hb0, hb1, hall⟩ := hrel
        by_cases hlt : l < m
        · obtain ⟨g, off, rfl, hg, q0, q1, q2⟩ := (HR.out.below hbl (Nat.le_refl _)).2.at3 rfl l (by rw [← HM.out]; exact hlt)
          have hb2 := hbl.alloc hbl.size (.cells #[.int .i64 (rAt ls l).x0, .int .i64 (rAt ls l).x1, .int .i64 (rAt ls l).x2] 71)
          have HL : Hid (lnkB ts.length (rAt ls l) = false → netB ts ls = false) := Lib.hid fun h => netB_noL (by rw [← HM.out]; exact hlt) h
          have hall' : Hid (lnkB ts.length (rAt ls l) = true → stepB ls l = true → ∀ j, j < l + 1 → lnkB ts.length (rAt ls j) = true ∧ stepB ls j = true) := Lib.hid fun h h' j hj => by
            by_cases e : j = l
            · rw [e]; exact ⟨h, h'⟩
            · exact hall.out j (by omega)
          go_wp2
          have n0 : (wr.alloc (.cells #[.int .i64 (rAt ls l).x0, .int .i64 (rAt ls l).x1, .int .i64 (rAt ls l).x2] 71)).cell? ⟨w.heap.size, 0, none⟩ = some (.slice a0 k p0) := by simp [go_sem, *]
          have n1 : (wr.alloc (.cells #[.int .i64 (rAt ls l).x0, .int .i64 (rAt ls l).x1, .int .i64 (rAt ls l).x2] 71)).cell? ⟨w.heap.size, 1, none⟩ = some (.slice (some ⟨g, off, none⟩) m p1) := by simp [go_sem, *]
          have x0 : (wr.alloc (.cells #[.int .i64 (rAt ls l).x0, .int .i64 (rAt ls l).x1, .int .i64 (rAt ls l).x2] 71)).cell? ⟨wr.heap.size, 0, none⟩ = some (.int .i64 (rAt ls l).x0) := by simp [go_sem]
          have x1 : (wr.alloc (.cells #[.int .i64 (rAt ls l).x0, .int .i64 (rAt ls l).x1, .int .i64 (rAt ls l).x2] 71)).cell? ⟨wr.heap.size, 1, none⟩ = some (.int .i64 (rAt ls l).x1) := by simp [go_sem]
          have x2 : (wr.alloc (.cells #[.int .i64 (rAt ls l).x0, .int .i64 (rAt ls l).x1, .int .i64 (rAt ls l).x2] 71)).cell? ⟨wr.heap.size, 2, none⟩ = some (.int .i64 (rAt ls l).x2) := by simp [go_sem]
          have hsz : (wr.alloc (.cells #[.int .i64 (rAt ls l).x0, .int .i64 (rAt ls l).x1, .int .i64 (rAt ls l).x2] 71)).heap.size = wr.heap.size + 1 := by simp
          generalize wr.alloc (.cells #[.int .i64 (rAt ls l).x0, .int .i64 (rAt ls l).x1, .int .i64 (rAt ls l).x2] 71) = W at *
          generalize wr.heap.size = Bx at *
          have K0 := cell_regrown n0
          have K1 := cell_regrown n1
          have K2 := cell_regrown x0
          have K3 := cell_regrown x1
          have K4 := cell_regrown x2
          obtain ⟨z, hz⟩ : ∃ z, IntKind.i64.wrap ((rAt ls l).x1 - 1) = z := ⟨_, rfl⟩
          have HT := Lib.hid (lnk_tests (m := k) (x0 := (rAt ls l).x0) (x2 := (rAt ls l).x2) hm0 hz)
          clear x0 x1 x2
          have hwk : IntKind.i64.wrap ((k : Int) - 1) = (k : Int) - 1 := IntWalk.i64_in _ (by omega)
          cases h0 : inB (rAt ls l).x0 0 z with
          | false =>
            have C0 := l1In_g (rAt ls l).x0 0 z W h0
            have H0 := Lib.hid h0
            clear h0
            refine wp_region_quiet_below (by kernel_rfl) (by kernel_rfl) ?_
            repeat (go_big_quiet_step (first | (with_reducible exact C0 _ _)))
            refine wpQuiet_nil ?_
            intro _ hw'
            obtain ⟨⟨dq, osq⟩, hw''⟩ := hw'
            subst hw''
            have hb3 := hb2.trans ((below_regrown W dq osq).mono hb2.size)
            go_wp2
            go_ret
            exact ⟨ret_bool (HL.out (by rw [← HN.out, show (rAt ls l) = ⟨(rAt ls l).x0, (rAt ls l).x1, (rAt ls l).x2⟩ from rfl, HT.out, H0.out]; simp)).symm, hb3⟩
          | true =>
            have C0 := l1In_g (rAt ls l).x0 0 z W h0
            have H0 := Lib.hid h0
            clear h0
            cases h1 : inB (rAt ls l).x1 0 ((k : Int) - 1) with
            | false =>
              have C1 := l1In_g (rAt ls l).x1 0 ((k : Int) - 1) W h1
              have H1 := Lib.hid h1
              clear h1
              refine wp_region_quiet_below (by kernel_rfl) (by kernel_rfl) ?_
              repeat (go_big_quiet_step (first | (with_reducible exact C0 _ _) | (with_reducible exact C1 _ _)))
              refine wpQuiet_nil ?_
              intro _ hw'
              obtain ⟨⟨dq, osq⟩, hw''⟩ := hw'
              subst hw''
              have hb3 := hb2.trans ((below_regrown W dq osq).mono hb2.size)
              go_wp2
              go_ret
              exact ⟨ret_bool (HL.out (by rw [← HN.out, show (rAt ls l) = ⟨(rAt ls l).x0, (rAt ls l).x1, (rAt ls l).x2⟩ from rfl, HT.out, H0.out, H1.out]; simp)).symm, hb3⟩
            | true =>
              have C1 := l1In_g (rAt ls l).x1 0 ((k : Int) - 1) W h1
              have H1 := Lib.hid h1
              clear h1
              cases h2 : inB (rAt ls l).x2 1 60 with
              | false =>
                have C2 := l1In_g (rAt ls l).x2 1 60 W h2
                have H2 := Lib.hid h2
                clear h2
                refine wp_region_quiet_below (by kernel_rfl) (by kernel_rfl) ?_
                repeat (go_big_quiet_step (first | (with_reducible exact C0 _ _) | (with_reducible exact C1 _ _) | (with_reducible exact C2 _ _)))
                refine wpQuiet_nil ?_
                intro _ hw'
                obtain ⟨⟨dq, osq⟩, hw''⟩ := hw'
                subst hw''
                have hb3 := hb2.trans ((below_regrown W dq osq).mono hb2.size)
                go_wp2
                go_ret
                exact ⟨ret_bool (HL.out (by rw [← HN.out, show (rAt ls l) = ⟨(rAt ls l).x0, (rAt ls l).x1, (rAt ls l).x2⟩ from rfl, HT.out, H0.out, H1.out, H2.out]; simp)).symm, hb3⟩
              | true =>
                have C2 := l1In_g (rAt ls l).x2 1 60 W h2
                have H2 := Lib.hid h2
                clear h2
                have HK : Hid (lnkB ts.length (rAt ls l) = true) := Lib.hid (by rw [← HN.out, show (rAt ls l) = ⟨(rAt ls l).x0, (rAt ls l).x1, (rAt ls l).x2⟩ from rfl, HT.out, H0.out, H1.out, H2.out]; rfl)
                rcases Nat.eq_zero_or_pos l with rfl | hpos
                · have hall2 := Lib.hid (hall'.out HK.out (by simp [stepB]))
                  refine wp_region_quiet_below (by kernel_rfl) (by kernel_rfl) ?_
                  repeat (go_big_quiet_step (first | (with_reducible exact C0 _ _) | (with_reducible exact C1 _ _) | (with_reducible exact C2 _ _)))
                  refine wpQuiet_nil ?_
                  intro _ hw'
                  obtain ⟨⟨dq, osq⟩, hw''⟩ := hw'
                  subst hw''
                  have hb3 := hb2.trans ((below_regrown W dq osq).mono hb2.size)
                  have z0 := K0 dq osq
                  have z1 := K1 dq osq
                  have zs : w.heap.size < (grow (redrawn W dq) osq).heap.size := by have := (below_regrown W dq osq).size; omega
                  clear C0 C1 C2 K0 K1 K2 K3 K4
                  go_wp2
                  go_roundw
                  case rel => exact ⟨0 + 1, by omega, by go_num, hb3, zs, z0, z1, hall2⟩
                  case measure => simp [intOf]; omega
                · obtain ⟨j, rfl⟩ : ∃ j, l = j + 1 := ⟨l - 1, by omega⟩
                  obtain ⟨g', off', hge, -, y0, y1, y2⟩ := (HR.out.below hb2 (Nat.le_refl _)).2.at3 rfl j (by rw [← HM.out]; omega)
                  simp only [Option.some.injEq, Addr.mk.injEq, and_true] at hge
                  obtain ⟨rfl, rfl⟩ := hge
                  have K5 := cell_regrown y0
                  have K6 := cell_regrown y1
                  have K7 := cell_regrown y2
                  have hwj : IntKind.i64.wrap (((j + 1 : Nat) : Int) - 1) = (j : Int) := by rw [IntWalk.i64_in _ (by omega)]; omega
                  clear y0 y1 y2
                  cases h3 : befB ⟨(rAt ls j).x0, (rAt ls j).x1, (rAt ls j).x2⟩ ⟨(rAt ls (j + 1)).x0, (rAt ls (j + 1)).x1, (rAt ls (j + 1)).x2⟩ with
                  | false =>
                    have C3 := neBefore_g _ _ _ _ _ _ W h3
                    have H3 := Lib.hid (netB_noS (ts := ts) (by rw [← HM.out]; exact hlt) h3)
                    clear h3
                    refine wp_region_quiet_below (by kernel_rfl) (by kernel_rfl) ?_
                    repeat (go_big_quiet_step (first | (with_reducible exact C0 _ _) | (with_reducible exact C1 _ _) | (with_reducible exact C2 _ _) | (with_reducible exact C3 _ _)))
                    refine wpQuiet_nil ?_
                    intro _ hw'
                    obtain ⟨⟨dq, osq⟩, hw''⟩ := hw'
                    subst hw''
                    have hb3 := hb2.trans ((below_regrown W dq osq).mono hb2.size)
                    go_wp2
                    go_ret
                    exact ⟨ret_bool (H3.out).symm, hb3⟩
                  | true =>
                    have C3 := neBefore_g _ _ _ _ _ _ W h3
                    have hall2 := Lib.hid (hall'.out HK.out (by unfold stepB; simp; exact h3))
                    clear h3
                    refine wp_region_quiet_below (by kernel_rfl) (by kernel_rfl) ?_
                    repeat (go_big_quiet_step (first | (with_reducible exact C0 _ _) | (with_reducible exact C1 _ _) | (with_reducible exact C2 _ _) | (with_reducible exact C3 _ _)))
                    refine wpQuiet_nil ?_
                    intro _ hw'
                    obtain ⟨⟨dq, osq⟩, hw''⟩ := hw'
                    subst hw''
                    have hb3 := hb2.trans ((below_regrown W dq osq).mono hb2.size)
                    have z0 := K0 dq osq
                    have z1 := K1 dq osq
                    have zs : w.heap.size < (grow (redrawn W dq) osq).heap.size := by have := (below_regrown W dq osq).size; omega
                    clear C0 C1 C2 C3 K0 K1 K2 K3 K4 K5 K6 K7
                    go_wp2
                    go_roundw
                    case rel => exact ⟨(j + 1) + 1, by omega, by go_num, hb3, zs, z0, z1, hall2⟩
                    case measure => simp [intOf]; omega
        · obtain rfl : l = m := by omega
          have hyes : Hid (1 ≤ k → k ≤ 16 → l ≤ 40 → netB ts ls = true) := Lib.hid fun h1 h2 h3 => netB_yes hallT.out (fun j hj => hall.out j (by rw [HM.out]; exact hj)) (by rw [← HN.out]; exact h1) (by rw [← HN.out]; exact h2) (by rw [← HM.out]; exact h3)
          have hno : Hid (¬ (1 ≤ k ∧ k ≤ 16 ∧ l ≤ 40) → netB ts ls = false) := Lib.hid fun h => netB_noZ (by rw [← HN.out, ← HM.out]; exact h)
          by_cases h1 : 1 ≤ k ∧ k ≤ 16
          · obtain ⟨h1, h2⟩ := h1
            have H1 := Lib.hid (inB_yes (n := (k : Int)) (lo := 1) (hi := 16) (by omega) (by omega))
            by_cases h3 : l ≤ 40
            · go_wp2_with fail
              refine (l1In_b _ _ _ _ H1.out).mono ?_
              rintro e w' ⟨rfl, rfl⟩
              go_wp2
              go_ret
              exact ⟨ret_bool (by rw [hyes.out h1 h2 h3]; simp; omega), hbl⟩
            · go_wp2_with fail
              refine (l1In_b _ _ _ _ H1.out).mono ?_
              rintro e w' ⟨rfl, rfl⟩
              go_wp2
              go_ret
              exact ⟨ret_bool (by rw [hno.out (by omega)]; simp; omega), hbl⟩
          · have H1 := Lib.hid (inB_no (n := (k : Int)) (lo := 1) (hi := 16) (by omega))
            go_wp2_with fail
            refine (l1In_b _ _ _ _ H1.out).mono ?_
            rintro e w' ⟨rfl, rfl⟩
            go_wp2
            go_ret
            exact ⟨ret_bool (hno.out (by omega)).symm, hbl⟩
end Go.Proofs.YtfmmkiijohnbfaaDoor
