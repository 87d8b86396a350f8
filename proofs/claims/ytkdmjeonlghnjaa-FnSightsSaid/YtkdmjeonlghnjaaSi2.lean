/- Chapter 7: is it a sight? The program's check and the model's. -/
import Derived.Test.YtkdmjeonlghnjaaSi1
import Derived.Lib.QuietBelow
namespace Go.Proofs.Ytkdmjeonlghnjaa
open Go.RowKit Go.Sort
set_option linter.unusedSimpArgs false
set_option linter.unusedVariables false

theorem l1In_b {b : Bool} (n lo hi : Int) (w : World) (hb : inB n lo hi = b) : Calls Try.prog 72 #[.int .i64 n, .int .i64 lo, .int .i64 hi] w fun e w' => e = .returned (.bool b) ∧ w = w' := by
  subst hb; exact l1In_any n lo hi w
theorem Calls.regrown_same {P : Program} {f : FuncId} {args : Array Value} {w : World} {d : Nat} {os : Array Obj} {v : Value}
    (h : Calls P f args (grow (redrawn w d) os) fun e w' => e = .returned v ∧ grow (redrawn w d) os = w') : Calls P f args (grow (redrawn w d) os) fun e w'' => e = .returned v ∧ ∃ p : Regrown, w'' = grow (redrawn w p.d) p.os :=
  h.mono fun _ _ ⟨he, hw⟩ => ⟨he, ⟨d, os⟩, hw.symm⟩
theorem l1In_g {b : Bool} (n lo hi : Int) (w : World) (hb : inB n lo hi = b) : ∀ d os, Calls Try.prog 72 #[.int .i64 n, .int .i64 lo, .int .i64 hi] (grow (redrawn w d) os) fun e w'' => e = .returned (.bool b) ∧ ∃ p : Regrown, w'' = grow (redrawn w p.d) p.os :=
  fun d os => Calls.regrown_same (l1In_b n lo hi _ hb)
theorem isDistance_b {b : Bool} (n : Int) (w : World) (hb : inB n 1 999 = b) : Calls Try.prog 68 #[.int .i64 n] w fun e w' => e = .returned (.bool b) ∧ w = w' := by
  subst hb
  by_cases h1 : 1 ≤ n
  · by_cases h2 : n ≤ 999
    · have hf := Lib.hid (inB_yes h1 h2)
      go_enter Try.func68, Try.ntmps68
      go_wp2
      go_ret
      exact ⟨ret_bool (by rw [hf.out] <;> simp <;> omega), rfl⟩
    · have hf := Lib.hid (inB_no (n := n) (lo := 1) (hi := 999) (by omega))
      go_enter Try.func68, Try.ntmps68
      go_wp2
      go_ret
      exact ⟨ret_bool (by rw [hf.out] <;> simp <;> omega), rfl⟩
  · have hf := Lib.hid (inB_no (n := n) (lo := 1) (hi := 999) (by omega))
    go_enter Try.func68, Try.ntmps68
    go_wp2
    go_ret
    exact ⟨ret_bool (by rw [hf.out]), rfl⟩
theorem isSightHeight_b {b : Bool} (n : Int) (w : World) (hb : inB n 0 3000 = b) : Calls Try.prog 75 #[.int .i64 n] w fun e w' => e = .returned (.bool b) ∧ w = w' := by
  subst hb
  by_cases h1 : 0 ≤ n
  · by_cases h2 : n ≤ 3000
    · have hf := Lib.hid (inB_yes h1 h2)
      go_enter Try.func75, Try.ntmps75
      go_wp2
      go_ret
      exact ⟨ret_bool (by rw [hf.out] <;> simp <;> omega), rfl⟩
    · have hf := Lib.hid (inB_no (n := n) (lo := 0) (hi := 3000) (by omega))
      go_enter Try.func75, Try.ntmps75
      go_wp2
      go_ret
      exact ⟨ret_bool (by rw [hf.out] <;> simp <;> omega), rfl⟩
  · have hf := Lib.hid (inB_no (n := n) (lo := 0) (hi := 3000) (by omega))
    go_enter Try.func75, Try.ntmps75
    go_wp2
    go_ret
    exact ⟨ret_bool (by rw [hf.out]), rfl⟩
theorem isRefraction_b {b : Bool} (n : Int) (w : World) (hb : inB n 0 3 = b) : Calls Try.prog 53 #[.int .i64 n] w fun e w' => e = .returned (.bool b) ∧ w = w' := by
  subst hb
  by_cases h1 : 0 ≤ n
  · by_cases h2 : n ≤ 3
    · have hf := Lib.hid (inB_yes h1 h2)
      go_enter Try.func53, Try.ntmps53
      go_wp2
      go_ret
      exact ⟨ret_bool (by rw [hf.out] <;> simp <;> omega), rfl⟩
    · have hf := Lib.hid (inB_no (n := n) (lo := 0) (hi := 3) (by omega))
      go_enter Try.func53, Try.ntmps53
      go_wp2
      go_ret
      exact ⟨ret_bool (by rw [hf.out] <;> simp <;> omega), rfl⟩
  · have hf := Lib.hid (inB_no (n := n) (lo := 0) (hi := 3) (by omega))
    go_enter Try.func53, Try.ntmps53
    go_wp2
    go_ret
    exact ⟨ret_bool (by rw [hf.out]), rfl⟩
theorem siBend_b {b : Bool} (n : Int) (w : World) (hb : inB n 0 3 = b) : Calls Try.prog 73 #[.int .i64 n] w fun e w' => e = .returned (.bool b) ∧ w = w' := by
  go_enter Try.func73, Try.ntmps73
  go_wp2_with fail
  refine (l1In_b _ _ _ _ hb).mono ?_
  rintro e w' ⟨rfl, rfl⟩
  go_wp2
  go_ret
  exact ⟨rfl, rfl⟩

set_option maxRecDepth 100000 in
set_option maxHeartbeats 2000000 in
theorem isSight_any (D A B : Int) (c : Value) (ts : List T2) (w : World) (hr : RdR c2 2 w c ts) :
    Calls Try.prog 32 #[.agg #[.int .i64 D, .int .i64 A, .int .i64 B, c]] w fun e w' => e = .returned (.bool (sightB D A B ts)) ∧ Below w.heap.size w w' := by
  have hm := hr.max
  have hm : (ts.length : Int) ≤ 9223372036854775807 := by unfold maxLen at hm; omega
  obtain ⟨a, p, rfl, hp⟩ := hr.len
  obtain ⟨n, hn⟩ : ∃ n, n = ts.length := ⟨_, rfl⟩
  have HN := Lib.hid hn
  have HR := Lib.hid hr
  rw [← hn] at hm hp ⊢
  clear hn hr
  have hE : Hid (endB D A B n = false → sightB D A B ts = false) := Lib.hid fun h => sight_end (by rw [← HN.out]; exact h)
  have hb0 := (Below.refl w.heap.size w).alloc (Nat.le_refl _) (.cells #[.int .i64 D, .int .i64 A, .int .i64 B, .slice a n p] 25)
  go_enter Try.func32, Try.ntmps32
  cases h0 : inB D 1 999 with
  | false =>
    have H0 := Lib.hid h0
    clear h0
    go_wp2_with fail
    refine (isDistance_b _ _ H0.out).mono ?_
    rintro e w' ⟨rfl, rfl⟩
    go_wp2
    go_ret
    exact ⟨ret_bool (hE.out (by unfold endB; rw [H0.out]; rfl)).symm, hb0⟩
  | true =>
    have H0 := Lib.hid h0
    clear h0
    cases h1 : inB A 0 3000 with
    | false =>
      have H1 := Lib.hid h1
      clear h1
      go_wp2_with fail
      refine (isDistance_b _ _ H0.out).mono ?_
      rintro e w' ⟨rfl, rfl⟩
      go_wp2_with fail
      refine (isSightHeight_b _ _ H1.out).mono ?_
      rintro e w' ⟨rfl, rfl⟩
      go_wp2
      go_ret
      exact ⟨ret_bool (hE.out (by unfold endB; rw [H0.out, H1.out]; rfl)).symm, hb0⟩
    | true =>
      have H1 := Lib.hid h1
      clear h1
      cases h2 : inB B 0 3000 with
      | false =>
        have H2 := Lib.hid h2
        clear h2
        go_wp2_with fail
        refine (isDistance_b _ _ H0.out).mono ?_
        rintro e w' ⟨rfl, rfl⟩
        go_wp2_with fail
        refine (isSightHeight_b _ _ H1.out).mono ?_
        rintro e w' ⟨rfl, rfl⟩
        go_wp2_with fail
        refine (isSightHeight_b _ _ H2.out).mono ?_
        rintro e w' ⟨rfl, rfl⟩
        go_wp2
        go_ret
        exact ⟨ret_bool (hE.out (by unfold endB; rw [H0.out, H1.out, H2.out]; rfl)).symm, hb0⟩
      | true =>
        have H2 := Lib.hid h2
        clear h2
        by_cases hl : n ≤ 20
        · have hw0 : w.heap.size < (w.alloc (.cells #[.int .i64 D, .int .i64 A, .int .i64 B, .slice a n p] 25)).heap.size := by simp
          go_wp2_with fail
          refine (isDistance_b _ _ H0.out).mono ?_
          rintro e w' ⟨rfl, rfl⟩
          go_wp2_with fail
          refine (isSightHeight_b _ _ H1.out).mono ?_
          rintro e w' ⟨rfl, rfl⟩
          go_wp2_with fail
          refine (isSightHeight_b _ _ H2.out).mono ?_
          rintro e w' ⟨rfl, rfl⟩
          go_wp2
          go_loopw [3, 31] (fun bv i wr => ∃ k : Nat, ∃ bf : Int, k ≤ n ∧ i = .int .i64 k ∧ bv = .int .i64 bf ∧ Below w.heap.size w wr ∧ w.heap.size < wr.heap.size ∧ wr.cell? ⟨w.heap.size, 0, none⟩ = some (.int .i64 D) ∧ Hid (bf = (if k = 0 then 0 else (rAt ts (k - 1)).x0)) ∧ Hid (∀ j, j < k → 1 ≤ (rAt ts j).x0 ∧ (rAt ts j).x0 < D ∧ 0 ≤ (rAt ts j).x1 ∧ (rAt ts j).x1 ≤ 3000) ∧ Hid (∀ j, j + 1 < k → (rAt ts j).x0 < (rAt ts (j + 1)).x0)) (fun bv i wr => n - (intOf i).toNat)
          case atStart => exact ⟨0, 0, Nat.zero_le _, rfl, rfl, hb0, by simp, by simp [go_sem], Lib.hid rfl, Lib.hid fun j hj => by omega, Lib.hid fun j hj => by omega⟩
          case round =>
            obtain ⟨k, bf, hk, rfl, rfl, hbl, hbs, hc0, hbf, hg, hs⟩ := hrel
            by_cases hlt : k < n
            · obtain ⟨g, off, rfl, hgs, q0, q1⟩ := (HR.out.below hbl (Nat.le_refl _)).at2 rfl k (by rw [← HN.out]; exact hlt)
              have hb2 := hbl.alloc hbl.size (.cells #[.int .i64 (rAt ts k).x0, .int .i64 (rAt ts k).x1] 72)
              have hN1 : Hid (¬ bf < (rAt ts k).x0 → sightB D A B ts = false) := Lib.hid fun h => by
                have hb := hbf.out
                cases k with
                | zero => exact sight_grd (i := 0) (by rw [← HN.out]; exact hlt) (by simp at hb; omega)
                | succ k => exact sight_stp (i := k) (by rw [← HN.out]; exact hlt) (by simp at hb; omega)
              have hN2 : Hid (¬ (1 ≤ (rAt ts k).x0 ∧ (rAt ts k).x0 < D ∧ 0 ≤ (rAt ts k).x1 ∧ (rAt ts k).x1 ≤ 3000) → sightB D A B ts = false) := Lib.hid fun h => sight_grd (by rw [← HN.out]; exact hlt) h
              by_cases h1 : bf < (rAt ts k).x0
              · by_cases h2 : (rAt ts k).x0 < D
                · have HC1 := Lib.hid h1
                  have HC2 := Lib.hid h2
                  cases h3 : inB (rAt ts k).x1 0 3000 with
                  | false =>
                    have H3 := Lib.hid h3
                    clear h3
                    go_wp2_with fail
                    refine (isSightHeight_b _ _ H3.out).mono ?_
                    rintro e w' ⟨rfl, rfl⟩
                    go_wp2
                    go_ret
                    exact ⟨ret_bool (hN2.out (fun h => by have := inB_yes h.2.2.1 h.2.2.2; rw [H3.out] at this; cases this)).symm, hb2⟩
                  | true =>
                    have H3 := Lib.hid h3
                    clear h3
                    go_wp2_with fail
                    refine (isSightHeight_b _ _ H3.out).mono ?_
                    rintro e w' ⟨rfl, rfl⟩
                    go_wp2
                    go_roundw
                    case rel =>
                      have hx : 0 ≤ bf := by
                        rw [hbf.out]
                        split
                        · omega
                        · exact Int.le_trans (by decide) (hg.out (k - 1) (by omega)).1
                      refine ⟨k + 1, _, by omega, by go_num, rfl, hb2, by simp; omega, by simp [go_sem, *], Lib.hid (by simp), Lib.hid fun j hj => ?_, Lib.hid fun j hj => ?_⟩
                      · by_cases ej : j = k
                        · subst ej
                          have := inB_iff.1 H3.out
                          exact ⟨by have := HC1.out; omega, HC2.out, this.1, this.2⟩
                        · exact hg.out j (by omega)
                      · by_cases ej : j + 1 = k
                        · subst ej
                          have := hbf.out
                          have h9 := HC1.out
                          simp at this
                          rw [this] at h9
                          exact h9
                        · exact hs.out j (by omega)
                    case measure => simp [intOf]; omega
                · go_wp2
                  go_ret
                  exact ⟨ret_bool (hN2.out (by omega)).symm, hb2⟩
              · go_wp2
                go_ret
                exact ⟨ret_bool (hN1.out h1).symm, hb2⟩
            · obtain rfl : k = n := by omega
              go_wp2
              go_ret
              exact ⟨ret_bool (sightB_iff.2 ⟨(inB_iff.1 H0.out).1, (inB_iff.1 H0.out).2, (inB_iff.1 H1.out).1, (inB_iff.1 H1.out).2, (inB_iff.1 H2.out).1, (inB_iff.1 H2.out).2, by rw [← HN.out]; exact hl, fun i hi => hg.out i (by rw [HN.out]; exact hi), fun i hi => hs.out i (by rw [HN.out]; exact hi)⟩).symm, hbl⟩
        · have hF : Hid (sightB D A B ts = false) := Lib.hid (hE.out (by unfold endB; rw [H0.out, H1.out, H2.out, decide_eq_false hl]; rfl))
          go_wp2_with fail
          refine (isDistance_b _ _ H0.out).mono ?_
          rintro e w' ⟨rfl, rfl⟩
          go_wp2_with fail
          refine (isSightHeight_b _ _ H1.out).mono ?_
          rintro e w' ⟨rfl, rfl⟩
          go_wp2_with fail
          refine (isSightHeight_b _ _ H2.out).mono ?_
          rintro e w' ⟨rfl, rfl⟩
          go_wp2
          go_ret
          exact ⟨ret_bool hF.out.symm, hb0⟩

set_option maxRecDepth 100000 in
set_option maxHeartbeats 2000000 in
theorem siGood_any (D A B : Int) (c : Value) (ts : List T2) (w : World) (hr : RdR c2 2 w c ts) :
    Calls Try.prog 64 #[.agg #[.int .i64 D, .int .i64 A, .int .i64 B, c]] w fun e w' => e = .returned (.bool (sightB D A B ts)) ∧ Below w.heap.size w w' := by
  have hm := hr.max
  have hm : (ts.length : Int) ≤ 9223372036854775807 := by unfold maxLen at hm; omega
  obtain ⟨a, p, rfl, hp⟩ := hr.len
  obtain ⟨n, hn⟩ : ∃ n, n = ts.length := ⟨_, rfl⟩
  have HN := Lib.hid hn
  have HR := Lib.hid hr
  rw [← hn] at hm hp ⊢
  clear hn hr
  obtain ⟨z, hz⟩ : ∃ z, IntKind.i64.wrap (D - 1) = z := ⟨_, rfl⟩
  have hno : Hid (∀ i, i < n → grdB z (rAt ts i) = false ∨ stpB ts i = false → sightB D A B ts = false) := Lib.hid fun i hi h => sight_no hz (by rw [← HN.out]; exact hi) h
  have hyes : Hid ((∀ i, i < n → grdB z (rAt ts i) = true ∧ stpB ts i = true) → sightB D A B ts = endB D A B n) := Lib.hid fun h => by rw [HN.out]; exact sight_yes hz (fun i hi => h i (by rw [HN.out]; exact hi))
  go_enter Try.func64, Try.ntmps64
  go_wp2
  go_loopw [8] (fun i wr => ∃ k : Nat, k ≤ n ∧ i = .int .i64 k ∧ Below w.heap.size w wr ∧ w.heap.size < wr.heap.size ∧ wr.cell? ⟨w.heap.size, 0, none⟩ = some (.int .i64 D) ∧ wr.cell? ⟨w.heap.size, 1, none⟩ = some (.int .i64 A) ∧ wr.cell? ⟨w.heap.size, 2, none⟩ = some (.int .i64 B) ∧ wr.cell? ⟨w.heap.size, 3, none⟩ = some (.slice a n p) ∧ Hid (∀ j, j < k → grdB z (rAt ts j) = true ∧ stpB ts j = true)) (fun i wr => n - (intOf i).toNat)
  case atStart => exact ⟨0, Nat.zero_le _, rfl, (Below.refl _ _).alloc (Nat.le_refl _) _, by simp, by simp [go_sem], by simp [go_sem], by simp [go_sem], by simp [go_sem], Lib.hid fun j hj => by omega⟩
  case round =>
    obtain ⟨k, hk, rfl, hbl, hbs, b0, b1, b2, b3, hall⟩ := hrel
    by_cases hlt : k < n
    · obtain ⟨g, off, rfl, hg, q0, q1⟩ := (HR.out.below hbl (Nat.le_refl _)).at2 rfl k (by rw [← HN.out]; exact hlt)
      have hb2 := hbl.alloc hbl.size (.cells #[.int .i64 (rAt ts k).x0, .int .i64 (rAt ts k).x1] 72)
      have hno1 := Lib.hid (hno.out k hlt)
      have hall' : Hid (grdB z (rAt ts k) = true → stpB ts k = true → ∀ j, j < k + 1 → grdB z (rAt ts j) = true ∧ stpB ts j = true) := Lib.hid fun h h' j hj => by
        by_cases e : j = k
        · rw [e]; exact ⟨h, h'⟩
        · exact hall.out j (by omega)
      go_wp2
      have n0 : (wr.alloc (.cells #[.int .i64 (rAt ts k).x0, .int .i64 (rAt ts k).x1] 72)).cell? ⟨w.heap.size, 0, none⟩ = some (.int .i64 D) := by simp [go_sem, *]
      have n1 : (wr.alloc (.cells #[.int .i64 (rAt ts k).x0, .int .i64 (rAt ts k).x1] 72)).cell? ⟨w.heap.size, 1, none⟩ = some (.int .i64 A) := by simp [go_sem, *]
      have n2 : (wr.alloc (.cells #[.int .i64 (rAt ts k).x0, .int .i64 (rAt ts k).x1] 72)).cell? ⟨w.heap.size, 2, none⟩ = some (.int .i64 B) := by simp [go_sem, *]
      have n3 : (wr.alloc (.cells #[.int .i64 (rAt ts k).x0, .int .i64 (rAt ts k).x1] 72)).cell? ⟨w.heap.size, 3, none⟩ = some (.slice (some ⟨g, off, none⟩) n p) := by simp [go_sem, *]
      have x0 : (wr.alloc (.cells #[.int .i64 (rAt ts k).x0, .int .i64 (rAt ts k).x1] 72)).cell? ⟨wr.heap.size, 0, none⟩ = some (.int .i64 (rAt ts k).x0) := by simp [go_sem]
      have x1 : (wr.alloc (.cells #[.int .i64 (rAt ts k).x0, .int .i64 (rAt ts k).x1] 72)).cell? ⟨wr.heap.size, 1, none⟩ = some (.int .i64 (rAt ts k).x1) := by simp [go_sem]
      have hsz : (wr.alloc (.cells #[.int .i64 (rAt ts k).x0, .int .i64 (rAt ts k).x1] 72)).heap.size = wr.heap.size + 1 := by simp
      generalize wr.alloc (.cells #[.int .i64 (rAt ts k).x0, .int .i64 (rAt ts k).x1] 72) = W at *
      generalize wr.heap.size = Bx at *
      have K0 := cell_regrown n0
      have K1 := cell_regrown n1
      have K2 := cell_regrown n2
      have K3 := cell_regrown n3
      have K4 := cell_regrown x0
      have K5 := cell_regrown x1
      clear x0 x1
      cases h0 : inB (rAt ts k).x0 1 z with
      | false =>
        have C0 := l1In_g (rAt ts k).x0 1 z W h0
        have H0 := Lib.hid h0
        clear h0
        refine wp_region_quiet_below (by kernel_rfl) (by kernel_rfl) ?_
        repeat (go_big_quiet_step (first | (with_reducible exact C0 _ _)))
        refine wpQuiet_nil ?_
        intro _ hw'
        obtain ⟨⟨dq, osq⟩, hw''⟩ := hw'
        subst hw''
        have hb3 := hb2.trans ((below_regrown W dq osq).mono hb2.size)
        go_wp2
        go_ret
        exact ⟨ret_bool (hno1.out (.inl (by unfold grdB; rw [H0.out]; simp))).symm, hb3⟩
      | true =>
        have C0 := l1In_g (rAt ts k).x0 1 z W h0
        have H0 := Lib.hid h0
        clear h0
        cases h1 : inB (rAt ts k).x1 0 3000 with
        | false =>
          have C1 := l1In_g (rAt ts k).x1 0 3000 W h1
          have H1 := Lib.hid h1
          clear h1
          refine wp_region_quiet_below (by kernel_rfl) (by kernel_rfl) ?_
          repeat (go_big_quiet_step (first | (with_reducible exact C0 _ _) | (with_reducible exact C1 _ _)))
          refine wpQuiet_nil ?_
          intro _ hw'
          obtain ⟨⟨dq, osq⟩, hw''⟩ := hw'
          subst hw''
          have hb3 := hb2.trans ((below_regrown W dq osq).mono hb2.size)
          go_wp2
          go_ret
          exact ⟨ret_bool (hno1.out (.inl (by unfold grdB; rw [H0.out, H1.out]; simp))).symm, hb3⟩
        | true =>
          have C1 := l1In_g (rAt ts k).x1 0 3000 W h1
          have H1 := Lib.hid h1
          clear h1
          have HK : Hid (grdB z (rAt ts k) = true) := Lib.hid (by unfold grdB; rw [H0.out, H1.out]; rfl)
          rcases Nat.eq_zero_or_pos k with rfl | hpos
          · have hall2 := Lib.hid (hall'.out HK.out (by simp [stpB]))
            refine wp_region_quiet_below (by kernel_rfl) (by kernel_rfl) ?_
            repeat (go_big_quiet_step (first | (with_reducible exact C0 _ _) | (with_reducible exact C1 _ _)))
            refine wpQuiet_nil ?_
            intro _ hw'
            obtain ⟨⟨dq, osq⟩, hw''⟩ := hw'
            subst hw''
            have hb3 := hb2.trans ((below_regrown W dq osq).mono hb2.size)
            have z0 := K0 dq osq
            have z1 := K1 dq osq
            have z2 := K2 dq osq
            have z3 := K3 dq osq
            have zs : w.heap.size < (grow (redrawn W dq) osq).heap.size := by have := (below_regrown W dq osq).size; omega
            clear C0 C1 K0 K1 K2 K3 K4 K5
            go_wp2
            go_roundw
            case rel => exact ⟨0 + 1, by omega, by go_num, hb3, zs, z0, z1, z2, z3, hall2⟩
            case measure => simp [intOf]; omega
          · obtain ⟨j, rfl⟩ : ∃ j, k = j + 1 := ⟨k - 1, by omega⟩
            obtain ⟨g', off', hge, -, y0, y1⟩ := (HR.out.below hb2 (Nat.le_refl _)).at2 rfl j (by rw [← HN.out]; omega)
            simp only [Option.some.injEq, Addr.mk.injEq, and_true] at hge
            obtain ⟨rfl, rfl⟩ := hge
            have K6 := cell_regrown y0
            have hwj : IntKind.i64.wrap (((j + 1 : Nat) : Int) - 1) = (j : Int) := by rw [IntWalk.i64_in _ (by omega)]; omega
            clear y0 y1
            by_cases h3 : (rAt ts j).x0 < (rAt ts (j + 1)).x0
            · have hall2 := Lib.hid (hall'.out HK.out (by unfold stpB; simp; exact h3))
              refine wp_region_quiet_below (by kernel_rfl) (by kernel_rfl) ?_
              repeat (go_big_quiet_step (first | (with_reducible exact C0 _ _) | (with_reducible exact C1 _ _)))
              refine wpQuiet_nil ?_
              intro _ hw'
              obtain ⟨⟨dq, osq⟩, hw''⟩ := hw'
              subst hw''
              have hb3 := hb2.trans ((below_regrown W dq osq).mono hb2.size)
              have z0 := K0 dq osq
              have z1 := K1 dq osq
              have z2 := K2 dq osq
              have z3 := K3 dq osq
              have zs : w.heap.size < (grow (redrawn W dq) osq).heap.size := by have := (below_regrown W dq osq).size; omega
              clear C0 C1 K0 K1 K2 K3 K4 K5 K6
              go_wp2
              go_roundw
              case rel => exact ⟨(j + 1) + 1, by omega, by go_num, hb3, zs, z0, z1, z2, z3, hall2⟩
              case measure => simp [intOf]; omega
            · have H3 : Hid (sightB D A B ts = false) := Lib.hid (hno1.out (.inr (by unfold stpB; simp; omega)))
              refine wp_region_quiet_below (by kernel_rfl) (by kernel_rfl) ?_
              repeat (go_big_quiet_step (first | (with_reducible exact C0 _ _) | (with_reducible exact C1 _ _)))
              refine wpQuiet_nil ?_
              intro _ hw'
              obtain ⟨⟨dq, osq⟩, hw''⟩ := hw'
              subst hw''
              have hb3 := hb2.trans ((below_regrown W dq osq).mono hb2.size)
              go_wp2
              go_ret
              exact ⟨ret_bool (H3.out).symm, hb3⟩
    · obtain rfl : k = n := by omega
      have hY := Lib.hid (hyes.out hall.out)
      cases h0 : inB D 1 999 with
      | false =>
        have H0 := Lib.hid h0
        clear h0
        go_wp2_with fail
        refine (l1In_b _ _ _ _ H0.out).mono ?_
        rintro e w' ⟨rfl, rfl⟩
        go_wp2
        go_ret
        exact ⟨ret_bool (by rw [hY.out]; unfold endB; rw [H0.out]; simp), hbl⟩
      | true =>
        have H0 := Lib.hid h0
        clear h0
        cases h1 : inB A 0 3000 with
        | false =>
          have H1 := Lib.hid h1
          clear h1
          go_wp2_with fail
          refine (l1In_b _ _ _ _ H0.out).mono ?_
          rintro e w' ⟨rfl, rfl⟩
          go_wp2_with fail
          refine (l1In_b _ _ _ _ H1.out).mono ?_
          rintro e w' ⟨rfl, rfl⟩
          go_wp2
          go_ret
          exact ⟨ret_bool (by rw [hY.out]; unfold endB; rw [H0.out, H1.out]; simp), hbl⟩
        | true =>
          have H1 := Lib.hid h1
          clear h1
          cases h2 : inB B 0 3000 with
          | false =>
            have H2 := Lib.hid h2
            clear h2
            go_wp2_with fail
            refine (l1In_b _ _ _ _ H0.out).mono ?_
            rintro e w' ⟨rfl, rfl⟩
            go_wp2_with fail
            refine (l1In_b _ _ _ _ H1.out).mono ?_
            rintro e w' ⟨rfl, rfl⟩
            go_wp2_with fail
            refine (l1In_b _ _ _ _ H2.out).mono ?_
            rintro e w' ⟨rfl, rfl⟩
            go_wp2
            go_ret
            exact ⟨ret_bool (by rw [hY.out]; unfold endB; rw [H0.out, H1.out, H2.out]; simp), hbl⟩
          | true =>
            have H2 := Lib.hid h2
            clear h2
            go_wp2_with fail
            refine (l1In_b _ _ _ _ H0.out).mono ?_
            rintro e w' ⟨rfl, rfl⟩
            go_wp2_with fail
            refine (l1In_b _ _ _ _ H1.out).mono ?_
            rintro e w' ⟨rfl, rfl⟩
            go_wp2_with fail
            refine (l1In_b _ _ _ _ H2.out).mono ?_
            rintro e w' ⟨rfl, rfl⟩
            go_wp2
            go_ret
            exact ⟨ret_bool (by rw [hY.out]; unfold endB; rw [H0.out, H1.out, H2.out]; simp; omega), hbl⟩

theorem specIsSight_any (D A B : Int) (c : Value) (ts : List T2) (w : World) (hr : RdR c2 2 w c ts) :
    Calls Try.prog 43 #[.agg #[.int .i64 D, .int .i64 A, .int .i64 B, c]] w fun e w' => e = .returned (.bool (sightB D A B ts)) ∧ Below w.heap.size w w' := by
  have hB := (Below.refl w.heap.size w).alloc (Nat.le_refl _) (.cells #[.int .i64 D, .int .i64 A, .int .i64 B, c] 25)
  obtain ⟨a, p, rfl, -⟩ := hr.len
  have hr1 := hr.later hB
  clear hr
  go_enter Try.func43, Try.ntmps43
  go_wp2_with fail
  refine (siGood_any _ _ _ _ ts _ hr1).mono ?_
  rintro e w1 ⟨rfl, hb1⟩
  have hB1 := hB.trans (hb1.mono hB.size)
  go_wp2
  go_ret
  exact ⟨rfl, hB1⟩

def askB (D A B n : Int) (ts : List T2) : Bool := sightB D A B ts && inB n 0 3
theorem siAsked_b {b : Bool} (D A B n : Int) (c : Value) (ts : List T2) (w : World) (hr : RdR c2 2 w c ts) (hb : askB D A B n ts = b) :
    Calls Try.prog 55 #[.agg #[.int .i64 D, .int .i64 A, .int .i64 B, c], .int .i64 n] w fun e w' => e = .returned (.bool b) ∧ Below w.heap.size w w' := by
  subst hb
  have hB := (Below.refl w.heap.size w).alloc (Nat.le_refl _) (.cells #[.int .i64 D, .int .i64 A, .int .i64 B, c] 25)
  obtain ⟨a, p, rfl, -⟩ := hr.len
  have hr1 := hr.later hB
  clear hr
  cases h1 : sightB D A B ts with
  | false =>
    have H1 := Lib.hid h1
    clear h1
    go_enter Try.func55, Try.ntmps55
    go_wp2_with fail
    refine (siGood_any _ _ _ _ ts _ hr1).mono ?_
    rintro e w1 ⟨rfl, hb1⟩
    rw [H1.out]
    have hB1 := hB.trans (hb1.mono hB.size)
    go_wp2
    go_ret
    exact ⟨ret_bool (by unfold askB; rw [H1.out]; rfl), hB1⟩
  | true =>
    have H1 := Lib.hid h1
    clear h1
    go_enter Try.func55, Try.ntmps55
    go_wp2_with fail
    refine (siGood_any _ _ _ _ ts _ hr1).mono ?_
    rintro e w1 ⟨rfl, hb1⟩
    rw [H1.out]
    have hB1 := hB.trans (hb1.mono hB.size)
    go_wp2_with fail
    refine (siBend_b _ _ rfl).mono ?_
    rintro e w' ⟨rfl, rfl⟩
    go_wp2
    go_ret
    exact ⟨ret_bool (by unfold askB; rw [H1.out]; rfl), hB1⟩
end Go.Proofs.Ytkdmjeonlghnjaa
