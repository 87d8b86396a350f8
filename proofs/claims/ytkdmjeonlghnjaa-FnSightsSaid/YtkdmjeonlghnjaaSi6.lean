/- Chapter 7: bulges and horizons: an estimate by floats, made exact; the model's sums. -/
import Derived.Test.YtkdmjeonlghnjaaSi5
import Derived.Test.YtkdmjeonlghnjaaFf
namespace Go.Proofs.Ytkdmjeonlghnjaa
open Go.RowKit Go.Sort
set_option linter.unusedSimpArgs false
set_option linter.unusedVariables false

/-- What is reached is reached below: the greatest that is. -/
structure Top (r : Int → Prop) (m : Nat) : Prop where
  yes : r m
  no : ∀ k : Nat, m < k → ¬ r k
theorem Top.uniq {r : Int → Prop} {m k : Nat} (h : Top r m) (h' : Top r k) : m = k := by
  rcases Nat.lt_trichotomy m k with h1 | h1 | h1
  · exact absurd h'.yes (h.no k h1)
  · exact h1
  · exact absurd h.yes (h'.no m h1)

theorem bulgeReaches_any (b m : Int) (w : World) (hb0 : 0 ≤ b) (hb : b ≤ 1099511627776) (h0 : 0 ≤ m) (h1 : m ≤ 1099511627776) :
    Calls Try.prog 71 #[.int .i64 b, .int .i64 m] w fun e w' => e = .returned (.bool (decide (50968 * m ≤ b * 100))) ∧ w = w' := by
  go_enter Try.func71, Try.ntmps71
  go_wp2
  go_ret
  exact ⟨rfl, rfl⟩

set_option maxHeartbeats 1000000 in
theorem madeBulge_any (b : Int) (x : Nat) (w : World) (hb0 : 0 ≤ b) (hb : b ≤ 1099511627776) (hx : LeP 35 x) :
    Calls Try.prog 70 #[.int .i64 b, .float .f64 x, .func (.func 71) #[] #[]] w fun e w' => ∃ m : Nat, e = .returned (.int .i64 m) ∧ Top (fun k => 50968 * k ≤ b * 100) m ∧ w = w' := by
  obtain ⟨n, hn, hlt⟩ := toInt_leP (by decide) hx
  have hlt : n < 68719476736 := by simpa using hlt
  have hcv : ∀ w : World, (convert 84 3 (.float .f64 x)).run Try.prog w = .ok (.int .i64 n) w := fun w => run_convert_float_int w _ _ .f64 .i64 x n (by kernel_rfl) (by kernel_rfl) hn
  clear hn hx
  go_enter Try.func70, Try.ntmps70
  go_wp2
  go_loopw [7] (fun s7 wr => ∃ m : Nat, s7 = .int .i64 m ∧ m ≤ n ∧ w = wr) (fun s7 wr => (intOf s7).toNat)
  case atStart => exact ⟨n, rfl, Nat.le_refl _, rfl⟩
  case round =>
    obtain ⟨m, rfl, hm, rfl⟩ := hrel
    by_cases hr : m = 0 ∨ 50968 * (m : Int) ≤ b * 100
    · have hok : 50968 * (m : Int) ≤ b * 100 := by omega
      have hgo : ∀ q : Nat, 50968 * (q : Int) ≤ b * 100 → q ≤ 1099511627776 := fun q hq => by omega
      have h9 := hgo m hok
      rcases Nat.eq_zero_or_pos m with rfl | hp
      · go_wp2
        go_loopw [7] (fun s7 wr => ∃ q : Nat, s7 = .int .i64 q ∧ 50968 * (q : Int) ≤ b * 100 ∧ w = wr) (fun s7 wr => (b * 100).toNat - (intOf s7).toNat)
        case atStart => exact ⟨_, rfl, hok, rfl⟩
        case round =>
          obtain ⟨q, rfl, hq, hw⟩ := hrel
          subst hw
          have hqb := hgo q hq
          by_cases hr' : 50968 * ((q : Int) + 1) ≤ b * 100
          · have hd : Hid (decide (50968 * ((q : Int) + 1) ≤ b * 100) = true) := Lib.hid (decide_eq_true hr')
            go_wp2_with (go_at_call 71; refine (bulgeReaches_any b (q + 1) _ hb0 hb (by omega) (by omega)).mono ?_; rintro e w1 ⟨rfl, rfl⟩; rw [hd.out])
            go_roundw
            case rel => exact ⟨q + 1, by go_num, by push_cast; exact hr', by simp⟩
            case measure => simp [intOf]; omega
          · have hd : Hid (decide (50968 * ((q : Int) + 1) ≤ b * 100) = false) := Lib.hid (decide_eq_false hr')
            go_wp2_with (go_at_call 71; refine (bulgeReaches_any b (q + 1) _ hb0 hb (by omega) (by omega)).mono ?_; rintro e w1 ⟨rfl, rfl⟩; rw [hd.out])
            go_ret
            exact ⟨q, rfl, ⟨hq, fun k hk => by omega⟩, rfl⟩
      · have hmp : 0 < (m : Int) := by omega
        have hd : Hid (decide (50968 * (m : Int) ≤ b * 100) = true) := Lib.hid (decide_eq_true hok)
        go_wp2_with (go_at_call 71; refine (bulgeReaches_any b m _ hb0 hb (by omega) (by omega)).mono ?_; rintro e w1 ⟨rfl, rfl⟩; rw [hd.out])
        go_loopw [7] (fun s7 wr => ∃ q : Nat, s7 = .int .i64 q ∧ 50968 * (q : Int) ≤ b * 100 ∧ w = wr) (fun s7 wr => (b * 100).toNat - (intOf s7).toNat)
        case atStart => exact ⟨_, rfl, hok, rfl⟩
        case round =>
          obtain ⟨q, rfl, hq, hw⟩ := hrel
          subst hw
          have hqb := hgo q hq
          by_cases hr' : 50968 * ((q : Int) + 1) ≤ b * 100
          · have hd : Hid (decide (50968 * ((q : Int) + 1) ≤ b * 100) = true) := Lib.hid (decide_eq_true hr')
            go_wp2_with (go_at_call 71; refine (bulgeReaches_any b (q + 1) _ hb0 hb (by omega) (by omega)).mono ?_; rintro e w1 ⟨rfl, rfl⟩; rw [hd.out])
            go_roundw
            case rel => exact ⟨q + 1, by go_num, by push_cast; exact hr', by simp⟩
            case measure => simp [intOf]; omega
          · have hd : Hid (decide (50968 * ((q : Int) + 1) ≤ b * 100) = false) := Lib.hid (decide_eq_false hr')
            go_wp2_with (go_at_call 71; refine (bulgeReaches_any b (q + 1) _ hb0 hb (by omega) (by omega)).mono ?_; rintro e w1 ⟨rfl, rfl⟩; rw [hd.out])
            go_ret
            exact ⟨q, rfl, ⟨hq, fun k hk => by omega⟩, rfl⟩
    · have hmp : 0 < (m : Int) := by omega
      have hd : Hid (decide (50968 * (m : Int) ≤ b * 100) = false) := Lib.hid (decide_eq_false (by omega))
      go_wp2_with (go_at_call 71; refine (bulgeReaches_any b m _ hb0 hb (by omega) (by omega)).mono ?_; rintro e w1 ⟨rfl, rfl⟩; rw [hd.out])
      go_roundw
      case rel => exact ⟨m - 1, by go_num, by omega, by simp⟩
      case measure => simp [intOf]; omega

def bgB (D x n : Int) : Bool := inB D 1 999 && inB x 0 D && inB n 0 3
def bgV (D x n : Int) : Int := if bgB D x n then (100 * (5 * (8 - n) * x * (D - x))) / 50968 else 0
theorem bgV_yes {D x n : Int} (h : bgB D x n = true) : bgV D x n = (100 * (5 * (8 - n) * x * (D - x))) / 50968 := by simp [bgV, h]
theorem bgV_no {D x n : Int} (h : bgB D x n = false) : bgV D x n = 0 := by simp [bgV, h]

theorem specBulgeAt_any (D x n : Int) (w : World) :
    Calls Try.prog 29 #[.int .i64 D, .int .i64 x, .int .i64 n] w fun e w' => e = .returned (.tuple #[.int .i64 (bgV D x n), .bool (bgB D x n)]) ∧ Below w.heap.size w w' := by
  cases h0 : inB D 1 999 with
  | false =>
    have HB : Hid (bgB D x n = false) := Lib.hid (by unfold bgB; rw [h0]; rfl)
    have H0 := Lib.hid h0
    clear h0
    go_enter Try.func29, Try.ntmps29
    go_wp2_with fail
    refine (l1In_b _ _ _ _ H0.out).mono ?_
    rintro e w' ⟨rfl, rfl⟩
    go_wp2
    go_ret2
    exact ⟨by rw [bgV_no HB.out, HB.out] <;> rfl, Below.refl _ _⟩
  | true =>
    have H0 := Lib.hid h0
    clear h0
    cases h1 : inB x 0 D with
    | false =>
      have HB : Hid (bgB D x n = false) := Lib.hid (by unfold bgB; rw [H0.out, h1]; rfl)
      have H1 := Lib.hid h1
      clear h1
      go_enter Try.func29, Try.ntmps29
      go_wp2_with fail
      refine (l1In_b _ _ _ _ H0.out).mono ?_
      rintro e w' ⟨rfl, rfl⟩
      go_wp2_with fail
      refine (l1In_b _ _ _ _ H1.out).mono ?_
      rintro e w' ⟨rfl, rfl⟩
      go_wp2
      go_ret2
      exact ⟨by rw [bgV_no HB.out, HB.out] <;> rfl, Below.refl _ _⟩
    | true =>
      have H1 := Lib.hid h1
      clear h1
      cases h2 : inB n 0 3 with
      | false =>
        have HB : Hid (bgB D x n = false) := Lib.hid (by unfold bgB; rw [H0.out, H1.out, h2]; rfl)
        have H2 := Lib.hid h2
        clear h2
        go_enter Try.func29, Try.ntmps29
        go_wp2_with fail
        refine (l1In_b _ _ _ _ H0.out).mono ?_
        rintro e w' ⟨rfl, rfl⟩
        go_wp2_with fail
        refine (l1In_b _ _ _ _ H1.out).mono ?_
        rintro e w' ⟨rfl, rfl⟩
        go_wp2_with fail
        refine (siBend_b _ _ H2.out).mono ?_
        rintro e w' ⟨rfl, rfl⟩
        go_wp2
        go_ret2
        exact ⟨by rw [bgV_no HB.out, HB.out] <;> rfl, Below.refl _ _⟩
      | true =>
        have HB : Hid (bgB D x n = true) := Lib.hid (by unfold bgB; rw [H0.out, H1.out, h2]; rfl)
        have H2 := Lib.hid h2
        clear h2
        obtain ⟨d1, d9⟩ := inB_iff.1 H0.out
        obtain ⟨x0, xD⟩ := inB_iff.1 H1.out
        obtain ⟨n0, n3⟩ := inB_iff.1 H2.out
        have pp := mul_le (a := 5 * (8 - n)) (b := x) (x := 40) (y := 999) (by omega) (by omega) (by omega) (by omega)
        obtain ⟨q1, q2⟩ := mul_le (a := 5 * (8 - n) * x) (b := D - x) (x := 40 * 999) (y := 999) pp.1 (by omega) pp.2 (by omega)
        clear pp
        have HV := Lib.hid (bgV_yes HB.out)
        obtain ⟨bu, hbu⟩ : ∃ bu, bu = 5 * (8 - n) * x * (D - x) := ⟨_, rfl⟩
        rw [← hbu] at q1 q2 HV
        have HC := Lib.hid (siBulge_any D x n w n0 n3 x0 xD d9)
        rw [← hbu] at HC
        clear hbu
        go_enter Try.func29, Try.ntmps29
        go_wp2_with fail
        refine (l1In_b _ _ _ _ H0.out).mono ?_
        rintro e w' ⟨rfl, rfl⟩
        go_wp2_with fail
        refine (l1In_b _ _ _ _ H1.out).mono ?_
        rintro e w' ⟨rfl, rfl⟩
        go_wp2_with fail
        refine (siBend_b _ _ H2.out).mono ?_
        rintro e w' ⟨rfl, rfl⟩
        go_wp2_with fail
        refine (HC.out).mono ?_
        rintro e w' ⟨rfl, rfl⟩
        go_wp2
        go_ret2
        exact ⟨by rw [HV.out, HB.out] <;> rfl, Below.refl _ _⟩
/-- The program's estimate of a bulge, a double: what it cannot exceed. -/
theorem estimate_any {bu : Int} (h0 : 0 ≤ bu) (h1 : bu ≤ 40 * 999 * 999) : ∃ f1 f2, floatBits .quo .f64 (floatOfInt .f64 bu) 4677237802163765248 = some f1 ∧ floatBits .mul .f64 f1 4636737291354636288 = some f2 ∧ LeP 35 f2 := by
  have p0 := ofInt_leP bu 26 h0 (by omega)
  obtain ⟨f1, e1, p1⟩ := quo_leP (c := 4677237802163765248) (n := 50968 * 2 ^ 37) (j := -37) (e := 15) (by omega) p0 (by decide +kernel) (by decide) (by decide +kernel) (by omega)
  obtain ⟨f2, e2, p2⟩ := mul_leP (y := 4636737291354636288) (l := 7) (by omega) (by omega) p1 (by unfold LeP; decide +kernel)
  exact ⟨f1, f2, e1, e2, p2.mono (by omega)⟩

set_option maxRecDepth 100000 in
set_option maxHeartbeats 1000000 in
theorem implBulgeAt_any (D x n : Int) (w : World) :
    Calls Try.prog 28 #[.int .i64 D, .int .i64 x, .int .i64 n] w fun e w' => e = .returned (.tuple #[.int .i64 (bgV D x n), .bool (bgB D x n)]) ∧ Below w.heap.size w w' := by
  cases h0 : inB D 1 999 with
  | false =>
    have HB : Hid (bgB D x n = false) := Lib.hid (by unfold bgB; rw [h0]; rfl)
    have H0 := Lib.hid h0
    clear h0
    go_enter Try.func28, Try.ntmps28
    go_wp2_with fail
    refine (isDistance_b _ _ H0.out).mono ?_
    rintro e w' ⟨rfl, rfl⟩
    go_wp2
    go_ret2
    exact ⟨by rw [bgV_no HB.out, HB.out] <;> rfl, Below.refl _ _⟩
  | true =>
    have H0 := Lib.hid h0
    clear h0
    by_cases hx0 : 0 ≤ x
    · by_cases hxD : x ≤ D
      · cases h2 : inB n 0 3 with
        | false =>
          have HB : Hid (bgB D x n = false) := Lib.hid (by unfold bgB; rw [h2]; simp)
          have H2 := Lib.hid h2
          clear h2
          go_enter Try.func28, Try.ntmps28
          go_wp2_with fail
          refine (isDistance_b _ _ H0.out).mono ?_
          rintro e w' ⟨rfl, rfl⟩
          go_wp2_with fail
          refine (isRefraction_b _ _ H2.out).mono ?_
          rintro e w' ⟨rfl, rfl⟩
          go_wp2
          go_ret2
          exact ⟨by rw [bgV_no HB.out, HB.out] <;> rfl, Below.refl _ _⟩
        | true =>
          have HB : Hid (bgB D x n = true) := Lib.hid (by unfold bgB; rw [H0.out, inB_yes hx0 hxD, h2]; rfl)
          have H2 := Lib.hid h2
          clear h2
          obtain ⟨d1, d9⟩ := inB_iff.1 H0.out
          obtain ⟨n0, n3⟩ := inB_iff.1 H2.out
          have pp := mul_le (a := 5 * (8 - n)) (b := x) (x := 40) (y := 999) (by omega) (by omega) (by omega) (by omega)
          obtain ⟨q1, q2⟩ := mul_le (a := 5 * (8 - n) * x) (b := D - x) (x := 40 * 999) (y := 999) pp.1 (by omega) pp.2 (by omega)
          clear pp
          have HV := Lib.hid (bgV_yes HB.out)
          have HC := Lib.hid (bulgeOf_any D x n w n0 n3 hx0 hxD d9)
          obtain ⟨bu, hbu⟩ : ∃ bu, bu = 5 * (8 - n) * x * (D - x) := ⟨_, rfl⟩
          rw [← hbu] at q1 q2 HV HC
          clear hbu
          obtain ⟨f1, f2, e1, e2, p2⟩ := estimate_any q1 q2
          have hcf : ∀ w : World, (convert 82 84 (.int .i64 bu)).run Try.prog w = .ok (.float .f64 (floatOfInt .f64 bu)) w := fun w => run_convert_int_float w _ _ .i64 .f64 bu (by kernel_rfl) (by kernel_rfl)
          have hqf : ∀ w : World, (binOp .quo 84 (.float .f64 (floatOfInt .f64 bu)) (.float .f64 4677237802163765248)).run Try.prog w = .ok (.float .f64 f1) w := fun w => run_float_arith w .quo _ .f64 _ _ f1 e1
          have hmf : ∀ w : World, (binOp .mul 84 (.float .f64 f1) (.float .f64 4636737291354636288)).run Try.prog w = .ok (.float .f64 f2) w := fun w => run_float_arith w .mul _ .f64 _ _ f2 e2
          clear e1 e2
          go_enter Try.func28, Try.ntmps28
          go_wp2_with fail
          refine (isDistance_b _ _ H0.out).mono ?_
          rintro e w' ⟨rfl, rfl⟩
          go_wp2_with fail
          refine (isRefraction_b _ _ H2.out).mono ?_
          rintro e w' ⟨rfl, rfl⟩
          go_wp2_with fail
          refine (HC.out).mono ?_
          rintro e w' ⟨rfl, rfl⟩
          go_wp2_with fail
          refine (madeBulge_any bu f2 _ q1 (by omega) p2).mono ?_
          rintro e w' ⟨m, rfl, hm, rfl⟩
          have HM : Hid ((100 * bu) / 50968 = (m : Int)) := Lib.hid (by have h1 := hm.yes; have h2 := hm.no (m + 1) (by omega); push_cast at h2; omega)
          clear hm
          go_wp2
          go_ret2
          exact ⟨by rw [HV.out, HM.out, HB.out] <;> rfl, Below.refl _ _⟩
      · have HB : Hid (bgB D x n = false) := Lib.hid (by unfold bgB; rw [inB_no (n := x) (by omega)]; simp)
        go_enter Try.func28, Try.ntmps28
        go_wp2_with fail
        refine (isDistance_b _ _ H0.out).mono ?_
        rintro e w' ⟨rfl, rfl⟩
        go_wp2
        go_ret2
        exact ⟨by rw [bgV_no HB.out, HB.out] <;> rfl, Below.refl _ _⟩
    · have HB : Hid (bgB D x n = false) := Lib.hid (by unfold bgB; rw [inB_no (n := x) (by omega)]; simp)
      go_enter Try.func28, Try.ntmps28
      go_wp2_with fail
      refine (isDistance_b _ _ H0.out).mono ?_
      rintro e w' ⟨rfl, rfl⟩
      go_wp2
      go_ret2
      exact ⟨by rw [bgV_no HB.out, HB.out] <;> rfl, Below.refl _ _⟩
end Go.Proofs.Ytkdmjeonlghnjaa
