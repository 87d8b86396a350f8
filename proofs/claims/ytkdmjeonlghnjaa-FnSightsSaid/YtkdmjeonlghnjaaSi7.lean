/- Chapter 7: horizons of both sides; the laws of BulgeAt and HorizonOf. Written by a generator of this claim's author. -/
import Derived.Test.YtkdmjeonlghnjaaSi6
import Derived.Laws.Externs
import Derived.Test.YtkdmjeonlghnjaaRows
namespace Go.Proofs.Ytkdmjeonlghnjaa
open Go.RowKit Go.Sort
set_option linter.unusedSimpArgs false
set_option linter.unusedVariables false

theorem ret2 {a b : Int} {c d : Bool} (h : a = b) (h' : c = d) : Ending.returned (.tuple #[.int .i64 a, .bool c]) = .returned (.tuple #[.int .i64 b, .bool d]) := by rw [h, h']
def seaR (c h : Int) (k : Int) : Prop := c * k * k ≤ 50968 * h
theorem sea_le {c h : Int} {q : Nat} (hc : 25 ≤ c) (hh : h ≤ 3000) (hr : seaR c h q) : (q : Int) ≤ 4096 := by
  unfold seaR at hr
  by_cases hq : 4096 < (q : Int)
  · have h1 := Int.mul_le_mul hc (Int.le_of_lt hq) (by decide) (by omega)
    have h2 := Int.mul_le_mul h1 (Int.le_of_lt hq) (by decide) (by omega)
    omega
  · omega
theorem sea_mono {c h : Int} {j k : Nat} (hc : 0 ≤ c) (hjk : j ≤ k) (hr : seaR c h k) : seaR c h j := by
  unfold seaR at *
  have h1 : c * (j : Int) ≤ c * (k : Int) := Int.mul_le_mul_of_nonneg_left (by omega) hc
  have h2 : c * (j : Int) * j ≤ c * (k : Int) * k := Int.mul_le_mul h1 (by omega) (by omega) (Int.mul_nonneg hc (by omega))
  omega
def hzB (h n : Int) : Bool := inB h 0 3000 && inB n 0 3
/-- The greatest distance of up to 999 at which the sea is seen. -/
def hzN (h n : Int) : Nat := fstP (fun d => !decide (5 * (8 - n) * ((d : Int) + 1) * ((d : Int) + 1) ≤ 50968 * h)) 999
def hzV (h n : Int) : Int := if hzB h n then hzN h n else 0
theorem hzV_yes {h n : Int} (hb : hzB h n = true) : hzV h n = hzN h n := by simp [hzV, hb]
theorem hzV_no {h n : Int} (hb : hzB h n = false) : hzV h n = 0 := by simp [hzV, hb]
theorem hzN_top {h n : Int} {m : Nat} (hn : n ≤ 3) (ht : Top (seaR (5 * (8 - n)) h) m) : (hzN h n : Int) = if (m : Int) < 999 then (m : Int) else 999 := by
  have : hzN h n = min m 999 := fstP_eq (Nat.min_le_right _ _) (fun t ht' => by
    have hr := sea_mono (j := t + 1) (k := m) (by omega) (by omega) ht.yes
    unfold seaR at hr
    push_cast at hr
    simp [hr]) (fun hlt => by
    have := ht.no (m + 1) (by omega)
    unfold seaR at this
    push_cast at this
    have e : min m 999 = m := by omega
    rw [e]
    simp only [Bool.not_eq_true', decide_eq_false_iff_not]
    exact this)
  rw [this]
  split <;> omega

set_option maxRecDepth 100000 in
set_option maxHeartbeats 1000000 in
theorem seaReaches_any (h n m : Int) (w : World) (h0 : 0 ≤ h) (h3 : h ≤ 3000) (n0 : 0 ≤ n) (n3 : n ≤ 3) (m0 : 0 ≤ m) (m9 : m ≤ 17000) :
    Calls Try.prog 83 #[.agg #[.int .i64 h, .int .i64 n], .int .i64 m] w fun e w' => e = .returned (.bool (decide (5 * (8 - n) * m * m ≤ 50968 * h))) ∧ Below w.heap.size w w' := by
  have hB : Below w.heap.size w (w.alloc (.cells #[.int .i64 h, .int .i64 n] 93)) := (Below.refl _ _).alloc (Nat.le_refl _) _
  have hC := fun w => curvatureOf_any n w n0 n3
  obtain ⟨c, hc⟩ : ∃ c, c = 5 * (8 - n) := ⟨_, rfl⟩
  have c0 : 0 ≤ c := by omega
  have c1 : c ≤ 40 := by omega
  rw [← hc] at hC
  rw [← hc]
  clear hc
  have p := mul_le (a := c) (b := m) (x := 40) (y := 17000) c0 m0 c1 m9
  obtain ⟨q1, q2⟩ := mul_le (a := c * m) (b := m) (x := 40 * 17000) (y := 17000) p.1 m0 p.2 m9
  obtain ⟨p1, p2⟩ := p
  have e0 : IntKind.i64.wrap (c * m) = c * m := IntWalk.i64_in _ (by omega)
  have e1 : IntKind.i64.wrap (c * m * m) = c * m * m := IntWalk.i64_in _ (by omega)
  have e2 : IntKind.i64.wrap (50968 * h) = 50968 * h := IntWalk.i64_in _ (by omega)
  go_enter Try.func83, Try.ntmps83
  go_wp2
  have m0' : (w.alloc (.cells #[.int .i64 h, .int .i64 n] 93)).cell? ⟨w.heap.size, 0, none⟩ = some (.int .i64 h) := by simp [go_sem]
  have m1' : (w.alloc (.cells #[.int .i64 h, .int .i64 n] 93)).cell? ⟨w.heap.size, 1, none⟩ = some (.int .i64 n) := by simp [go_sem]
  generalize w.alloc (.cells #[.int .i64 h, .int .i64 n] 93) = W at *
  have K0 := cell_regrown m0'
  have K1 := cell_regrown m1'
  have C0 : ∀ d os, Calls Try.prog 81 #[.int .i64 n] (grow (redrawn W d) os) fun e w'' => e = .returned (.int .i64 c) ∧ ∃ p : Regrown, w'' = grow (redrawn W p.d) p.os := fun d os => Calls.regrown_same (hC _)
  clear m0' m1' hC
  refine wp_region_quiet_below (by kernel_rfl) (by kernel_rfl) ?_
  repeat (go_big_quiet_step (first | (with_reducible exact C0 _ _)))
  refine wpQuiet_nil ?_
  intro _ hw'
  obtain ⟨⟨dq, osq⟩, hw''⟩ := hw'
  subst hw''
  have hb3 := hB.trans ((below_regrown W dq osq).mono hB.size)
  go_wp2
  go_ret
  exact ⟨rfl, hb3⟩

set_option maxRecDepth 100000 in
set_option maxHeartbeats 1000000 in
theorem madeSea_any (h v : Int) (x : Nat) (w : World) (h0 : 0 ≤ h) (h3 : h ≤ 3000) (n0 : 0 ≤ v) (n3 : v ≤ 3) (hx : LeP 13 x) :
    Calls Try.prog 82 #[.agg #[.int .i64 h, .int .i64 v], .float .f64 x, .func (.func 83) #[] #[]] w fun e w' => ∃ m : Nat, e = .returned (.int .i64 m) ∧ Hid (Top (seaR (5 * (8 - v)) h) m) ∧ (m : Int) ≤ 4096 ∧ Below w.heap.size w w' := by
  obtain ⟨n, hn, hlt⟩ := toInt_leP (by decide) hx
  have hlt : n < 16384 := by simpa using hlt
  have hcv : ∀ w : World, (convert 84 3 (.float .f64 x)).run Try.prog w = .ok (.int .i64 n) w := fun w => run_convert_float_int w _ _ .f64 .i64 x n (by kernel_rfl) (by kernel_rfl) hn
  clear hn hx
  have HC := Lib.hid (fun (m : Int) (w : World) (m0 : 0 ≤ m) (m9 : m ≤ 17000) => seaReaches_any h v m w h0 h3 n0 n3 m0 m9)
  have HS : Hid (∀ q : Nat, seaR (5 * (8 - v)) h q → (q : Int) ≤ 4096) := Lib.hid fun q hq => sea_le (by omega) h3 hq
  have HZ : Hid (seaR (5 * (8 - v)) h ((0 : Nat) : Int)) := Lib.hid (by unfold seaR; simp; omega)
  have HM : Hid (∀ j k : Nat, j ≤ k → seaR (5 * (8 - v)) h k → seaR (5 * (8 - v)) h j) := Lib.hid fun j k hjk hr => sea_mono (by omega) hjk hr
  have hB : Below w.heap.size w (w.alloc (.cells #[.int .i64 h, .int .i64 v] 93)) := (Below.refl _ _).alloc (Nat.le_refl _) _
  go_enter Try.func82, Try.ntmps82
  go_wp2
  go_loopw [7] (fun s7 wr => ∃ m : Nat, s7 = .int .i64 m ∧ m ≤ n ∧ Below w.heap.size w wr ∧ w.heap.size < wr.heap.size ∧ wr.cell? ⟨w.heap.size, 0, none⟩ = some (.int .i64 h) ∧ wr.cell? ⟨w.heap.size, 1, none⟩ = some (.int .i64 v)) (fun s7 wr => (intOf s7).toNat)
  case atStart => exact ⟨n, rfl, Nat.le_refl _, hB, by simp, by simp [go_sem], by simp [go_sem]⟩
  case round =>
    obtain ⟨m, rfl, hm, hbl, hbs, c0, c1⟩ := hrel
    rcases Nat.eq_zero_or_pos m with hz | hp
    · have hok : Hid (seaR (5 * (8 - v)) h (m : Int)) := Lib.hid (by rw [hz]; exact HZ.out)
      have hmz : ¬ 0 < (m : Int) := by omega
      clear hz
      go_wp2
      go_loopw [7] (fun s7 wr => ∃ q : Nat, s7 = .int .i64 q ∧ Hid (seaR (5 * (8 - v)) h q) ∧ Below w.heap.size w wr ∧ w.heap.size < wr.heap.size ∧ wr.cell? ⟨w.heap.size, 0, none⟩ = some (.int .i64 h) ∧ wr.cell? ⟨w.heap.size, 1, none⟩ = some (.int .i64 v)) (fun s7 wr => 5000 - (intOf s7).toNat)
      case atStart => exact ⟨_, rfl, hok, hbl, hbs, c0, c1⟩
      case round =>
        clear hbl hbs c0 c1
        obtain ⟨q, rfl, hq, hbl, hbs, c0, c1⟩ := hrel
        have hqb := HS.out q hq.out
        by_cases hr' : 5 * (8 - v) * ((q : Int) + 1) * ((q : Int) + 1) ≤ 50968 * h
        · have hd : Hid (decide (5 * (8 - v) * ((q : Int) + 1) * ((q : Int) + 1) ≤ 50968 * h) = true) := Lib.hid (decide_eq_true hr')
          have hq' : Hid (seaR (5 * (8 - v)) h ((q + 1 : Nat) : Int)) := Lib.hid (by unfold seaR; push_cast; exact hr')
          clear hr'
          go_wp2_with (go_at_call 83; refine (HC.out ((q : Int) + 1) _ (by omega) (by omega)).mono ?_; rintro e w1 ⟨rfl, hb1⟩; rw [hd.out])
          have hs1 := hb1.size
          have hbl := hbl.trans (hb1.mono hbl.size)
          have c0 := (hb1.cell (p := ⟨w.heap.size, 0, none⟩) hbs).trans c0
          have c1 := (hb1.cell (p := ⟨w.heap.size, 1, none⟩) hbs).trans c1
          have hbs : w.heap.size < w1.heap.size := by omega
          go_roundw
          case rel => exact ⟨q + 1, by go_num, hq', hbl, hbs, c0, c1⟩
          case measure => simp [intOf]; omega
        · have hd : Hid (decide (5 * (8 - v) * ((q : Int) + 1) * ((q : Int) + 1) ≤ 50968 * h) = false) := Lib.hid (decide_eq_false hr')
          have hT : Hid (Top (seaR (5 * (8 - v)) h) q) := Lib.hid ⟨hq.out, fun k hk hk' => hr' (by have := HM.out (q + 1) k (by omega) hk'; unfold seaR at this; push_cast at this; exact this)⟩
          clear hr'
          go_wp2_with (go_at_call 83; refine (HC.out ((q : Int) + 1) _ (by omega) (by omega)).mono ?_; rintro e w1 ⟨rfl, hb1⟩; rw [hd.out])
          have hs1 := hb1.size
          have hbl := hbl.trans (hb1.mono hbl.size)
          have c0 := (hb1.cell (p := ⟨w.heap.size, 0, none⟩) hbs).trans c0
          have c1 := (hb1.cell (p := ⟨w.heap.size, 1, none⟩) hbs).trans c1
          have hbs : w.heap.size < w1.heap.size := by omega
          go_ret
          exact ⟨q, rfl, hT, hqb, hbl⟩
    · have hmp : 0 < (m : Int) := by omega
      by_cases hr : 5 * (8 - v) * (m : Int) * (m : Int) ≤ 50968 * h
      · have hd : Hid (decide (5 * (8 - v) * (m : Int) * (m : Int) ≤ 50968 * h) = true) := Lib.hid (decide_eq_true hr)
        have hok : Hid (seaR (5 * (8 - v)) h m) := Lib.hid hr
        clear hr
        go_wp2_with (go_at_call 83; refine (HC.out (m : Int) _ (by omega) (by omega)).mono ?_; rintro e w1 ⟨rfl, hb1⟩; rw [hd.out])
        have hs1 := hb1.size
        have hbl := hbl.trans (hb1.mono hbl.size)
        have c0 := (hb1.cell (p := ⟨w.heap.size, 0, none⟩) hbs).trans c0
        have c1 := (hb1.cell (p := ⟨w.heap.size, 1, none⟩) hbs).trans c1
        have hbs : w.heap.size < w1.heap.size := by omega
        go_loopw [7] (fun s7 wr => ∃ q : Nat, s7 = .int .i64 q ∧ Hid (seaR (5 * (8 - v)) h q) ∧ Below w.heap.size w wr ∧ w.heap.size < wr.heap.size ∧ wr.cell? ⟨w.heap.size, 0, none⟩ = some (.int .i64 h) ∧ wr.cell? ⟨w.heap.size, 1, none⟩ = some (.int .i64 v)) (fun s7 wr => 5000 - (intOf s7).toNat)
        case atStart => exact ⟨_, rfl, hok, hbl, hbs, c0, c1⟩
        case round =>
          clear hbl hbs c0 c1
          obtain ⟨q, rfl, hq, hbl, hbs, c0, c1⟩ := hrel
          have hqb := HS.out q hq.out
          by_cases hr' : 5 * (8 - v) * ((q : Int) + 1) * ((q : Int) + 1) ≤ 50968 * h
          · have hd : Hid (decide (5 * (8 - v) * ((q : Int) + 1) * ((q : Int) + 1) ≤ 50968 * h) = true) := Lib.hid (decide_eq_true hr')
            have hq' : Hid (seaR (5 * (8 - v)) h ((q + 1 : Nat) : Int)) := Lib.hid (by unfold seaR; push_cast; exact hr')
            clear hr'
            go_wp2_with (go_at_call 83; refine (HC.out ((q : Int) + 1) _ (by omega) (by omega)).mono ?_; rintro e w1 ⟨rfl, hb1⟩; rw [hd.out])
            have hs1 := hb1.size
            have hbl := hbl.trans (hb1.mono hbl.size)
            have c0 := (hb1.cell (p := ⟨w.heap.size, 0, none⟩) hbs).trans c0
            have c1 := (hb1.cell (p := ⟨w.heap.size, 1, none⟩) hbs).trans c1
            have hbs : w.heap.size < w1.heap.size := by omega
            go_roundw
            case rel => exact ⟨q + 1, by go_num, hq', hbl, hbs, c0, c1⟩
            case measure => simp [intOf]; omega
          · have hd : Hid (decide (5 * (8 - v) * ((q : Int) + 1) * ((q : Int) + 1) ≤ 50968 * h) = false) := Lib.hid (decide_eq_false hr')
            have hT : Hid (Top (seaR (5 * (8 - v)) h) q) := Lib.hid ⟨hq.out, fun k hk hk' => hr' (by have := HM.out (q + 1) k (by omega) hk'; unfold seaR at this; push_cast at this; exact this)⟩
            clear hr'
            go_wp2_with (go_at_call 83; refine (HC.out ((q : Int) + 1) _ (by omega) (by omega)).mono ?_; rintro e w1 ⟨rfl, hb1⟩; rw [hd.out])
            have hs1 := hb1.size
            have hbl := hbl.trans (hb1.mono hbl.size)
            have c0 := (hb1.cell (p := ⟨w.heap.size, 0, none⟩) hbs).trans c0
            have c1 := (hb1.cell (p := ⟨w.heap.size, 1, none⟩) hbs).trans c1
            have hbs : w.heap.size < w1.heap.size := by omega
            go_ret
            exact ⟨q, rfl, hT, hqb, hbl⟩
      · have hd : Hid (decide (5 * (8 - v) * (m : Int) * (m : Int) ≤ 50968 * h) = false) := Lib.hid (decide_eq_false hr)
        clear hr
        go_wp2_with (go_at_call 83; refine (HC.out (m : Int) _ (by omega) (by omega)).mono ?_; rintro e w1 ⟨rfl, hb1⟩; rw [hd.out])
        have hs1 := hb1.size
        have hbl := hbl.trans (hb1.mono hbl.size)
        have c0 := (hb1.cell (p := ⟨w.heap.size, 0, none⟩) hbs).trans c0
        have c1 := (hb1.cell (p := ⟨w.heap.size, 1, none⟩) hbs).trans c1
        have hbs : w.heap.size < w1.heap.size := by omega
        go_roundw
        case rel => exact ⟨m - 1, by go_num, by omega, hbl, hbs, c0, c1⟩
        case measure => simp [intOf]; omega
theorem sqrt_any (x r : Nat) (w : World) (h : FloatKind.f64.format.sqrt x = some r) : (callFunc 97 #[.float .f64 x]).run Try.prog w = .ok (.value (.float .f64 r)) w := by
  rw [run_callFunc_extern (fn := Try.f97) (e := Extern.MathSqrt.sqrt) (by kernel_rfl) (by kernel_rfl) (by kernel_rfl) (by kernel_rfl) (by kernel_rfl)]
  have e : Extern.MathSqrt.sqrt #[.float .f64 x] = (match FloatKind.f64.format.sqrt x with | some r => pure (.float .f64 r) | none => do pure (.float .f64 (← choose (.nanBits .f64 x x)))) := rfl
  rw [e, h]
  simp [Result.andThen]
theorem mathSqrt_any (x r : Nat) (w : World) (h : FloatKind.f64.format.sqrt x = some r) : Calls Try.prog 80 #[.float .f64 x] w fun e w' => e = .returned (.float .f64 r) ∧ w = w' := by
  have hs := fun w => sqrt_any x r w h
  go_enter Try.func80, Try.ntmps80
  go_wp2
  go_ret
  exact ⟨rfl, rfl⟩

theorem curve_read {n : Int} (n0 : 0 ≤ n) (n3 : n ≤ 3) : ∃ m j, Ieee.double.read (floatOfInt .f64 (5 * (8 - n))) = .number false m j ∧ m ≠ 0 ∧ ((4 : Nat) : Int) ≤ j + m.log2 := by
  have : n = 0 ∨ n = 1 ∨ n = 2 ∨ n = 3 := by omega
  rcases this with rfl | rfl | rfl | rfl
  · exact ⟨40 * 2 ^ 47, -47, by decide +kernel, by decide, by decide +kernel⟩
  · exact ⟨35 * 2 ^ 47, -47, by decide +kernel, by decide, by decide +kernel⟩
  · exact ⟨30 * 2 ^ 48, -48, by decide +kernel, by decide, by decide +kernel⟩
  · exact ⟨25 * 2 ^ 48, -48, by decide +kernel, by decide, by decide +kernel⟩
/-- The program's estimate of a horizon: what it cannot exceed. -/
theorem estSea_any {h n : Int} (h0 : 0 ≤ h) (h3 : h ≤ 3000) (n0 : 0 ≤ n) (n3 : n ≤ 3) : ∃ f1 f2, floatBits .quo .f64 (floatOfInt .f64 (50968 * h)) (floatOfInt .f64 (5 * (8 - n))) = some f1 ∧ FloatKind.f64.format.sqrt f1 = some f2 ∧ LeP 13 f2 := by
  have p0 := ofInt_leP (50968 * h) 28 (by omega) (by omega)
  obtain ⟨m, j, hr, hm, hj⟩ := curve_read n0 n3
  obtain ⟨f1, e1, p1⟩ := quo_leP (e := 4) (by omega) p0 hr hm hj (by omega)
  obtain ⟨f2, e2, p2⟩ := sqrt_leP (by omega) p1
  exact ⟨f1, f2, e1, e2, p2.mono (by omega)⟩

set_option maxRecDepth 100000 in
set_option maxHeartbeats 1000000 in
theorem implHorizonOf_any (h n : Int) (w : World) :
    Calls Try.prog 40 #[.int .i64 h, .int .i64 n] w fun e w' => e = .returned (.tuple #[.int .i64 (hzV h n), .bool (hzB h n)]) ∧ Below w.heap.size w w' := by
  cases h1 : inB h 0 3000 with
  | false =>
    have HB : Hid (hzB h n = false) := Lib.hid (by unfold hzB; rw [h1]; rfl)
    have H1 := Lib.hid h1
    clear h1
    go_enter Try.func40, Try.ntmps40
    go_wp2_with fail
    refine (isSightHeight_b _ _ H1.out).mono ?_
    rintro e w' ⟨rfl, rfl⟩
    go_wp2
    go_ret2
    exact ⟨by rw [hzV_no HB.out, HB.out] <;> rfl, Below.refl _ _⟩
  | true =>
    have H1 := Lib.hid h1
    clear h1
    cases h2 : inB n 0 3 with
    | false =>
      have HB : Hid (hzB h n = false) := Lib.hid (by unfold hzB; rw [h2]; simp)
      have H2 := Lib.hid h2
      clear h2
      go_enter Try.func40, Try.ntmps40
      go_wp2_with fail
      refine (isSightHeight_b _ _ H1.out).mono ?_
      rintro e w' ⟨rfl, rfl⟩
      go_wp2_with fail
      refine (isRefraction_b _ _ H2.out).mono ?_
      rintro e w' ⟨rfl, rfl⟩
      go_wp2
      go_ret2
      exact ⟨by rw [hzV_no HB.out, HB.out] <;> rfl, Below.refl _ _⟩
    | true =>
      have HB : Hid (hzB h n = true) := Lib.hid (by unfold hzB; rw [H1.out, h2]; rfl)
      have H2 := Lib.hid h2
      clear h2
      obtain ⟨h0, h3⟩ := inB_iff.1 H1.out
      obtain ⟨n0, n3⟩ := inB_iff.1 H2.out
      have HV := Lib.hid (hzV_yes HB.out)
      have HN : Hid (∀ m : Nat, Top (seaR (5 * (8 - n)) h) m → (hzN h n : Int) = if (m : Int) < 999 then (m : Int) else 999) := Lib.hid fun m hm => hzN_top n3 hm
      obtain ⟨f1, f2, e1, e2, p2⟩ := estSea_any h0 h3 n0 n3
      have hc1 : ∀ w : World, (convert 3 84 (.int .i64 (50968 * h))).run Try.prog w = .ok (.float .f64 (floatOfInt .f64 (50968 * h))) w := fun w => run_convert_int_float w _ _ .i64 .f64 _ (by kernel_rfl) (by kernel_rfl)
      have hc2 : ∀ w : World, (convert 3 84 (.int .i64 (5 * (8 - n)))).run Try.prog w = .ok (.float .f64 (floatOfInt .f64 (5 * (8 - n)))) w := fun w => run_convert_int_float w _ _ .i64 .f64 _ (by kernel_rfl) (by kernel_rfl)
      have hqf : ∀ w : World, (binOp .quo 84 (.float .f64 (floatOfInt .f64 (50968 * h))) (.float .f64 (floatOfInt .f64 (5 * (8 - n))))).run Try.prog w = .ok (.float .f64 f1) w := fun w => run_float_arith w .quo _ .f64 _ _ f1 e1
      have HQ := Lib.hid e2
      clear e1 e2
      go_enter Try.func40, Try.ntmps40
      go_wp2_with fail
      refine (isSightHeight_b _ _ H1.out).mono ?_
      rintro e w' ⟨rfl, rfl⟩
      go_wp2_with fail
      refine (isRefraction_b _ _ H2.out).mono ?_
      rintro e w' ⟨rfl, rfl⟩
      go_wp2_with fail
      refine (curvatureOf_any n _ n0 n3).mono ?_
      rintro e w' ⟨rfl, rfl⟩
      go_wp2_with fail
      refine (mathSqrt_any f1 f2 _ HQ.out).mono ?_
      rintro e w' ⟨rfl, rfl⟩
      go_wp2_with fail
      refine (madeSea_any h n f2 _ h0 h3 n0 n3 p2).mono ?_
      rintro e w1 ⟨m, rfl, hm, hm4, hb1⟩
      have HM := Lib.hid (HN.out m hm.out)
      by_cases h9 : (m : Int) < 999
      · have HW : Hid ((hzN h n : Int) = m) := Lib.hid (by rw [HM.out, if_pos h9])
        go_wp2
        all_goals
          go_ret2
          exact ⟨ret2 (by rw [HV.out, HW.out] <;> omega) HB.out.symm, hb1⟩
      · have HW : Hid ((hzN h n : Int) = 999) := Lib.hid (by rw [HM.out, if_neg h9])
        go_wp2
        all_goals
          go_ret2
          exact ⟨ret2 (by rw [HV.out, HW.out] <;> omega) HB.out.symm, hb1⟩

set_option maxRecDepth 100000 in
set_option maxHeartbeats 1000000 in
theorem specHorizonOf_any (h n : Int) (w : World) :
    Calls Try.prog 41 #[.int .i64 h, .int .i64 n] w fun e w' => e = .returned (.tuple #[.int .i64 (hzV h n), .bool (hzB h n)]) ∧ Below w.heap.size w w' := by
  cases h1 : inB h 0 3000 with
  | false =>
    have HB : Hid (hzB h n = false) := Lib.hid (by unfold hzB; rw [h1]; rfl)
    have H1 := Lib.hid h1
    clear h1
    go_enter Try.func41, Try.ntmps41
    go_wp2_with fail
    refine (l1In_b _ _ _ _ H1.out).mono ?_
    rintro e w' ⟨rfl, rfl⟩
    go_wp2
    go_ret2
    exact ⟨by rw [hzV_no HB.out, HB.out] <;> rfl, Below.refl _ _⟩
  | true =>
    have H1 := Lib.hid h1
    clear h1
    cases h2 : inB n 0 3 with
    | false =>
      have HB : Hid (hzB h n = false) := Lib.hid (by unfold hzB; rw [h2]; simp)
      have H2 := Lib.hid h2
      clear h2
      go_enter Try.func41, Try.ntmps41
      go_wp2_with fail
      refine (l1In_b _ _ _ _ H1.out).mono ?_
      rintro e w' ⟨rfl, rfl⟩
      go_wp2_with fail
      refine (siBend_b _ _ H2.out).mono ?_
      rintro e w' ⟨rfl, rfl⟩
      go_wp2
      go_ret2
      exact ⟨by rw [hzV_no HB.out, HB.out] <;> rfl, Below.refl _ _⟩
    | true =>
      have HB : Hid (hzB h n = true) := Lib.hid (by unfold hzB; rw [H1.out, h2]; rfl)
      have H2 := Lib.hid h2
      clear h2
      obtain ⟨h0, h3⟩ := inB_iff.1 H1.out
      obtain ⟨n0, n3⟩ := inB_iff.1 H2.out
      have HV := Lib.hid (hzV_yes HB.out)
      have HF : Hid (∀ k : Nat, k ≤ 999 → (∀ t, t < k → 5 * (8 - n) * ((t : Int) + 1) * ((t : Int) + 1) ≤ 50968 * h) → (k < 999 → ¬ 5 * (8 - n) * ((k : Int) + 1) * ((k : Int) + 1) ≤ 50968 * h) → hzN h n = k) := Lib.hid fun k hk ha hb => fstP_eq hk (fun t ht => by simp [ha t ht]) (fun hl => by simpa using hb hl)
      have p1 : Hid (∀ k : Nat, k < 999 → (0 ≤ 5 * (8 - n) * ((k : Int) + 1) ∧ 5 * (8 - n) * ((k : Int) + 1) ≤ 40 * 1000) ∧ 0 ≤ 5 * (8 - n) * ((k : Int) + 1) * ((k : Int) + 1) ∧ 5 * (8 - n) * ((k : Int) + 1) * ((k : Int) + 1) ≤ 40 * 1000 * 1000) := Lib.hid fun k hk => by
        have p := mul_le (a := 5 * (8 - n)) (b := (k : Int) + 1) (x := 40) (y := 1000) (by omega) (by omega) (by omega) (by omega)
        exact ⟨p, mul_le (a := 5 * (8 - n) * ((k : Int) + 1)) (b := (k : Int) + 1) (x := 40 * 1000) (y := 1000) p.1 (by omega) p.2 (by omega)⟩
      go_enter Try.func41, Try.ntmps41
      go_wp2_with fail
      refine (l1In_b _ _ _ _ H1.out).mono ?_
      rintro e w' ⟨rfl, rfl⟩
      go_wp2_with fail
      refine (siBend_b _ _ H2.out).mono ?_
      rintro e w' ⟨rfl, rfl⟩
      go_wp2
      go_loopw [6] (fun s6 wr => ∃ k : Nat, s6 = .int .i64 k ∧ k ≤ 999 ∧ w = wr ∧ Hid (∀ t : Nat, t < k → 5 * (8 - n) * ((t : Int) + 1) * ((t : Int) + 1) ≤ 50968 * h)) (fun s6 wr => 1000 - (intOf s6).toNat)
      case atStart => exact ⟨0, rfl, by omega, rfl, Lib.hid fun t ht => by omega⟩
      case round =>
        obtain ⟨k, rfl, hk, hw, hall⟩ := hrel
        subst hw
        by_cases hk9 : k < 999
        · obtain ⟨⟨pa, pb⟩, pc, pd⟩ := p1.out k hk9
          by_cases hr : 5 * (8 - n) * ((k : Int) + 1) * ((k : Int) + 1) ≤ 50968 * h
          · have hall' : Hid (∀ t : Nat, t < k + 1 → 5 * (8 - n) * ((t : Int) + 1) * ((t : Int) + 1) ≤ 50968 * h) := Lib.hid fun t ht => by
              by_cases e : t = k
              · rw [e]; exact hr
              · exact hall.out t (by omega)
            go_wp2
            go_roundw
            case rel => exact ⟨k + 1, by go_num, by omega, by simp, hall'⟩
            case measure => simp [intOf]; omega
          · have HW := Lib.hid (HF.out k hk hall.out (fun _ => by omega))
            go_wp2
            go_ret2
            exact ⟨by rw [HV.out, HW.out, HB.out] <;> rfl, Below.refl _ _⟩
        · have HW := Lib.hid (HF.out k hk hall.out (fun h => absurd h hk9))
          go_wp2
          go_ret2
          exact ⟨by rw [HV.out, HW.out, HB.out] <;> rfl, Below.refl _ _⟩
theorem walk_FnExactBulgeAt (a0 a1 a2 : Int) (w : World) (w0f : (Lit.int .i64 a0).wf = true) (w1f : (Lit.int .i64 a1).wf = true) (w2f : (Lit.int .i64 a2).wf = true) :
    Calls Try.prog 6 #[.int .i64 a0, .int .i64 a1, .int .i64 a2] w fun e w' => e = .returned (.bool true) ∧ Below w.heap.size w w' := by
  go_enter Try.func6, Try.ntmps6
  go_wp2_with fail
  refine (specBulgeAt_any a0 a1 a2 _).mono ?_
  rintro e w1 ⟨rfl, hb1⟩
  go_wp2_with fail
  refine (implBulgeAt_any a0 a1 a2 _).mono ?_
  rintro e w2 ⟨rfl, hb2⟩
  have hB := hb1.trans (hb2.mono hb1.size)
  go_wp2
  go_ret
  exact ⟨rfl, hB⟩
theorem walk_FnExactHorizonOf (a0 a1 : Int) (w : World) (w0f : (Lit.int .i64 a0).wf = true) (w1f : (Lit.int .i64 a1).wf = true) :
    Calls Try.prog 12 #[.int .i64 a0, .int .i64 a1] w fun e w' => e = .returned (.bool true) ∧ Below w.heap.size w w' := by
  go_enter Try.func12, Try.ntmps12
  go_wp2_with fail
  refine (specHorizonOf_any a0 a1 _).mono ?_
  rintro e w1 ⟨rfl, hb1⟩
  go_wp2_with fail
  refine (implHorizonOf_any a0 a1 _).mono ?_
  rintro e w2 ⟨rfl, hb2⟩
  have hB := hb1.trans (hb2.mono hb1.size)
  go_wp2
  go_ret
  exact ⟨rfl, hB⟩
end Go.Proofs.Ytkdmjeonlghnjaa
