/- Chapter 7: clearances: the least room, put in lowest terms; both sides. -/
import Derived.Test.YtkdmjeonlghnjaaSi5
namespace Go.Proofs.Ytkdmjeonlghnjaa
open Go.RowKit Go.Sort
set_option linter.unusedSimpArgs false
set_option linter.unusedVariables false

theorem l1Least_any (a b : Int) (w : World) : Calls Try.prog 61 #[.int .i64 a, .int .i64 b] w fun e w' => e = .returned (.int .i64 (min a b)) ∧ w = w' := by
  by_cases h : a < b
  · go_enter Try.func61, Try.ntmps61
    go_wp2
    go_ret
    exact ⟨ret_int (by omega), rfl⟩
  · go_enter Try.func61, Try.ntmps61
    go_wp2
    go_ret
    exact ⟨ret_int (by omega), rfl⟩
theorem l1Most_any (a b : Int) (w : World) : Calls Try.prog 90 #[.int .i64 a, .int .i64 b] w fun e w' => e = .returned (.int .i64 (max a b)) ∧ w = w' := by
  by_cases h : b < a
  · go_enter Try.func90, Try.ntmps90
    go_wp2
    go_ret
    exact ⟨ret_int (by omega), rfl⟩
  · go_enter Try.func90, Try.ntmps90
    go_wp2
    go_ret
    exact ⟨ret_int (by omega), rfl⟩
theorem l1Abs_any (a : Int) (w : World) (h1 : -1000000000000 ≤ a) (h2 : a ≤ 1000000000000) : Calls Try.prog 93 #[.int .i64 a] w fun e w' => e = .returned (.int .i64 (a.natAbs : Nat)) ∧ w = w' := by
  go_enter Try.func93, Try.ntmps93
  go_wp2_with fail
  refine (l1Most_any _ _ _).mono ?_
  rintro e w1 ⟨rfl, rfl⟩
  go_wp2
  go_ret
  exact ⟨ret_int (by omega), rfl⟩

set_option maxHeartbeats 1000000 in
theorem siPart_any (a b : Int) (w : World) (h1 : -1000000000000 ≤ a) (h2 : a ≤ 1000000000000) (h3 : 1 ≤ b) (h4 : b ≤ 1000000000000) :
    Calls Try.prog 62 #[.int .i64 a, .int .i64 b] w fun e w' => e = .returned (.tuple #[.int .i64 (a.tdiv (Int.gcd a b)), .int .i64 (b / (Int.gcd a b : Nat))]) ∧ Below w.heap.size w w' := by
  have hgp : 0 < Int.gcd a b := Int.gcd_pos_of_ne_zero_right _ (by omega)
  have hG : Hid (Int.gcd a b = Nat.gcd a.natAbs b.natAbs) := Lib.hid rfl
  obtain ⟨g, hg⟩ : ∃ g, g = Int.gcd a b := ⟨_, rfl⟩
  have hgb : g ≤ 1000000000000 := by rw [hg]; have := Int.gcd_le_natAbs_right a (b := b) (by omega); omega
  rw [← hg] at hgp hG ⊢
  clear hg
  go_enter Try.func62, Try.ntmps62
  go_wp2_with fail
  refine (l1Abs_any _ _ h1 h2).mono ?_
  rintro e w1 ⟨rfl, rfl⟩
  go_wp2
  go_loopw [6, 7, 8] (fun s6 s7 s8 wr => ∃ x y : Nat, s6 = .int .i64 x ∧ s7 = .int .i64 y ∧ Hid (Nat.gcd x y = g) ∧ x ≤ 1000000000000 ∧ y ≤ 1000000000000 ∧ w = wr) (fun s6 s7 s8 wr => (intOf s7).toNat)
  case atStart => exact ⟨a.natAbs, b.natAbs, rfl, by rw [Int.natAbs_of_nonneg (by omega)], Lib.hid hG.out.symm, by omega, by omega, rfl⟩
  case round =>
    obtain ⟨x, y, rfl, rfl, hxy, hx, hy, hw⟩ := hrel
    subst hw
    by_cases hy0 : 0 < y
    · have hr : x % y < y := Nat.mod_lt _ hy0
      have hxy' : Hid (Nat.gcd y (x % y) = g) := Lib.hid (by rw [Nat.gcd_comm, ← Nat.gcd_rec, Nat.gcd_comm]; exact hxy.out)
      have hne : (y : Int) ≠ 0 := by omega
      go_wp2
      go_roundw
      case rel => exact ⟨y, x % y, rfl, by rw [Int.natCast_emod], hxy', hy, by omega, by simp⟩
      case measure =>
        rw [← Int.natCast_emod]
        simp only [intOf, Int.toNat_natCast]
        exact hr
    · obtain rfl : y = 0 := by omega
      obtain rfl : x = g := by rw [← hxy.out, Nat.gcd_zero_right]
      have hne : (x : Int) ≠ 0 := by omega
      have hyz : ¬ 0 < ((0 : Nat) : Int) := by simp
      go_wp2_with fail
      refine wp_region_quiet_below (by kernel_rfl) (by kernel_rfl) ?_
      repeat (go_big_quiet_step (fail))
      refine wpQuiet_nil ?_
      intro _ hw'
      obtain ⟨⟨dq, osq⟩, hw''⟩ := hw'
      subst hw''
      go_wp2
      go_ret2
      exact ⟨rfl, below_regrown w dq osq⟩
set_option maxHeartbeats 1000000 in
theorem commonDivisor_any (a b : Int) (w : World) (h1 : -1000000000000 ≤ a) (h2 : a ≤ 1000000000000) (h3 : 1 ≤ b) (h4 : b ≤ 1000000000000) :
    Calls Try.prog 59 #[.int .i64 a, .int .i64 b] w fun e w' => e = .returned (.int .i64 (Int.gcd a b : Nat)) ∧ w = w' := by
  obtain ⟨g, hg⟩ : ∃ g, g = Int.gcd a b := ⟨_, rfl⟩
  have hG : Hid (g = Nat.gcd b.natAbs a.natAbs) := Lib.hid (by rw [hg, Nat.gcd_comm]; rfl)
  rw [← hg]
  clear hg
  by_cases ha : 0 ≤ a
  · have hlt : ¬ a < -a := by omega
    have hle : -a ≤ a := by omega
    go_enter Try.func59, Try.ntmps59
    go_wp2
    go_loopw [0, 1] (fun s0 s1 wr => ∃ x y : Nat, s0 = .int .i64 y ∧ s1 = .int .i64 x ∧ Hid (Nat.gcd x y = g) ∧ x ≤ 1000000000000 ∧ y ≤ 1000000000000 ∧ w = wr) (fun s0 s1 wr => (intOf s0).toNat)
    case atStart => exact ⟨b.natAbs, a.natAbs, by rw [Int.natAbs_of_nonneg ha], by rw [Int.natAbs_of_nonneg (by omega)], Lib.hid hG.out.symm, by omega, by omega, rfl⟩
    case round =>
      obtain ⟨x, y, rfl, rfl, hxy, hx, hy, hw⟩ := hrel
      subst hw
      by_cases hy0 : 0 < y
      · have hr : x % y < y := Nat.mod_lt _ hy0
        have hxy' : Hid (Nat.gcd y (x % y) = g) := Lib.hid (by rw [Nat.gcd_comm, ← Nat.gcd_rec, Nat.gcd_comm]; exact hxy.out)
        have hne : (y : Int) ≠ 0 := by omega
        go_wp2
        go_roundw
        case rel => exact ⟨y, x % y, by rw [Int.natCast_emod], rfl, hxy', hy, by omega, by simp⟩
        case measure =>
          rw [← Int.natCast_emod]
          simp only [intOf, Int.toNat_natCast]
          exact hr
      · obtain rfl : y = 0 := by omega
        obtain rfl : x = g := by rw [← hxy.out, Nat.gcd_zero_right]
        have hyz : ¬ 0 < ((0 : Nat) : Int) := by simp
        go_wp2
        go_ret
        exact ⟨rfl, rfl⟩
  · have hlt : a < -a := by omega
    have hle : a ≤ -a := by omega
    go_enter Try.func59, Try.ntmps59
    go_wp2
    go_loopw [0, 1] (fun s0 s1 wr => ∃ x y : Nat, s0 = .int .i64 y ∧ s1 = .int .i64 x ∧ Hid (Nat.gcd x y = g) ∧ x ≤ 1000000000000 ∧ y ≤ 1000000000000 ∧ w = wr) (fun s0 s1 wr => (intOf s0).toNat)
    case atStart => exact ⟨b.natAbs, a.natAbs, by rw [show ((a.natAbs : Nat) : Int) = -a by omega], by rw [Int.natAbs_of_nonneg (by omega)], Lib.hid hG.out.symm, by omega, by omega, rfl⟩
    case round =>
      obtain ⟨x, y, rfl, rfl, hxy, hx, hy, hw⟩ := hrel
      subst hw
      by_cases hy0 : 0 < y
      · have hr : x % y < y := Nat.mod_lt _ hy0
        have hxy' : Hid (Nat.gcd y (x % y) = g) := Lib.hid (by rw [Nat.gcd_comm, ← Nat.gcd_rec, Nat.gcd_comm]; exact hxy.out)
        have hne : (y : Int) ≠ 0 := by omega
        go_wp2
        go_roundw
        case rel => exact ⟨y, x % y, by rw [Int.natCast_emod], rfl, hxy', hy, by omega, by simp⟩
        case measure =>
          rw [← Int.natCast_emod]
          simp only [intOf, Int.toNat_natCast]
          exact hr
      · obtain rfl : y = 0 := by omega
        obtain rfl : x = g := by rw [← hxy.out, Nat.gcd_zero_right]
        have hyz : ¬ 0 < ((0 : Nat) : Int) := by simp
        go_wp2
        go_ret
        exact ⟨rfl, rfl⟩

/-- The least room over the first k + 1 Grounds. -/
def mnT (D A B n : Int) (ts : List T2) : Nat → Int
  | 0 => ovr D A B n (rAt ts 0)
  | k + 1 => min (mnT D A B n ts k) (ovr D A B n (rAt ts (k + 1)))
theorem ovr_bound {D A B n : Int} {g : T2} (h : Bnd D A B n g) : -1000000000000 ≤ ovr D A B n g ∧ ovr D A B n g ≤ 1000000000000 := by
  have hp := h.prods
  rw [← ovr_room]
  obtain ⟨pa, pb, pc, pd, -⟩ := hp
  omega
theorem mnT_bound {D A B n : Int} {ts : List T2} (h : SiBn D A B n ts) {k : Nat} (hk : k < ts.length) : -1000000000000 ≤ mnT D A B n ts k ∧ mnT D A B n ts k ≤ 1000000000000 := by
  induction k with
  | zero => exact ovr_bound (h.at_ hk)
  | succ k ih =>
    have h1 := ih (by omega)
    have h2 := ovr_bound (h.at_ hk)
    show -1000000000000 ≤ min (mnT D A B n ts k) (ovr D A B n ⟨(rAt ts (k + 1)).x0, (rAt ts (k + 1)).x1⟩) ∧ min (mnT D A B n ts k) (ovr D A B n ⟨(rAt ts (k + 1)).x0, (rAt ts (k + 1)).x1⟩) ≤ 1000000000000
    omega
theorem mnT_step {D A B n : Int} {ts : List T2} (k : Nat) : min (mnT D A B n ts (k - 1)) (ovr D A B n (rAt ts k)) = mnT D A B n ts (k + 1 - 1) := by
  cases k with
  | zero => show min (ovr D A B n (rAt ts 0)) (ovr D A B n (rAt ts 0)) = ovr D A B n (rAt ts 0); omega
  | succ k => rfl
def clB (D A B n : Int) (ts : List T2) : Bool := askB D A B n ts && decide (ts.length ≠ 0)
def clM (D A B n : Int) (ts : List T2) : Int := mnT D A B n ts (ts.length - 1)
def clX (D A B n : Int) (ts : List T2) : Int := if clB D A B n ts then (clM D A B n ts).tdiv (Int.gcd (clM D A B n ts) (50968 * D) : Nat) else 0
def clY (D A B n : Int) (ts : List T2) : Int := if clB D A B n ts then (50968 * D) / (Int.gcd (clM D A B n ts) (50968 * D) : Nat) else 0
theorem clB_no {D A B n : Int} {ts : List T2} (h : askB D A B n ts = false) : clB D A B n ts = false := by simp [clB, h]
theorem clB_nil {D A B n : Int} {ts : List T2} (h : ts.length = 0) : clB D A B n ts = false := by simp [clB, h]
theorem clB_yes {D A B n : Int} {ts : List T2} (h : askB D A B n ts = true) (h2 : ts.length ≠ 0) : clB D A B n ts = true := by unfold clB; rw [h, decide_eq_true h2]; rfl
theorem clX_no {D A B n : Int} {ts : List T2} (h : clB D A B n ts = false) : clX D A B n ts = 0 := by simp [clX, h]
theorem clY_no {D A B n : Int} {ts : List T2} (h : clB D A B n ts = false) : clY D A B n ts = 0 := by simp [clY, h]
theorem clX_yes {D A B n : Int} {ts : List T2} (h : clB D A B n ts = true) : clX D A B n ts = (clM D A B n ts).tdiv (Int.gcd (clM D A B n ts) (50968 * D) : Nat) := by simp [clX, h]
theorem clY_yes {D A B n : Int} {ts : List T2} (h : clB D A B n ts = true) : clY D A B n ts = (50968 * D) / (Int.gcd (clM D A B n ts) (50968 * D) : Nat) := by simp [clY, h]
theorem ret3 {a b a' b' : Int} {c d : Bool} (h : a = b) (h1 : a' = b') (h' : c = d) : Ending.returned (.tuple #[.int .i64 a, .int .i64 a', .bool c]) = .returned (.tuple #[.int .i64 b, .int .i64 b', .bool d]) := by rw [h, h1, h']
theorem roomAbove_g (D A B n x0 x1 : Int) (c : Value) (w : World) (h : Bnd D A B n ⟨x0, x1⟩) : ∀ d os, Calls Try.prog 57 #[.agg #[.int .i64 D, .int .i64 A, .int .i64 B, c], .agg #[.int .i64 x0, .int .i64 x1], .int .i64 n] (grow (redrawn w d) os) fun e w'' => e = .returned (.int .i64 (ovr D A B n ⟨x0, x1⟩)) ∧ ∃ p : Regrown, w'' = grow (redrawn w p.d) p.os :=
  fun d os => Calls.regrown_of (roomAbove_any D A B n x0 x1 c _ h)
theorem siOver_g (D A B n x0 x1 : Int) (c : Value) (w : World) (h : Bnd D A B n ⟨x0, x1⟩) : ∀ d os, Calls Try.prog 60 #[.agg #[.int .i64 D, .int .i64 A, .int .i64 B, c], .agg #[.int .i64 x0, .int .i64 x1], .int .i64 n] (grow (redrawn w d) os) fun e w'' => e = .returned (.int .i64 (ovr D A B n ⟨x0, x1⟩)) ∧ ∃ p : Regrown, w'' = grow (redrawn w p.d) p.os :=
  fun d os => Calls.regrown_of (siOver_any D A B n x0 x1 c _ h)
set_option maxRecDepth 100000 in
set_option maxHeartbeats 1000000 in
theorem specClearance_any (D A B n : Int) (c : Value) (ts : List T2) (w : World) (hr : RdR c2 2 w c ts) :
    Calls Try.prog 21 #[.agg #[.int .i64 D, .int .i64 A, .int .i64 B, c], .int .i64 n] w fun e w' => e = .returned (.tuple #[.int .i64 (clX D A B n ts), .int .i64 (clY D A B n ts), .bool (clB D A B n ts)]) ∧ Below w.heap.size w w' := by
  have hm : (ts.length : Int) ≤ 9223372036854775807 := by have := hr.max; unfold maxLen at this; omega
  obtain ⟨a, pc, rfl, hpc⟩ := hr.len
  obtain ⟨N, hn⟩ : ∃ N, N = ts.length := ⟨_, rfl⟩
  rw [← hn] at hm hr hpc
  rw [← hn]
  have HN := Lib.hid hn
  clear hn
  have S0 := SB.start (D := D) (A := A) (B := B) hr 25
  have q0 := S0.q0
  have q1 := S0.q1
  have q2 := S0.q2
  have q3 := S0.q3
  cases hq : askB D A B n ts with
  | false =>
    have HC := Lib.hid (clB_no hq)
    have HQ := Lib.hid hq
    clear hq
    go_enter Try.func21, Try.ntmps21
    go_wp2_with fail
    refine (siAsked_b D A B n _ ts _ S0.rd HQ.out).mono ?_
    rintro e w1 ⟨rfl, hb1⟩
    have S1 := S0.next hb1
    go_wp2
    go_ret3
    exact ⟨ret3 (clX_no HC.out).symm (clY_no HC.out).symm HC.out.symm, S1.below⟩
  | true =>
    have HQ := Lib.hid hq
    have HB := Lib.hid (SiBn.ask hq)
    clear hq
    by_cases hz : N = 0
    · have HC := Lib.hid (clB_nil (D := D) (A := A) (B := B) (n := n) (HN.out.symm.trans hz))
      have hnz : Hid (((N : Int) == 0) = true) := Lib.hid (by simp [hz])
      clear hz
      go_enter Try.func21, Try.ntmps21
      go_wp2_with fail
      refine (siAsked_b D A B n _ ts _ S0.rd HQ.out).mono ?_
      rintro e w1 ⟨rfl, hb1⟩
      have S1 := S0.next hb1
      have q0 := S1.q0
      have q1 := S1.q1
      have q2 := S1.q2
      have q3 := S1.q3
      have hnz := hnz.out
      go_wp2
      go_ret3
      exact ⟨ret3 (clX_no HC.out).symm (clY_no HC.out).symm HC.out.symm, S1.below⟩
    · have HC := Lib.hid (clB_yes HQ.out (by rw [← HN.out]; exact hz))
      have HX := Lib.hid (clX_yes HC.out)
      have HY := Lib.hid (clY_yes HC.out)
      have HM := Lib.hid (mnT_bound HB.out (k := ts.length - 1) (by rw [← HN.out]; omega))
      have hD1 := HB.out.d1
      have hD9 := HB.out.d9
      have hNZ : 0 < N := by omega
      have hnz : ((N : Int) == 0) = false := by simp [hz]
      clear hz
      go_enter Try.func21, Try.ntmps21
      go_wp2_with fail
      refine (siAsked_b D A B n _ ts _ S0.rd HQ.out).mono ?_
      rintro e w1 ⟨rfl, hb1⟩
      have S1 := S0.next hb1
      have q0 := S1.q0
      have q1 := S1.q1
      have q2 := S1.q2
      have q3 := S1.q3
      obtain ⟨g, off, rfl, hg, x0, x1⟩ := S1.rd.at2 HN.out 0 hNZ
      simp only [Nat.zero_mul, Nat.add_zero] at x0 x1
      have C0 := siOver_g D A B n (rAt ts 0).x0 (rAt ts 0).x1 (.slice (some ⟨g, off, none⟩) N pc) w1 (HB.out.at_ (by rw [← HN.out]; exact hNZ))
      have hI : (0 : Int) < (N : Int) := by omega
      go_wp2_with fail
      have K0 := cell_regrown S1.q0
      have K1 := cell_regrown S1.q1
      have K2 := cell_regrown S1.q2
      have K3 := cell_regrown S1.q3
      have K4 := cell_regrown x0
      have K5 := cell_regrown x1
      refine wp_region_quiet_below (by kernel_rfl) (by kernel_rfl) ?_
      repeat (go_big_quiet_step (first | (with_reducible exact C0 _ _)))
      refine wpQuiet_nil ?_
      intro _ hw'
      obtain ⟨⟨dq, osq⟩, hw''⟩ := hw'
      subst hw''
      have S2 := S1.next (below_regrown w1 dq osq)
      generalize grow (redrawn w1 dq) osq = W2 at *
      clear C0 K0 K1 K2 K3 K4 K5 x0 x1 q0 q1 q2 q3 S0 S1
      have q0 := S2.q0
      have q1 := S2.q1
      have q2 := S2.q2
      have q3 := S2.q3
      go_wp2
      go_loopw [7, 32] (fun s7 t wr => ∃ k : Nat, ∃ z : Int, k ≤ N ∧ t = .int .i64 k ∧ s7 = .int .i64 z ∧ Hid (z = mnT D A B n ts (k - 1)) ∧ SB w wr D A B (some ⟨g, off, none⟩) N pc ts) (fun s7 t wr => N - (intOf t).toNat)
      case atStart => exact ⟨0, _, Nat.zero_le _, rfl, rfl, Lib.hid rfl, S2⟩
      case round =>
        clear q0 q1 q2 q3 S2
        obtain ⟨k, z, hk, rfl, rfl, hz', SK⟩ := hrel
        have hlt0 := SK.lt
        have q0 := SK.q0
        have q1 := SK.q1
        have q2 := SK.q2
        have q3 := SK.q3
        by_cases hlt : k < N
        · obtain ⟨g', off', hge, hg', x0, x1⟩ := SK.rd.at2 HN.out k hlt
          simp only [Option.some.injEq, Addr.mk.injEq, and_true] at hge
          obtain ⟨rfl, rfl⟩ := hge
          have HCB := Lib.hid (HB.out.at_ (i := k) (by rw [← HN.out]; exact hlt))
          have SA := SK.alloc (.cells #[.int .i64 (rAt ts k).x0, .int .i64 (rAt ts k).x1] 72)
          have E1 : Hid (min z (ovr D A B n ⟨(rAt ts k).x0, (rAt ts k).x1⟩) = mnT D A B n ts (k + 1 - 1)) := Lib.hid (by rw [hz'.out]; exact mnT_step k)
          go_wp2_with fail
          refine (siOver_any D A B n (rAt ts k).x0 (rAt ts k).x1 _ _ HCB.out).mono ?_
          rintro e w3 ⟨rfl, hb3⟩
          have S3 := SA.next hb3
          go_wp2_with fail
          refine (l1Least_any _ _ _).mono ?_
          rintro e w' ⟨rfl, rfl⟩
          go_wp2
          go_roundw
          case rel => exact ⟨k + 1, _, by omega, by go_num, rfl, E1, S3⟩
          case measure => simp [intOf]; omega
        · obtain rfl : k = N := by omega
          have hzM : Hid (z = clM D A B n ts) := Lib.hid (by rw [hz'.out]; unfold clM; rw [HN.out])
          have hzb : -1000000000000 ≤ z ∧ z ≤ 1000000000000 := by rw [hz'.out, HN.out]; exact HM.out
          obtain ⟨hz1, hz2⟩ := hzb
          go_wp2_with fail
          refine (siPart_any z (50968 * D) _ hz1 hz2 (by omega) (by omega)).mono ?_
          rintro e w4 ⟨rfl, hb4⟩
          have S4 := SK.next hb4
          go_wp2
          go_ret3
          exact ⟨ret3 (by rw [HX.out, hzM.out]) (by rw [HY.out, hzM.out]) HC.out.symm, S4.below⟩
end Go.Proofs.Ytkdmjeonlghnjaa
