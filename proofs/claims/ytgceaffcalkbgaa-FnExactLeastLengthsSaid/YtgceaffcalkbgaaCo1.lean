/- Chapter 4: weights, lengths, bases, powers: the checks of both sides; the flat length. -/
import Derived.Test.YtgceaffcalkbgaaBk4
namespace Go.Proofs.Ytgceaffcalkbgaa
open Go.RowKit
set_option linter.unusedSimpArgs false
set_option linter.unusedVariables false

theorem areWithin_any (v : Value) (zs : List Int) (lo hi : Int) (w : World) (hr : Rd w v zs) :
    Calls Try.prog 82 #[v, .int .i64 lo, .int .i64 hi] w fun e w' => e = .returned (.bool (allIn zs lo hi)) ∧ w = w' := by
  have hm := hr.max
  unfold maxLen at hm
  obtain ⟨a1, c1, rfl⟩ := hr.len
  obtain ⟨n, hn⟩ : ∃ n, n = zs.length := ⟨_, rfl⟩
  rw [← hn] at hm ⊢
  have HN := Lib.hid hn
  have HR := Lib.hid hr
  clear hn hr
  go_enter Try.func82, Try.ntmps82
  go_wp2
  go_loop [11] (fun i => ∃ k : Nat, k ≤ n ∧ i = .int .i64 k ∧ Hid (∀ j, j < k → inB (zs[j]?.getD 0) lo hi = true)) (fun i => n - (intOf i).toNat)
  case atStart => exact ⟨0, Nat.zero_le _, rfl, Lib.hid fun j hj => by omega⟩
  case round =>
    obtain ⟨k, hk, rfl, hall⟩ := hrel
    by_cases hlt : k < n
    · obtain ⟨g1, o1, rfl, hg1, q⟩ := HR.out.at_ (by rw [← HN.out]) k (by rw [← HN.out]; exact hlt)
      by_cases hb : lo ≤ zs[k]?.getD 0 ∧ zs[k]?.getD 0 ≤ hi
      · obtain ⟨b0, b1⟩ := hb
        have hall' : Hid (∀ j, j < k + 1 → inB (zs[j]?.getD 0) lo hi = true) := Lib.hid fun j hj => by
          by_cases e : j = k
          · rw [e]; exact inB_yes b0 b1
          · exact hall.out j (by omega)
        go_wp2
        go_round
        case rel => exact ⟨k + 1, by omega, by go_num, hall'⟩
        case measure => simp [intOf]; omega
      · have hf := Lib.hid (allIn_false zs lo hi k (by rw [← HN.out]; exact hlt) (inB_no (by omega)))
        by_cases b0 : zs[k]?.getD 0 < lo
        · clear hb
          go_wp2
          go_ret
          exact ⟨ret_bool hf.out.symm, rfl⟩
        · have b1 : hi < zs[k]?.getD 0 := by omega
          clear hb
          go_wp2
          go_ret
          exact ⟨ret_bool hf.out.symm, rfl⟩
    · have hf := Lib.hid (allIn_true zs lo hi fun j hj => hall.out j (by have := HN.out; omega))
      go_wp2
      go_ret
      exact ⟨ret_bool hf.out.symm, rfl⟩

/-- Weights. -/
def wtB (zs : List Int) : Bool := decide (1 ≤ zs.length) && decide (zs.length ≤ 20) && allIn zs 0 10000
/-- Lengths. -/
def lgB (zs : List Int) : Bool := decide (1 ≤ zs.length) && decide (zs.length ≤ 20) && allIn zs 1 6
def baB (r : Int) : Bool := inB r 2 60
theorem wtB_len {zs : List Int} (h : wtB zs = true) : 1 ≤ zs.length ∧ zs.length ≤ 20 := by simp [wtB] at h; exact h.1
theorem lgB_len {zs : List Int} (h : lgB zs = true) : 1 ≤ zs.length ∧ zs.length ≤ 20 := by simp [lgB] at h; exact h.1
theorem wtB_get {zs : List Int} (h : wtB zs = true) (i : Nat) (hi : i < zs.length) : 0 ≤ zs[i]?.getD 0 ∧ zs[i]?.getD 0 ≤ 10000 := by
  simp only [wtB, Bool.and_eq_true] at h; exact allIn_get h.2 i hi
theorem lgB_get {zs : List Int} (h : lgB zs = true) (i : Nat) (hi : i < zs.length) : 1 ≤ zs[i]?.getD 0 ∧ zs[i]?.getD 0 ≤ 6 := by
  simp only [lgB, Bool.and_eq_true] at h; exact allIn_get h.2 i hi

theorem cmWeights_any (v : Value) (zs : List Int) (w : World) (hr : Rd w v zs) :
    Calls Try.prog 66 #[v] w fun e w' => e = .returned (.bool (wtB zs)) ∧ w = w' := by
  have hm := hr.max
  unfold maxLen at hm
  obtain ⟨a, cap, hv⟩ := hr.len
  have HR := Lib.hid hr
  clear hr
  subst hv
  cases h : inB (zs.length : Int) 1 20 with
  | true =>
    have h' := inB_iff.1 h
    have hf : Hid (wtB zs = allIn zs 0 10000) := Lib.hid (by simp [wtB]; intro _; omega)
    go_enter Try.func66, Try.ntmps66
    go_wp2_with (first
      | (go_at_call 69; refine (l1In_any _ _ _ _).mono ?_; rintro e w' ⟨rfl, rfl⟩)
      | (go_at_call 84; refine (l1All_any _ zs 0 10000 _ HR.out).mono ?_; rintro e w' ⟨rfl, rfl⟩))
    go_ret
    exact ⟨ret_bool hf.out.symm, rfl⟩
  | false =>
    have h' : ¬ (1 ≤ (zs.length : Int) ∧ (zs.length : Int) ≤ 20) := fun h2 => by rw [inB_iff.2 h2] at h; cases h
    have hf : Hid (wtB zs = false) := Lib.hid (by simp [wtB]; intro h1 h2; exfalso; apply h'; constructor <;> omega)
    go_enter Try.func66, Try.ntmps66
    go_wp2_with (first
      | (go_at_call 69; refine (l1In_any _ _ _ _).mono ?_; rintro e w' ⟨rfl, rfl⟩))
    go_ret
    exact ⟨ret_bool hf.out.symm, rfl⟩
theorem cmGood_any (v : Value) (zs : List Int) (w : World) (hr : Rd w v zs) :
    Calls Try.prog 67 #[v] w fun e w' => e = .returned (.bool (lgB zs)) ∧ w = w' := by
  have hm := hr.max
  unfold maxLen at hm
  obtain ⟨a, cap, hv⟩ := hr.len
  have HR := Lib.hid hr
  clear hr
  subst hv
  cases h : inB (zs.length : Int) 1 20 with
  | true =>
    have h' := inB_iff.1 h
    have hf : Hid (lgB zs = allIn zs 1 6) := Lib.hid (by simp [lgB]; intro _; omega)
    go_enter Try.func67, Try.ntmps67
    go_wp2_with (first
      | (go_at_call 69; refine (l1In_any _ _ _ _).mono ?_; rintro e w' ⟨rfl, rfl⟩)
      | (go_at_call 84; refine (l1All_any _ zs 1 6 _ HR.out).mono ?_; rintro e w' ⟨rfl, rfl⟩))
    go_ret
    exact ⟨ret_bool hf.out.symm, rfl⟩
  | false =>
    have h' : ¬ (1 ≤ (zs.length : Int) ∧ (zs.length : Int) ≤ 20) := fun h2 => by rw [inB_iff.2 h2] at h; cases h
    have hf : Hid (lgB zs = false) := Lib.hid (by simp [lgB]; intro h1 h2; exfalso; apply h'; constructor <;> omega)
    go_enter Try.func67, Try.ntmps67
    go_wp2_with (first
      | (go_at_call 69; refine (l1In_any _ _ _ _).mono ?_; rintro e w' ⟨rfl, rfl⟩))
    go_ret
    exact ⟨ret_bool hf.out.symm, rfl⟩
theorem cmBase_any (r : Int) (w : World) : Calls Try.prog 70 #[.int .i64 r] w fun e w' => e = .returned (.bool (baB r)) ∧ w = w' := by
  go_enter Try.func70, Try.ntmps70
  go_wp2_with (go_at_call 69; refine (l1In_any _ _ _ _).mono ?_; rintro e w' ⟨rfl, rfl⟩)
  go_ret
  exact ⟨rfl, rfl⟩

theorem areWeights_any (v : Value) (zs : List Int) (w : World) (hr : Rd w v zs) :
    Calls Try.prog 52 #[v] w fun e w' => e = .returned (.bool (wtB zs)) ∧ w = w' := by
  have hm := hr.max
  unfold maxLen at hm
  obtain ⟨a, cap, hv⟩ := hr.len
  have HR := Lib.hid hr
  clear hr
  subst hv
  by_cases h1 : 1 ≤ (zs.length : Int)
  · by_cases h2 : (zs.length : Int) ≤ 20
    · have hf : Hid (wtB zs = allIn zs 0 10000) := Lib.hid (by simp [wtB]; intro _; omega)
      go_enter Try.func52, Try.ntmps52
      go_wp2_with (go_at_call 82; refine (areWithin_any _ zs 0 10000 _ HR.out).mono ?_; rintro e w' ⟨rfl, rfl⟩)
      go_ret
      exact ⟨ret_bool hf.out.symm, rfl⟩
    · have hf : Hid (wtB zs = false) := Lib.hid (by simp [wtB]; intro h1 h2; exfalso; omega)
      go_enter Try.func52, Try.ntmps52
      go_wp2
      go_ret
      exact ⟨ret_bool hf.out.symm, rfl⟩
  · have hf : Hid (wtB zs = false) := Lib.hid (by simp [wtB]; intro h1 h2; exfalso; omega)
    go_enter Try.func52, Try.ntmps52
    go_wp2
    go_ret
    exact ⟨ret_bool hf.out.symm, rfl⟩
theorem areLengths_any (v : Value) (zs : List Int) (w : World) (hr : Rd w v zs) :
    Calls Try.prog 65 #[v] w fun e w' => e = .returned (.bool (lgB zs)) ∧ w = w' := by
  have hm := hr.max
  unfold maxLen at hm
  obtain ⟨a, cap, hv⟩ := hr.len
  have HR := Lib.hid hr
  clear hr
  subst hv
  by_cases h1 : 1 ≤ (zs.length : Int)
  · by_cases h2 : (zs.length : Int) ≤ 20
    · have hf : Hid (lgB zs = allIn zs 1 6) := Lib.hid (by simp [lgB]; intro _; omega)
      go_enter Try.func65, Try.ntmps65
      go_wp2_with (go_at_call 82; refine (areWithin_any _ zs 1 6 _ HR.out).mono ?_; rintro e w' ⟨rfl, rfl⟩)
      go_ret
      exact ⟨ret_bool hf.out.symm, rfl⟩
    · have hf : Hid (lgB zs = false) := Lib.hid (by simp [lgB]; intro h1 h2; exfalso; omega)
      go_enter Try.func65, Try.ntmps65
      go_wp2
      go_ret
      exact ⟨ret_bool hf.out.symm, rfl⟩
  · have hf : Hid (lgB zs = false) := Lib.hid (by simp [lgB]; intro h1 h2; exfalso; omega)
    go_enter Try.func65, Try.ntmps65
    go_wp2
    go_ret
    exact ⟨ret_bool hf.out.symm, rfl⟩
theorem isBase_any (r : Int) (w : World) : Calls Try.prog 53 #[.int .i64 r] w fun e w' => e = .returned (.bool (baB r)) ∧ w = w' := by
  by_cases h0 : 2 ≤ r
  · go_enter Try.func53, Try.ntmps53
    go_wp2
    go_ret
    exact ⟨ret_bool (by unfold baB inB; simp; try omega), rfl⟩
  · go_enter Try.func53, Try.ntmps53
    go_wp2
    go_ret
    exact ⟨ret_bool (by unfold baB inB; simp; try omega), rfl⟩
def liB (l : Int) : Bool := inB l 1 6
theorem isLimit_any (r : Int) (w : World) : Calls Try.prog 54 #[.int .i64 r] w fun e w' => e = .returned (.bool (liB r)) ∧ w = w' := by
  by_cases h0 : 1 ≤ r
  · go_enter Try.func54, Try.ntmps54
    go_wp2
    go_ret
    exact ⟨ret_bool (by unfold liB inB; simp; try omega), rfl⟩
  · go_enter Try.func54, Try.ntmps54
    go_wp2
    go_ret
    exact ⟨ret_bool (by unfold liB inB; simp; try omega), rfl⟩

/-! ### Powers -/
def pw (r : Int) : Nat → Int
  | 0 => 1
  | k + 1 => pw r k * r
theorem pw_zero (r : Int) : pw r 0 = 1 := rfl
theorem pw_succ (r : Int) (k : Nat) : pw r (k + 1) = pw r k * r := rfl
theorem pw_pos {r : Int} (h : 2 ≤ r) (k : Nat) : 1 ≤ pw r k := by
  induction k with
  | zero => exact Int.le_refl _
  | succ k ih =>
    rw [pw_succ]
    have : 1 * 1 ≤ pw r k * r := Int.mul_le_mul ih (by omega) (by decide) (by omega)
    omega
theorem pw_step {r : Int} (h : 2 ≤ r) (k : Nat) : 2 * pw r k ≤ pw r (k + 1) := by
  rw [pw_succ, Int.mul_comm 2]
  exact Int.mul_le_mul_of_nonneg_left h (by have := pw_pos h k; omega)
theorem pw_mono {r : Int} (h : 2 ≤ r) {j k : Nat} (hjk : j ≤ k) : pw r j ≤ pw r k := by
  induction k with
  | zero => obtain rfl : j = 0 := by omega
            exact Int.le_refl _
  | succ m ih =>
    by_cases e : j = m + 1
    · rw [e]; exact Int.le_refl _
    · have := ih (by omega)
      have := pw_step h m
      have := pw_pos h m
      omega
theorem pw_top {r : Int} (h : 2 ≤ r) (h' : r ≤ 60) (k : Nat) : pw r k ≤ pw 60 k := by
  induction k with
  | zero => exact Int.le_refl _
  | succ k ih =>
    rw [pw_succ, pw_succ]
    exact Int.mul_le_mul ih h' (by omega) (by have := pw_pos (r := 60) (by decide) k; omega)
theorem pw_bd {r : Int} (h : 2 ≤ r) (h' : r ≤ 60) {k : Nat} (hk : k ≤ 6) : 1 ≤ pw r k ∧ pw r k ≤ 46656000000 := by
  refine ⟨pw_pos h k, Int.le_trans (pw_top h h' k) (Int.le_trans (pw_mono (by decide) hk) (by decide))⟩

theorem power_any (r : Int) (n : Nat) (w : World) (h : 2 ≤ r) (h' : r ≤ 60) (hn : n ≤ 6) :
    Calls Try.prog 68 #[.int .i64 r, .int .i64 n] w fun e w' => e = .returned (.int .i64 (pw r n)) ∧ w = w' := by
  go_enter Try.func68, Try.ntmps68
  go_wp2
  go_loop [5, 7] (fun t i => ∃ k : Nat, k ≤ n ∧ i = .int .i64 k ∧ t = .int .i64 (pw r k)) (fun t i => n - (intOf i).toNat)
  case atStart => exact ⟨0, Nat.zero_le _, rfl, rfl⟩
  case round =>
    obtain ⟨k, hk, rfl, rfl⟩ := hrel
    by_cases hlt : k < n
    · have hb := pw_bd h h' (k := k + 1) (by omega)
      have hs := pw_succ r k
      rw [hs] at hb
      have HS := Lib.hid hs
      clear hs
      go_wp2
      go_round
      case rel => exact ⟨k + 1, by omega, by go_num, by rw [HS.out]⟩
      case measure => simp [intOf]; omega
    · have : k = n := by omega
      subst this
      go_wp2
      go_ret
      exact ⟨rfl, rfl⟩
theorem cmPower_any (r : Int) (n : Nat) (w : World) (h : 2 ≤ r) (h' : r ≤ 60) (hn : n ≤ 6) :
    Calls Try.prog 71 #[.int .i64 r, .int .i64 n] w fun e w' => e = .returned (.int .i64 (pw r n)) ∧ w = w' := by
  go_enter Try.func71, Try.ntmps71
  go_wp2
  go_loop [1, 5] (fun i t => ∃ k : Nat, k ≤ n ∧ i = .int .i64 ((n - k : Nat) : Int) ∧ t = .int .i64 (pw r k)) (fun i t => (intOf i).toNat)
  case atStart => exact ⟨0, Nat.zero_le _, rfl, rfl⟩
  case round =>
    obtain ⟨k, hk, rfl, rfl⟩ := hrel
    by_cases hlt : k < n
    · have hb := pw_bd h h' (k := k + 1) (by omega)
      have hs := pw_succ r k
      rw [hs] at hb
      have HS := Lib.hid hs
      have hm : ((n - k : Nat) : Int) - 1 = ((n - (k + 1) : Nat) : Int) := by omega
      have hp : 0 < ((n - k : Nat) : Int) := by omega
      have HM := Lib.hid hm
      obtain ⟨m, hme⟩ : ∃ m : Int, m = ((n - k : Nat) : Int) := ⟨_, rfl⟩
      have hm1 : m ≤ 6 := by omega
      rw [← hme] at hp HM ⊢
      have HE := Lib.hid hme
      clear hs hm hme
      go_wp2
      go_round
      case rel => exact ⟨k + 1, by omega, by rw [HM.out], by rw [HS.out]⟩
      case measure => simp [intOf]; omega
    · have : k = n := by omega
      subst this
      have hz : ((k - k : Nat) : Int) = 0 := by omega
      rw [hz]
      go_wp2
      go_ret
      exact ⟨rfl, rfl⟩

/-! ### The flat length -/
/-- The least length from 1 on with which the power is no less. -/
def flatL (n r : Int) : Nat := if n ≤ r then 1 else if n ≤ pw r 2 then 2 else if n ≤ pw r 3 then 3 else if n ≤ pw r 4 then 4 else 5
def fcB (n r : Int) : Bool := inB n 1 20 && baB r
theorem flatL_spec {n r : Int} (h1 : 1 ≤ n) (h2 : n ≤ 20) (hr : 2 ≤ r) : n ≤ pw r (flatL n r) ∧ 1 ≤ flatL n r ∧ flatL n r ≤ 5 ∧ ∀ k, 1 ≤ k → k < flatL n r → pw r k < n := by
  have p1 : pw r 1 = r := by simp [pw]
  have p5 : 20 ≤ pw r 5 := by
    have := pw_step hr 0; have := pw_step hr 1; have := pw_step hr 2; have := pw_step hr 3; have := pw_step hr 4
    have := pw_zero r
    simp only [Nat.zero_add, Nat.reduceAdd] at *
    omega
  have key : ∀ (f : Nat), flatL n r = f → n ≤ pw r f ∧ 1 ≤ f ∧ f ≤ 5 ∧ ∀ k, 1 ≤ k → k < f → pw r k < n := by
    intro f hf
    unfold flatL at hf
    split at hf
    · next h => subst hf; exact ⟨by omega, by omega, by omega, fun k a b => by omega⟩
    · split at hf
      · next h h' => subst hf; exact ⟨by omega, by omega, by omega, fun k a b => by have e : k = 1 := (by omega); subst e; omega⟩
      · split at hf
        · next h h' h'' =>
          subst hf
          refine ⟨by omega, by omega, by omega, fun k a b => ?_⟩
          have : k = 1 ∨ k = 2 := by omega
          rcases this with rfl | rfl <;> omega
        · split at hf
          · next h h' h'' h3 =>
            subst hf
            refine ⟨by omega, by omega, by omega, fun k a b => ?_⟩
            have : k = 1 ∨ k = 2 ∨ k = 3 := by omega
            rcases this with rfl | rfl | rfl <;> omega
          · next h h' h'' h3 =>
            subst hf
            refine ⟨by omega, by omega, by omega, fun k a b => ?_⟩
            have : k = 1 ∨ k = 2 ∨ k = 3 ∨ k = 4 := by omega
            rcases this with rfl | rfl | rfl | rfl <;> omega
  exact key _ rfl
theorem flatL_eq {n r : Int} {f : Nat} (h1 : 1 ≤ n) (h2 : n ≤ 20) (hr : 2 ≤ r) (hf : 1 ≤ f) (hge : n ≤ pw r f) (hlt : ∀ k, 1 ≤ k → k < f → pw r k < n) : flatL n r = f := by
  obtain ⟨a, b, c, d⟩ := flatL_spec h1 h2 hr
  rcases Nat.lt_trichotomy (flatL n r) f with h | h | h
  · have := hlt _ b h; omega
  · exact h
  · have := d _ hf h; omega

theorem implFlat_yes (n r : Int) (w : World) (h : fcB n r = true) :
    Calls Try.prog 23 #[.int .i64 n, .int .i64 r] w fun e w' => e = .returned (.tuple #[.int .i64 (flatL n r), .bool true]) ∧ w = w' := by
  obtain ⟨hn, hb⟩ := Bool.and_eq_true_iff.1 h
  obtain ⟨n1, n2⟩ := inB_iff.1 hn
  obtain ⟨r1, r2⟩ := inB_iff.1 hb
  clear h hn
  have HF := Lib.hid (fun f => flatL_eq (f := f) n1 n2 r1)
  have p5 : 20 ≤ pw r 5 := by
    have := pw_step r1 0; have := pw_step r1 1; have := pw_step r1 2; have := pw_step r1 3; have := pw_step r1 4
    have := pw_zero r
    simp only [Nat.zero_add, Nat.reduceAdd] at *
    omega
  have P5 := Lib.hid p5
  clear p5
  go_enter Try.func23, Try.ntmps23
  go_wp2_with (go_at_call 53; refine (isBase_any _ _).mono ?_; rintro e w' ⟨rfl, rfl⟩)
  go_loop [6] (fun i => ∃ f : Nat, 1 ≤ f ∧ f ≤ 5 ∧ i = .int .i64 f ∧ Hid (∀ k, 1 ≤ k → k < f → pw r k < n)) (fun i => 6 - (intOf i).toNat)
  case atStart => exact ⟨1, by decide, by decide, rfl, Lib.hid fun k a b => by omega⟩
  case round =>
    obtain ⟨f, hf1, hf5, rfl, hall⟩ := hrel
    have hpb := pw_bd r1 r2 (k := f) (by omega)
    by_cases hlt : pw r f < n
    · have hf4 : f < 5 := by
        rcases Nat.lt_or_ge f 5 with h | h
        · exact h
        · obtain rfl : f = 5 := by omega
          have := P5.out; omega
      have hall' : Hid (∀ k, 1 ≤ k → k < f + 1 → pw r k < n) := Lib.hid fun k a b => by
        by_cases e : k = f
        · rw [e]; exact hlt
        · exact hall.out k a (by omega)
      go_wp2_with (go_at_call 68; refine (power_any _ _ _ r1 r2 (by omega)).mono ?_; rintro e w' ⟨rfl, rfl⟩)
      go_round
      case rel => exact ⟨f + 1, by omega, by omega, by go_num, hall'⟩
      case measure => simp [intOf]; omega
    · have hE := Lib.hid (HF.out f hf1 (by omega) hall.out)
      go_wp2_with (go_at_call 68; refine (power_any _ _ _ r1 r2 (by omega)).mono ?_; rintro e w' ⟨rfl, rfl⟩)
      go_ret2
      exact ⟨by rw [hE.out]; rfl, rfl⟩
theorem implFlat_no (n r : Int) (w : World) (h : fcB n r = false) :
    Calls Try.prog 23 #[.int .i64 n, .int .i64 r] w fun e w' => e = .returned (.tuple #[.int .i64 0, .bool false]) ∧ w = w' := by
  by_cases h1 : n < 1
  · clear h
    go_enter Try.func23, Try.ntmps23
    go_wp2
    go_ret2
    exact ⟨rfl, rfl⟩
  · by_cases h2 : n > 20
    · clear h
      go_enter Try.func23, Try.ntmps23
      go_wp2
      go_ret2
      exact ⟨rfl, rfl⟩
    · have hb : baB r = false := by
        unfold fcB at h
        rw [inB_yes (by omega) (by omega)] at h
        simpa using h
      clear h
      go_enter Try.func23, Try.ntmps23
      go_wp2_with (go_at_call 53; refine (isBase_any _ _).mono ?_; rintro e w' ⟨rfl, rfl⟩)
      go_ret2
      exact ⟨rfl, rfl⟩
theorem specFlat_yes (n r : Int) (w : World) (h : fcB n r = true) :
    Calls Try.prog 24 #[.int .i64 n, .int .i64 r] w fun e w' => e = .returned (.tuple #[.int .i64 (flatL n r), .bool true]) ∧ w = w' := by
  obtain ⟨hn, hb⟩ := Bool.and_eq_true_iff.1 h
  obtain ⟨n1, n2⟩ := inB_iff.1 hn
  obtain ⟨r1, r2⟩ := inB_iff.1 hb
  clear h
  have HF := Lib.hid (fun f => flatL_eq (f := f) n1 n2 r1)
  have p5 : 20 ≤ pw r 5 := by
    have := pw_step r1 0; have := pw_step r1 1; have := pw_step r1 2; have := pw_step r1 3; have := pw_step r1 4
    have := pw_zero r
    simp only [Nat.zero_add, Nat.reduceAdd] at *
    omega
  have P5 := Lib.hid p5
  clear p5
  go_enter Try.func24, Try.ntmps24
  go_wp2_with (first
    | (go_at_call 69; refine (l1In_any _ _ _ _).mono ?_; rintro e w' ⟨rfl, rfl⟩)
    | (go_at_call 70; refine (cmBase_any _ _).mono ?_; rintro e w' ⟨rfl, rfl⟩))
  go_loop [6] (fun i => ∃ f : Nat, 1 ≤ f ∧ f ≤ 5 ∧ i = .int .i64 f ∧ Hid (∀ k, 1 ≤ k → k < f → pw r k < n)) (fun i => 6 - (intOf i).toNat)
  case atStart => exact ⟨1, by decide, by decide, rfl, Lib.hid fun k a b => by omega⟩
  case round =>
    obtain ⟨f, hf1, hf5, rfl, hall⟩ := hrel
    have hpb := pw_bd r1 r2 (k := f) (by omega)
    by_cases hlt : pw r f < n
    · have hf4 : f < 5 := by
        rcases Nat.lt_or_ge f 5 with h | h
        · exact h
        · obtain rfl : f = 5 := by omega
          have := P5.out; omega
      have hall' : Hid (∀ k, 1 ≤ k → k < f + 1 → pw r k < n) := Lib.hid fun k a b => by
        by_cases e : k = f
        · rw [e]; exact hlt
        · exact hall.out k a (by omega)
      go_wp2_with (go_at_call 71; refine (cmPower_any _ _ _ r1 r2 (by omega)).mono ?_; rintro e w' ⟨rfl, rfl⟩)
      go_round
      case rel => exact ⟨f + 1, by omega, by omega, by go_num, hall'⟩
      case measure => simp [intOf]; omega
    · have hE := Lib.hid (HF.out f hf1 (by omega) hall.out)
      go_wp2_with (go_at_call 71; refine (cmPower_any _ _ _ r1 r2 (by omega)).mono ?_; rintro e w' ⟨rfl, rfl⟩)
      go_ret2
      exact ⟨by rw [hE.out]; rfl, rfl⟩
theorem specFlat_no (n r : Int) (w : World) (h : fcB n r = false) :
    Calls Try.prog 24 #[.int .i64 n, .int .i64 r] w fun e w' => e = .returned (.tuple #[.int .i64 0, .bool false]) ∧ w = w' := by
  cases h1 : inB n 1 20 with
  | false =>
    clear h
    go_enter Try.func24, Try.ntmps24
    go_wp2_with (first
      | (go_at_call 69; refine (l1In_any _ _ _ _).mono ?_; rintro e w' ⟨rfl, rfl⟩))
    go_ret2
    exact ⟨rfl, rfl⟩
  | true =>
    have hb : baB r = false := by
      unfold fcB at h
      rw [h1] at h
      simpa using h
    clear h
    go_enter Try.func24, Try.ntmps24
    go_wp2_with (first
      | (go_at_call 69; refine (l1In_any _ _ _ _).mono ?_; rintro e w' ⟨rfl, rfl⟩)
      | (go_at_call 70; refine (cmBase_any _ _).mono ?_; rintro e w' ⟨rfl, rfl⟩))
    go_ret2
    exact ⟨rfl, rfl⟩
end Go.Proofs.Ytgceaffcalkbgaa
