/- Chapter 2: which signals begin others; the first prefix. -/
import Derived.Test.YtpogpehbkgjiaaaBk9
namespace Go.Proofs.Ytpogpehbkgjiaaa
open Go.RowKit
set_option linter.unusedSimpArgs false
set_option linter.unusedVariables false

theorem RdC.take {w : World} {a : Option Addr} {n cap : Nat} {zs : List Int} (h : RdC w (.slice a n cap) zs) (k : Nat) (hk : k ≤ n) : RdC w (.slice a k cap) (zs.take k) := by
  obtain ⟨h, a', cap', hv, hc⟩ := h
  simp only [Value.slice.injEq] at hv
  obtain ⟨rfl, rfl, rfl⟩ := hv
  have hlen : (zs.take k).length = k := by simp; omega
  refine ⟨?_, a, cap, by rw [hlen], by omega⟩
  rcases h with ⟨rfl, a', cap', hv, hn⟩ | ⟨g, off, cap', hv, hg, hm, hcell⟩
  · obtain rfl : k = 0 := by simpa using hk
    simp only [Value.slice.injEq] at hv
    obtain ⟨rfl, -, rfl⟩ := hv
    exact .inl ⟨by simp, _, _, rfl, hn⟩
  · simp only [Value.slice.injEq] at hv
    obtain ⟨rfl, -, rfl⟩ := hv
    refine .inr ⟨g, off, cap, by rw [hlen], hg, by omega, fun i hi => ?_⟩
    rw [hlen] at hi
    rw [List.getElem?_take, if_pos hi]
    exact hcell i (by omega)
theorem RdC.drop {w : World} {g off n cap : Nat} {zs : List Int} (h : RdC w (.slice (some ⟨g, off, none⟩) n cap) zs) (k : Nat) (hk : k < n) : RdC w (.slice (some ⟨g, off + k, none⟩) (n - k) (cap - k)) (zs.drop k) := by
  obtain ⟨h, a', cap', hv, hc⟩ := h
  simp only [Value.slice.injEq] at hv
  obtain ⟨rfl, rfl, rfl⟩ := hv
  have hlen : (zs.drop k).length = zs.length - k := by simp
  refine ⟨?_, _, cap - k, by rw [hlen], by omega⟩
  rcases h with ⟨rfl, -⟩ | ⟨g', off', cap', hv, hg, hm, hcell⟩
  · simp at hk
  · simp only [Value.slice.injEq, Option.some.injEq, Addr.mk.injEq, and_true] at hv
    obtain ⟨⟨rfl, rfl⟩, -, rfl⟩ := hv
    refine .inr ⟨g, off + k, cap - k, by rw [hlen], hg, by omega, fun i hi => ?_⟩
    rw [hlen] at hi
    rw [List.getElem?_drop, Nat.add_assoc]
    exact hcell (k + i) (by omega)
theorem RdC.nil (w : World) : RdC w (.slice none 0 0) [] := ⟨.inl ⟨rfl, _, _, rfl, fun _ => rfl⟩, _, _, rfl, Nat.le_refl _⟩
theorem RdC.drewN {w : World} {v : Value} {zs : List Int} (h : RdC w v zs) (n : Nat) : RdC (w.drewN n) v zs := h.later (below_drewN (Below.refl _ _) n)
theorem RdC.some_ {w : World} {a : Option Addr} {n cap : Nat} {zs : List Int} (h : RdC w (.slice a n cap) zs) (hn : 0 < n) : ∃ g off, a = some ⟨g, off, none⟩ := by
  obtain ⟨h, a', cap', hv, hc⟩ := h
  simp only [Value.slice.injEq] at hv
  obtain ⟨rfl, rfl, rfl⟩ := hv
  rcases h with ⟨rfl, -⟩ | ⟨g', off', cap', hv, -⟩
  · simp at hn
  · simp only [Value.slice.injEq] at hv
    exact ⟨_, _, hv.1⟩

/-- a begins b. -/
def begsB (a b : List Int) : Bool := decide (a.length ≤ b.length) && sameB a (b.take a.length)
theorem begsB_long {a b : List Int} (h : ¬ a.length ≤ b.length) : begsB a b = false := by simp [begsB, h]
theorem begsB_short {a b : List Int} (h : a.length ≤ b.length) : begsB a b = sameB a (b.take a.length) := by simp [begsB, h]
theorem begsB_self (a : List Int) : begsB a a = true := by simp [begsB, sameB]
theorem begsB_eq {a b : List Int} (h : begsB a b = true) (hl : a.length = b.length) : a = b := by
  simp [begsB, sameB] at h
  rw [hl] at h
  simpa using h.2

theorem bkBegins_any (v1 v2 : Value) (xs ys : List Int) (w : World) (h1 : RdC w v1 xs) (h2 : RdC w v2 ys) :
    Calls Try.prog 94 #[v1, v2] w fun e w' => e = .returned (.bool (begsB xs ys)) ∧ ∃ n, w' = w.drewN n := by
  have m1 := h1.rd.max
  have m2 := h2.rd.max
  unfold maxLen at m1 m2
  have h1' := h1
  have h2' := h2
  obtain ⟨-, a1, c1, rfl, l1⟩ := h1
  obtain ⟨-, a2, c2, rfl, l2⟩ := h2
  by_cases hle : xs.length ≤ ys.length
  · have hf := Lib.hid (begsB_short hle)
    have ht := h2'.take xs.length hle
    have hle2 : xs.length ≤ c2 := by omega
    go_enter Try.func94, Try.ntmps94
    go_wp2_with fail
    refine (l1Same_any _ _ xs (ys.take xs.length) _ h1'.rd ht.rd).mono ?_
    rintro e w1 ⟨rfl, n, rfl⟩
    go_wp2
    go_ret
    exact ⟨ret_bool hf.out.symm, n, rfl⟩
  · have hf := Lib.hid (begsB_long hle)
    go_enter Try.func94, Try.ntmps94
    go_wp2
    go_ret
    exact ⟨ret_bool hf.out.symm, 0, rfl⟩

/-- Which of two begins the other: 0 none, 1 the first, 2 the second, 3 both; and what is behind. -/
def kindOf (a b : List Int) : Int := if begsB a b then (if a.length = b.length then 3 else 1) else if begsB b a then 2 else 0
def restOf (a b : List Int) : List Int := if begsB a b then b.drop a.length else if begsB b a then a.drop b.length else []
def WhichPost (a b : List Int) (w : World) (e : Ending) (w' : World) : Prop := ∃ v, e = .returned (.tuple #[.int .i64 (kindOf a b), v]) ∧ RdC w' v (restOf a b) ∧ ∃ n, w' = w.drewN n
theorem min_take (a b : List Int) : sameB (a.take (min a.length b.length)) (b.take (min a.length b.length)) = (begsB a b || begsB b a) := by
  by_cases h : a.length ≤ b.length
  · rw [Nat.min_eq_left h, List.take_length, begsB_short h]
    by_cases h2 : b.length ≤ a.length
    · have e : a.length = b.length := Nat.le_antisymm h h2
      rw [begsB_short h2, e, List.take_length, ← e, List.take_length, Bool.eq_iff_iff]
      simp [sameB]
      exact fun h => h.symm
    · rw [begsB_long h2, Bool.or_false]
  · have h2 : b.length ≤ a.length := by omega
    rw [Nat.min_eq_right h2, List.take_length, begsB_long h, begsB_short h2, Bool.false_or, Bool.eq_iff_iff]
    simp [sameB]
    exact ⟨fun h => h.symm, fun h => h.symm⟩

set_option maxHeartbeats 800000 in
theorem whichBegins_any (v1 v2 : Value) (xs ys : List Int) (w : World) (h1 : RdC w v1 xs) (h2 : RdC w v2 ys) :
    Calls Try.prog 96 #[v1, v2] w (WhichPost xs ys w) := by
  have m1 := h1.rd.max
  have m2 := h2.rd.max
  unfold maxLen at m1 m2
  have h1' := h1
  have h2' := h2
  obtain ⟨-, a1, c1, rfl, l1⟩ := h1
  obtain ⟨-, a2, c2, rfl, l2⟩ := h2
  obtain ⟨n1, hn1⟩ : ∃ n, n = xs.length := ⟨_, rfl⟩
  obtain ⟨n2, hn2⟩ : ∃ n, n = ys.length := ⟨_, rfl⟩
  have HM := Lib.hid (min_take xs ys)
  have R1 : ∀ k, k ≤ n1 → RdC w (.slice a1 k c1) (xs.take k) := fun k hk => h1'.take k (by rw [← hn1]; exact hk)
  have R2 : ∀ k, k ≤ n2 → RdC w (.slice a2 k c2) (ys.take k) := fun k hk => h2'.take k (by rw [← hn2]; exact hk)
  have H1 := Lib.hid h1'
  have H2 := Lib.hid h2'
  have R1' := Lib.hid R1
  have R2' := Lib.hid R2
  have N1 := Lib.hid hn1
  have N2 := Lib.hid hn2
  rw [← hn1] at m1 l1 ⊢
  rw [← hn2] at m2 l2 ⊢
  clear h1' h2' hn1 hn2 R1 R2
  rcases Nat.lt_trichotomy n1 n2 with hlt | heq | hgt
  · have hk1 : n1 ≤ c1 := l1
    have hk2 : n1 ≤ c2 := by omega
    have hk3 : ¬ c2 = n1 := by omega
    have hmin : min (n1 : Int) (n2 : Int) = (n1 : Int) := by omega
    obtain ⟨g, off, rfl⟩ := H2.out.some_ (by rw [← N2.out]; omega)
    have hs1 : Hid (begsB xs ys = sameB (xs.take n1) (ys.take n1)) := Lib.hid (by rw [begsB_short (by rw [← N1.out, ← N2.out]; omega), N1.out, List.take_length])
    have hs2 : Hid (begsB ys xs = false) := Lib.hid (begsB_long (by rw [← N1.out, ← N2.out]; omega))
    cases hb : sameB (xs.take n1) (ys.take n1) with
    | true =>
      have hk : Hid (kindOf xs ys = 1) := Lib.hid (by unfold kindOf; rw [hs1.out, hb, if_pos rfl, if_neg (by rw [← N1.out, ← N2.out]; omega)])
      have hre : Hid (restOf xs ys = ys.drop n1) := Lib.hid (by unfold restOf; rw [hs1.out, hb, if_pos rfl, N1.out])
      have RD : Hid (RdC w (.slice (some ⟨g, off + n1, none⟩) (n2 - n1) (c2 - n1)) (ys.drop n1)) := Lib.hid (by have := H2.out; rw [← N2.out] at this; exact this.drop n1 hlt)
      go_enter Try.func96, Try.ntmps96
      go_wp2
      go_quiet ((go_at_call 105; exact Calls.quiet_of (slEqual_any _ _ (xs.take n1) (ys.take n1) _ ((R1'.out n1 (by omega)).drewN _).rd ((R2'.out n1 (by omega)).drewN _).rd)))
      go_wp2
      go_quiet (fail)
      go_wp2
      go_ret2
      exact ⟨_, by rw [hk.out]; rfl, by rw [hre.out]; exact (RD.out.drewN _).drewN _, _, World.drewN_drewN _ _ _⟩
    | false =>
      have hk : Hid (kindOf xs ys = 0) := Lib.hid (by unfold kindOf; rw [hs1.out, hs2.out]; simp [hb])
      have hre : Hid (restOf xs ys = []) := Lib.hid (by unfold restOf; rw [hs1.out, hs2.out]; simp [hb])
      go_enter Try.func96, Try.ntmps96
      go_wp2
      go_quiet ((go_at_call 105; exact Calls.quiet_of (slEqual_any _ _ (xs.take n1) (ys.take n1) _ ((R1'.out n1 (by omega)).drewN _).rd ((R2'.out n1 (by omega)).drewN _).rd)))
      go_wp2
      go_ret2
      exact ⟨_, by rw [hk.out]; rfl, by rw [hre.out]; exact RdC.nil _, _, rfl⟩
  · obtain rfl : n2 = n1 := heq.symm
    have hk1 : n2 ≤ c1 := l1
    have hs1 : Hid (begsB xs ys = sameB (xs.take n2) (ys.take n2)) := Lib.hid (by rw [begsB_short (by rw [← N1.out, ← N2.out]; exact Nat.le_refl _), N1.out, List.take_length])
    have hs2 : Hid (begsB ys xs = sameB (ys.take n2) (xs.take n2)) := Lib.hid (by rw [begsB_short (by rw [← N1.out, ← N2.out]; exact Nat.le_refl _), N2.out, List.take_length])
    cases hb : sameB (xs.take n2) (ys.take n2) with
    | true =>
      have hk : Hid (kindOf xs ys = 3) := Lib.hid (by unfold kindOf; rw [hs1.out, hb, if_pos rfl, if_pos (by rw [← N1.out, ← N2.out])])
      have hre : Hid (restOf xs ys = []) := Lib.hid (by unfold restOf; rw [hs1.out, hb, if_pos rfl, ← N1.out, N2.out, List.drop_length])
      go_enter Try.func96, Try.ntmps96
      go_wp2
      go_quiet ((go_at_call 105; exact Calls.quiet_of (slEqual_any _ _ (xs.take n2) (ys.take n2) _ ((R1'.out n2 (by omega)).drewN _).rd ((R2'.out n2 (by omega)).drewN _).rd)))
      go_wp2
      go_ret2
      exact ⟨_, by rw [hk.out]; rfl, by rw [hre.out]; exact RdC.nil _, _, rfl⟩
    | false =>
      have hb' : sameB (ys.take n2) (xs.take n2) = false := by
        simp only [sameB, decide_eq_false_iff_not] at hb ⊢; exact fun e => hb e.symm
      have hk : Hid (kindOf xs ys = 0) := Lib.hid (by unfold kindOf; rw [hs1.out, hs2.out]; simp [hb, hb'])
      have hre : Hid (restOf xs ys = []) := Lib.hid (by unfold restOf; rw [hs1.out, hs2.out]; simp [hb, hb'])
      go_enter Try.func96, Try.ntmps96
      go_wp2
      go_quiet ((go_at_call 105; exact Calls.quiet_of (slEqual_any _ _ (xs.take n2) (ys.take n2) _ ((R1'.out n2 (by omega)).drewN _).rd ((R2'.out n2 (by omega)).drewN _).rd)))
      go_wp2
      go_ret2
      exact ⟨_, by rw [hk.out]; rfl, by rw [hre.out]; exact RdC.nil _, _, rfl⟩
  · have hk2 : n2 ≤ c2 := l2
    have hk1 : n2 ≤ c1 := by omega
    have hk3 : ¬ c1 = n2 := by omega
    have hmin : min (n1 : Int) (n2 : Int) = (n2 : Int) := by omega
    obtain ⟨g, off, rfl⟩ := H1.out.some_ (by rw [← N1.out]; omega)
    have hs1 : Hid (begsB xs ys = false) := Lib.hid (begsB_long (by rw [← N1.out, ← N2.out]; omega))
    have hs2 : Hid (begsB ys xs = sameB (xs.take n2) (ys.take n2)) := Lib.hid (by rw [begsB_short (by rw [← N1.out, ← N2.out]; omega), N2.out, List.take_length, Bool.eq_iff_iff]; simp [sameB]; exact ⟨fun h => h.symm, fun h => h.symm⟩)
    cases hb : sameB (xs.take n2) (ys.take n2) with
    | true =>
      have hk : Hid (kindOf xs ys = 2) := Lib.hid (by unfold kindOf; rw [hs1.out, hs2.out, hb]; rfl)
      have hre : Hid (restOf xs ys = xs.drop n2) := Lib.hid (by unfold restOf; rw [hs1.out, hs2.out, hb, N2.out]; rfl)
      have RD : Hid (RdC w (.slice (some ⟨g, off + n2, none⟩) (n1 - n2) (c1 - n2)) (xs.drop n2)) := Lib.hid (by have := H1.out; rw [← N1.out] at this; exact this.drop n2 hgt)
      go_enter Try.func96, Try.ntmps96
      go_wp2
      go_quiet ((go_at_call 105; exact Calls.quiet_of (slEqual_any _ _ (xs.take n2) (ys.take n2) _ ((R1'.out n2 (by omega)).drewN _).rd ((R2'.out n2 (by omega)).drewN _).rd)))
      go_wp2
      go_quiet (fail)
      go_wp2
      go_ret2
      exact ⟨_, by rw [hk.out]; rfl, by rw [hre.out]; exact (RD.out.drewN _).drewN _, _, World.drewN_drewN _ _ _⟩
    | false =>
      have hk : Hid (kindOf xs ys = 0) := Lib.hid (by unfold kindOf; rw [hs1.out, hs2.out]; simp [hb])
      have hre : Hid (restOf xs ys = []) := Lib.hid (by unfold restOf; rw [hs1.out, hs2.out]; simp [hb])
      go_enter Try.func96, Try.ntmps96
      go_wp2
      go_quiet ((go_at_call 105; exact Calls.quiet_of (slEqual_any _ _ (xs.take n2) (ys.take n2) _ ((R1'.out n2 (by omega)).drewN _).rd ((R2'.out n2 (by omega)).drewN _).rd)))
      go_wp2
      go_ret2
      exact ⟨_, by rw [hk.out]; rfl, by rw [hre.out]; exact RdC.nil _, _, rfl⟩
end Go.Proofs.Ytpogpehbkgjiaaa
