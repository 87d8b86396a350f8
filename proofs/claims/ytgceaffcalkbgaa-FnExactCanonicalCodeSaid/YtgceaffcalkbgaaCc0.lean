/- Chapter 4: canonical codes: digits, sums, the order. No program in sight. -/
import Derived.Test.YtgceaffcalkbgaaSr1
namespace Go.Proofs.Ytgceaffcalkbgaa
open Go.RowKit
set_option linter.unusedSimpArgs false
set_option linter.unusedVariables false

/-- The last k digits of a number to the base r. -/
def dig (r : Int) : Nat → Int → List Int
  | 0, _ => []
  | k + 1, N => dig r k (N / r) ++ [N % r]
theorem dig_len (r : Int) (k : Nat) (N : Int) : (dig r k N).length = k := by
  induction k generalizing N with
  | zero => rfl
  | succ k ih => simp [dig, ih]
theorem dig_take {r : Int} (hr : 2 ≤ r) (m l : Nat) (N : Int) : (dig r (l + m) N).take l = dig r l (N / pw r m) := by
  induction m generalizing N with
  | zero => rw [Nat.add_zero, pw_zero, Int.ediv_one, List.take_of_length_le (by rw [dig_len]; exact Nat.le_refl _)]
  | succ m ih =>
    rw [show l + (m + 1) = (l + m) + 1 by omega, dig, List.take_append_of_le_length (by rw [dig_len]; omega), ih, pw_succ]
    rw [Int.ediv_ediv_of_nonneg (by omega), Int.mul_comm]
theorem dig_carry {r : Int} (hr : 2 ≤ r) (k : Nat) (N : Int) (h : N % r + 1 = r) : dig r (k + 1) (N + 1) = dig r k (N / r + 1) ++ [0] := by
  have e : N + 1 = r * (N / r + 1) := by
    have := Int.mul_ediv_add_emod N r
    rw [Int.mul_add, Int.mul_one]; omega
  rw [dig, e, Int.mul_ediv_cancel_left _ (by omega), Int.mul_emod_right]
theorem dig_plain {r : Int} (hr : 2 ≤ r) (k : Nat) (N : Int) (h : N % r + 1 < r) : dig r (k + 1) (N + 1) = dig r k (N / r) ++ [N % r + 1] := by
  have h0 := Int.emod_nonneg N (by omega : r ≠ 0)
  have e : N + 1 = (N % r + 1) + r * (N / r) := by
    have := Int.mul_ediv_add_emod N r
    omega
  have e1 : (N + 1) / r = N / r := by
    rw [e, Int.add_mul_ediv_left _ _ (by omega), Int.ediv_eq_zero_of_lt (by omega) h]; omega
  have e2 : (N + 1) % r = N % r + 1 := by
    rw [e, Int.add_mul_emod_self_left, Int.emod_eq_of_lt (by omega) h]
  rw [dig, e1, e2]
theorem dig_zero (r : Int) (k : Nat) : dig r k 0 = List.replicate k 0 := by
  induction k with
  | zero => rfl
  | succ k ih => rw [dig, Int.zero_ediv, Int.zero_emod, ih, List.replicate_succ']
theorem dig_mul {r : Int} (hr : 2 ≤ r) (m l : Nat) (N : Int) : dig r (l + m) (N * pw r m) = dig r l N ++ List.replicate m 0 := by
  induction m with
  | zero => simp [pw_zero]
  | succ m ih =>
    rw [show l + (m + 1) = (l + m) + 1 by omega, dig, pw_succ, ← Int.mul_assoc, Int.mul_ediv_cancel _ (by omega), Int.mul_emod_left, ih, List.replicate_succ', List.append_assoc]
theorem dig_range {r : Int} (hr : 2 ≤ r) (k : Nat) (N : Int) : ∀ d ∈ dig r k N, 0 ≤ d ∧ d < r := by
  induction k generalizing N with
  | zero => simp [dig]
  | succ k ih =>
    intro d hd
    rw [dig, List.mem_append, List.mem_singleton] at hd
    rcases hd with hd | rfl
    · exact ih _ d hd
    · exact ⟨Int.emod_nonneg _ (by omega), Int.emod_lt_of_pos _ (by omega)⟩
theorem dig_zeros {r : Int} (hr : 2 ≤ r) (k : Nat) (N : Int) (h0 : 0 ≤ N) (h1 : N < pw r k) (h : dig r k N = List.replicate k 0) : N = 0 := by
  induction k generalizing N with
  | zero => rw [pw_zero] at h1; omega
  | succ k ih =>
    rw [dig, List.replicate_succ'] at h
    have hl := List.append_inj h (by simp [dig_len])
    have e2 : N % r = 0 := by simpa using hl.2
    have hq : N / r < pw r k := by
      rw [pw_succ] at h1
      exact Int.ediv_lt_of_lt_mul (by omega) h1
    have := ih (N / r) (Int.ediv_nonneg h0 (by omega)) hq hl.1
    have := Int.mul_ediv_add_emod N r
    rw [‹N / r = 0›, e2] at this
    omega
theorem dig_full {r : Int} (hr : 2 ≤ r) (k : Nat) : dig r k (pw r k) = List.replicate k 0 := by
  have := dig_mul hr k 0 1
  rw [Nat.zero_add, Int.one_mul] at this
  rw [this]; rfl
theorem pw_add (r : Int) (a b : Nat) : pw r (a + b) = pw r a * pw r b := by
  induction b with
  | zero => simp [pw_zero]
  | succ b ih => rw [← Nat.add_assoc, pw_succ, pw_succ, ih, Int.mul_assoc]

/-! ### Sums over indices -/
def sumF (f : Nat → Int) : List Nat → Int
  | [] => 0
  | x :: l => f x + sumF f l
theorem sumF_append (f : Nat → Int) (a b : List Nat) : sumF f (a ++ b) = sumF f a + sumF f b := by
  induction a with
  | nil => simp [sumF]
  | cons x a ih => simp only [List.cons_append, sumF, ih]; omega
theorem sumF_perm (f : Nat → Int) {a b : List Nat} (h : a.Perm b) : sumF f a = sumF f b := by
  induction h with
  | nil => rfl
  | cons x _ ih => simp only [sumF, ih]
  | swap x y l => simp only [sumF]; omega
  | trans _ _ ih1 ih2 => rw [ih1, ih2]
theorem sumF_nonneg {f : Nat → Int} {l : List Nat} (h : ∀ x ∈ l, 0 ≤ f x) : 0 ≤ sumF f l := by
  induction l with
  | nil => exact Int.le_refl _
  | cons x l ih =>
    have := h x (by simp)
    have := ih fun y hy => h y (by simp [hy])
    simp only [sumF]; omega
theorem sumF_dvd {f : Nat → Int} {l : List Nat} {q : Int} (h : ∀ x ∈ l, q ∣ f x) : q ∣ sumF f l := by
  induction l with
  | nil => exact Int.dvd_zero _
  | cons x l ih => simp only [sumF]; exact Int.dvd_add (h x (by simp)) (ih fun y hy => h y (by simp [hy]))

/-! ### The order -/
/-- Index j comes before the place (a, i): a lesser length, or this one and a lesser index. -/
def befB (ls : List Int) (a : Int) (i j : Nat) : Bool := decide (nth ls j < a) || (decide (nth ls j = a) && decide (j < i))
def LexR (ls : List Int) (x y : Nat) : Prop := nth ls x < nth ls y ∨ (nth ls x = nth ls y ∧ x < y)
theorem posF_all {p : Nat → Bool} {S : List Nat} (J : Nat) : ∀ m, posF p S J ≤ m → m < J → p (S.getD m 0) = true := by
  induction J with
  | zero => intro m _ h; omega
  | succ J ih =>
    intro m h1 h2
    cases hp : p (S.getD J 0) with
    | true =>
      rw [posF_yes hp] at h1
      by_cases e : m = J
      · rw [e]; exact hp
      · exact ih m h1 (by omega)
    | false => rw [posF_no hp] at h1; omega
theorem posF_stop {p : Nat → Bool} {S : List Nat} (J : Nat) : posF p S J = 0 ∨ ∃ m, posF p S J = m + 1 ∧ p (S.getD m 0) = false := by
  induction J with
  | zero => exact .inl rfl
  | succ J ih =>
    cases hp : p (S.getD J 0) with
    | true => rw [posF_yes hp]; exact ih
    | false => rw [posF_no hp]; exact .inr ⟨J, rfl, hp⟩
theorem ordC_sorted (ls : List Int) (k : Nat) : (ordTo (ltC ls) k).Pairwise (LexR ls) := by
  induction k with
  | zero => exact List.Pairwise.nil
  | succ k ih =>
    have hl := ordTo_len (ltC ls) k
    rw [ordTo, insR, hl]
    obtain ⟨P, hP⟩ : ∃ P, P = posF (fun y => ltC ls k y) (ordTo (ltC ls) k) k := ⟨_, rfl⟩
    rw [← hP]
    have hall := posF_all (p := fun y => ltC ls k y) (S := ordTo (ltC ls) k) k
    have hstop := posF_stop (p := fun y => ltC ls k y) (S := ordTo (ltC ls) k) k
    rw [← hP] at hall hstop
    have hPk : P ≤ k := by rw [hP]; exact posF_le _ _ _
    have hdrop : ∀ y ∈ (ordTo (ltC ls) k).drop P, nth ls k < nth ls y := by
      intro y hy
      obtain ⟨m, hm, rfl⟩ := List.mem_iff_getElem.1 hy
      rw [List.length_drop, hl] at hm
      have := hall (P + m) (by omega) (by omega)
      rw [List.getElem_drop]
      rw [List.getD_eq_getElem?_getD, List.getElem?_eq_getElem (by omega)] at this
      simpa [ltC] using this
    have htake : ∀ y ∈ (ordTo (ltC ls) k).take P, nth ls y ≤ nth ls k ∧ y < k := by
      intro y hy
      refine ⟨?_, (ordTo_mem (lt := ltC ls)).1 (List.mem_of_mem_take hy)⟩
      rcases hstop with h0 | ⟨m, hm, hp⟩
      · rw [h0] at hy; simp at hy
      · obtain ⟨q, hq, rfl⟩ := List.mem_iff_getElem.1 hy
        rw [List.length_take, hl] at hq
        rw [List.getElem_take]
        have hm2 : m < (ordTo (ltC ls) k).length := by omega
        rw [List.getD_eq_getElem?_getD, List.getElem?_eq_getElem hm2] at hp
        simp only [ltC, Option.getD_some, decide_eq_false_iff_not, Int.not_lt] at hp
        by_cases e : q = m
        · subst e; exact hp
        · have := List.pairwise_iff_getElem.1 ih q m (by omega) hm2 (by omega)
          rcases this with h | h <;> omega
    rw [List.pairwise_append]
    refine ⟨ih.sublist (List.take_sublist _ _), ?_, ?_⟩
    · rw [List.pairwise_cons]
      exact ⟨fun y hy => .inl (hdrop y hy), ih.sublist (List.drop_sublist _ _)⟩
    · intro x hx y hy
      rw [List.mem_cons] at hy
      have h1 := htake x hx
      rcases hy with rfl | hy
      · rcases Int.lt_or_eq_of_le h1.1 with h | h
        · exact .inl h
        · exact .inr ⟨h, h1.2⟩
      · have := hdrop y hy
        exact .inl (by omega)
/-- The t-th index. -/
def oAt (ls : List Int) (t : Nat) : Nat := (ordTo (ltC ls) ls.length).getD t 0
theorem oAt_lt {ls : List Int} {t : Nat} (h : t < ls.length) : oAt ls t < ls.length := ordTo_lt h
theorem take_snoc_o {ls : List Int} {t : Nat} (h : t < ls.length) : (ordTo (ltC ls) ls.length).take (t + 1) = (ordTo (ltC ls) ls.length).take t ++ [oAt ls t] := by
  have hl := ordTo_len (ltC ls) ls.length
  rw [List.take_succ_eq_append_getElem (by omega), oAt, List.getD_eq_getElem?_getD, List.getElem?_eq_getElem (by omega)]; rfl
/-- Those ahead of place t are just those that come before its index. -/
theorem o_before {ls : List Int} {t j : Nat} (h : t < ls.length) : j ∈ (ordTo (ltC ls) ls.length).take t ↔ j < ls.length ∧ befB ls (nth ls (oAt ls t)) (oAt ls t) j = true := by
  have hl := ordTo_len (ltC ls) ls.length
  have hs := ordC_sorted ls ls.length
  have ho : oAt ls t = (ordTo (ltC ls) ls.length)[t]'(by omega) := by
    rw [oAt, List.getD_eq_getElem?_getD, List.getElem?_eq_getElem (by omega)]; rfl
  constructor
  · intro hj
    refine ⟨(ordTo_mem (lt := ltC ls)).1 (List.mem_of_mem_take hj), ?_⟩
    obtain ⟨q, hq, rfl⟩ := List.mem_iff_getElem.1 hj
    rw [List.length_take, hl] at hq
    rw [List.getElem_take]
    have := List.pairwise_iff_getElem.1 hs q t (by omega) (by omega) (by omega)
    rw [← ho] at this
    simp only [befB, Bool.or_eq_true, Bool.and_eq_true, decide_eq_true_eq]
    exact this
  · rintro ⟨hj, hb⟩
    have hm := (ordTo_mem (lt := ltC ls) (k := ls.length)).2 hj
    obtain ⟨q, hq, rfl⟩ := List.mem_iff_getElem.1 hm
    simp only [befB, Bool.or_eq_true, Bool.and_eq_true, decide_eq_true_eq] at hb
    have hqt : q < t := by
      rcases Nat.lt_trichotomy q t with e | e | e
      · exact e
      · exfalso
        subst e
        rw [← ho] at hb
        omega
      · exfalso
        have := List.pairwise_iff_getElem.1 hs t q (by omega) (by omega) e
        rw [← ho] at this
        unfold LexR at this
        omega
    rw [List.mem_iff_getElem]
    exact ⟨q, by rw [List.length_take]; omega, by rw [List.getElem_take]⟩

/-- What the words of the indices before a place fill. -/
def wt6 (r : Int) (ls : List Int) (j : Nat) : Int := pw r (6 - nth ls j).toNat
def nB (r : Int) (ls : List Int) (a : Int) (i : Nat) : Int := sumF (wt6 r ls) ((List.range ls.length).filter fun j => befB ls a i j)
def nT (r : Int) (ls : List Int) (t : Nat) : Int := sumF (wt6 r ls) ((ordTo (ltC ls) ls.length).take t)
theorem nT_eq {r : Int} {ls : List Int} {t : Nat} (h : t < ls.length) : nT r ls t = nB r ls (nth ls (oAt ls t)) (oAt ls t) := by
  unfold nT nB
  refine sumF_perm _ ?_
  rw [List.perm_ext_iff_of_nodup ((ordTo_nodup _ _).sublist (List.take_sublist _ _)) (List.nodup_range.sublist List.filter_sublist)]
  intro j
  rw [o_before h, List.mem_filter, List.mem_range]
theorem nT_zero (r : Int) (ls : List Int) : nT r ls 0 = 0 := by simp [nT, sumF]
theorem nT_succ {r : Int} {ls : List Int} {t : Nat} (h : t < ls.length) : nT r ls (t + 1) = nT r ls t + wt6 r ls (oAt ls t) := by
  unfold nT
  rw [take_snoc_o h, sumF_append]
  simp [sumF]
theorem sumF_range (f : Nat → Int) (n : Nat) : sumF f (List.range (n + 1)) = sumF f (List.range n) + f n := by
  rw [List.range_succ, sumF_append]; simp [sumF]
theorem nT_all (r : Int) (ls : List Int) : nT r ls ls.length = sumF (wt6 r ls) (List.range ls.length) := by
  unfold nT
  refine sumF_perm _ ?_
  have hl := ordTo_len (ltC ls) ls.length
  rw [List.take_of_length_le (by omega), List.perm_ext_iff_of_nodup (ordTo_nodup _ _) List.nodup_range]
  intro j
  rw [ordTo_mem, List.mem_range]
/-- The word of index i. -/
def wdC (r : Int) (ls : List Int) (i : Nat) : List Int := dig r (nth ls i).toNat (nB r ls (nth ls i) i / pw r (6 - nth ls i).toNat)
def canT (r : Int) (ls : List Int) : List (List Int) := (List.range ls.length).map fun i => wdC r ls i
theorem canT_len (r : Int) (ls : List Int) : (canT r ls).length = ls.length := by simp [canT]
theorem rowAt_canT {r : Int} {ls : List Int} {i : Nat} (h : i < ls.length) : rowAt (canT r ls) i = wdC r ls i := by simp [canT, rowAt, h]
end Go.Proofs.Ytgceaffcalkbgaa
