/- Chapter 6: links looked up, squares, neighbours; the plain part. -/
import Derived.Test.YtfmmkiijohnbfaaDoorNe0
namespace Go.Proofs.YtfmmkiijohnbfaaDoor
open Go.RowKit
set_option linter.unusedSimpArgs false
set_option linter.unusedVariables false

def hasB (ts ls : List T3) (i : Int) : Bool := netB ts ls && inB i 0 ((ts.length : Int) - 1)
theorem hasB_ok {ts ls : List T3} {i : Int} (h : hasB ts ls i = true) : NetOk ts ls ∧ ∃ k : Nat, i = (k : Int) ∧ k < ts.length := by
  unfold hasB at h
  rw [Bool.and_eq_true, netB_iff, inB_iff] at h
  exact ⟨h.1, i.toNat, by omega, by omega⟩
theorem hasB_yes {ts ls : List T3} {k : Nat} (h : netB ts ls = true) (hk : k < ts.length) : hasB ts ls (k : Int) = true := by
  unfold hasB; rw [h, inB_yes (by omega) (by omega)]; rfl

def lkB (a b : Int) (x : T3) : Bool := (decide (x.x0 = a) && decide (x.x1 = b)) || (decide (x.x0 = b) && decide (x.x1 = a))
theorem lkB_iff {a b : Int} {x : T3} : lkB a b x = true ↔ (x.x0 = a ∧ x.x1 = b) ∨ (x.x0 = b ∧ x.x1 = a) := by simp [lkB]
theorem lkB_no {a b : Int} {x : T3} (h : ¬ ((x.x0 = a ∧ x.x1 = b) ∨ (x.x0 = b ∧ x.x1 = a))) : lkB a b x = false := by
  cases e : lkB a b x with
  | false => rfl
  | true => exact absurd (lkB_iff.1 e) h
/-- The number of the link between two towers, or -1. -/
def lkZ (ls : List T3) (a b : Int) : Int := if ls.findIdx (lkB a b) < ls.length then (ls.findIdx (lkB a b) : Int) else -1
theorem findIdx_rAt {ls : List T3} {p : T3 → Bool} {k : Nat} (hk : k < ls.length) (h : p (rAt ls k) = true) (hb : ∀ j, j < k → p (rAt ls j) = false) : ls.findIdx p = k := by
  rw [List.findIdx_eq hk]
  refine ⟨by rw [← rAt_eq hk]; exact h, fun j hj => ?_⟩
  rw [← rAt_eq (Nat.lt_trans hj hk)]; exact hb j hj
theorem lkZ_at {ls : List T3} {a b : Int} {k : Nat} (hk : k < ls.length) (h : lkB a b (rAt ls k) = true) (hb : ∀ j, j < k → lkB a b (rAt ls j) = false) : lkZ ls a b = k := by
  unfold lkZ; rw [findIdx_rAt hk h hb, if_pos hk]
theorem lkZ_none {ls : List T3} {a b : Int} (hb : ∀ j, j < ls.length → lkB a b (rAt ls j) = false) : lkZ ls a b = -1 := by
  unfold lkZ
  rw [if_neg]
  rw [List.findIdx_lt_length]
  rintro ⟨x, hx, hp⟩
  obtain ⟨i, hi, rfl⟩ := mem_rAt hx
  rw [hb i hi] at hp; cases hp
theorem lkZ_ge {ls : List T3} {a b : Int} : 0 ≤ lkZ ls a b ↔ ∃ j, j < ls.length ∧ lkB a b (rAt ls j) = true := by
  constructor
  · intro h
    unfold lkZ at h
    by_cases e : ls.findIdx (lkB a b) < ls.length
    · refine ⟨_, e, ?_⟩
      rw [rAt_eq e]; exact List.findIdx_getElem (w := e)
    · rw [if_neg e] at h; omega
  · rintro ⟨j, hj, h⟩
    unfold lkZ
    rw [if_pos]
    · omega
    · rw [List.findIdx_lt_length]; exact ⟨_, rAt_mem hj, h⟩
theorem lkZ_cases (ls : List T3) (a b : Int) : lkZ ls a b = -1 ∨ (0 ≤ lkZ ls a b ∧ lkZ ls a b < ls.length) := by
  unfold lkZ
  by_cases e : ls.findIdx (lkB a b) < ls.length
  · rw [if_pos e]; exact .inr ⟨by omega, by omega⟩
  · rw [if_neg e]; exact .inl rfl
theorem lkZ_comm (ls : List T3) (a b : Int) : lkZ ls a b = lkZ ls b a := by
  have : lkB a b = lkB b a := by funext x; rw [Bool.eq_iff_iff, lkB_iff, lkB_iff]; exact Or.comm
  unfold lkZ; rw [this]

theorem befB_trans {x y z : T3} (h1 : befB x y = true) (h2 : befB y z = true) : befB x z = true := by
  rw [befB_iff] at *; omega
theorem NetOk.lt {ts ls : List T3} (h : NetOk ts ls) {i j : Nat} (hij : i < j) (hj : j < ls.length) : befB (rAt ls i) (rAt ls j) = true := by
  induction j with
  | zero => omega
  | succ j ih =>
    have hs := befB_iff.2 (h.step j hj)
    by_cases e : i = j
    · rw [e]; exact hs
    · exact befB_trans (ih (by omega) (by omega)) hs

/-- Where a link is, or would be, among links in order. -/
structure LPlace (ls : List T3) (x : T3) (p : Nat) : Prop where
  le : p ≤ ls.length
  bef : ∀ m, m < p → befB (rAt ls m) x = true
  aft : ∀ m, p ≤ m → m < ls.length → befB (rAt ls m) x = false
theorem LPlace.uniq {ls : List T3} {x : T3} {p q : Nat} (h : LPlace ls x p) (h' : LPlace ls x q) : p = q := by
  rcases Nat.lt_trichotomy p q with e | e | e
  · have := h'.bef p e; rw [h.aft p (Nat.le_refl _) (by have := h'.le; omega)] at this; cases this
  · exact e
  · have := h.bef q e; rw [h'.aft q (Nat.le_refl _) (by have := h.le; omega)] at this; cases this
def fndB (ls : List T3) (x : T3) (p : Nat) : Bool := decide (p < ls.length) && (decide ((rAt ls p).x0 = x.x0) && decide ((rAt ls p).x1 = x.x1))
theorem fndB_iff {ls : List T3} {x : T3} {p : Nat} : fndB ls x p = true ↔ p < ls.length ∧ (rAt ls p).x0 = x.x0 ∧ (rAt ls p).x1 = x.x1 := by simp [fndB]
theorem fndB_no {ls : List T3} {x : T3} {p : Nat} (h : ¬ (p < ls.length ∧ (rAt ls p).x0 = x.x0 ∧ (rAt ls p).x1 = x.x1)) : fndB ls x p = false := by
  cases e : fndB ls x p with
  | false => rfl
  | true => exact absurd (fndB_iff.1 e) h
theorem lkZ_place {ts ls : List T3} (h : NetOk ts ls) {a b lo hi z : Int} (hlh : (a ≤ b ∧ lo = a ∧ hi = b) ∨ (b < a ∧ lo = b ∧ hi = a)) {p : Nat} (hp : LPlace ls ⟨lo, hi, z⟩ p) :
    (fndB ls ⟨lo, hi, z⟩ p = true → lkZ ls a b = p) ∧ (fndB ls ⟨lo, hi, z⟩ p = false → lkZ ls a b = -1) := by
  have key : ∀ j, j < ls.length → (lkB a b (rAt ls j) = true ↔ (rAt ls j).x0 = lo ∧ (rAt ls j).x1 = hi) := by
    intro j hj
    have := (h.lnk j hj).2.1
    rw [lkB_iff]
    omega
  constructor
  · intro hf
    obtain ⟨h1, h2, h3⟩ := fndB_iff.1 hf
    refine lkZ_at h1 ((key p h1).2 ⟨h2, h3⟩) fun j hj => ?_
    cases e : lkB a b (rAt ls j) with
    | false => rfl
    | true =>
      have := (key j (by omega)).1 e
      have h4 := hp.bef j hj
      rw [befB_iff] at h4
      simp at h4
      omega
  · intro hf
    refine lkZ_none fun j hj => ?_
    cases e : lkB a b (rAt ls j) with
    | false => rfl
    | true =>
      obtain ⟨e1, e2⟩ := (key j hj).1 e
      exfalso
      have hj1 : ¬ j < p := fun hlt => by have := hp.bef j hlt; rw [befB_iff] at this; simp at this; omega
      have hj2 : ¬ p < j := fun hlt => by
        have h5 := h.lt hlt hj
        have h6 := hp.aft p (Nat.le_refl _) (by omega)
        have : befB (rAt ls p) ⟨lo, hi, z⟩ = true := by rw [befB_iff] at h5 ⊢; simp; omega
        rw [h6] at this; cases this
      obtain rfl : j = p := by omega
      rw [fndB_iff.2 ⟨hj, e1, e2⟩] at hf
      cases hf

/-! ### Squares of distances -/
def sqZ (ts : List T3) (a b : Nat) : Int := ((rAt ts a).x0 - (rAt ts b).x0) * ((rAt ts a).x0 - (rAt ts b).x0) + ((rAt ts a).x1 - (rAt ts b).x1) * ((rAt ts a).x1 - (rAt ts b).x1)
theorem sq_bound {x : Int} (h0 : -999 ≤ x) (h1 : x ≤ 999) : 0 ≤ x * x ∧ x * x ≤ 998001 := by
  constructor
  · rcases Int.le_total 0 x with h | h
    · exact Int.mul_nonneg h h
    · exact Int.mul_nonneg_of_nonpos_of_nonpos h h
  · rcases Int.le_total 0 x with h | h
    · have := Int.mul_le_mul h1 h1 h (by omega); omega
    · have := Int.mul_le_mul (show -x ≤ 999 by omega) (show -x ≤ 999 by omega) (by omega) (by omega)
      rw [Int.neg_mul_neg] at this; omega
theorem sqZ_bound {ts ls : List T3} (h : NetOk ts ls) {a b : Nat} (ha : a < ts.length) (hb : b < ts.length) : 0 ≤ sqZ ts a b ∧ sqZ ts a b ≤ 1996002 := by
  have h1 := h.tow a ha
  have h2 := h.tow b hb
  have b0 := sq_bound (x := (rAt ts a).x0 - (rAt ts b).x0) (by omega) (by omega)
  have b1 := sq_bound (x := (rAt ts a).x1 - (rAt ts b).x1) (by omega) (by omega)
  unfold sqZ
  omega
/-- The square of link k. -/
def sqL (ts ls : List T3) (k : Nat) : Int := sqZ ts (rAt ls k).x0.toNat (rAt ls k).x1.toNat
/-- The first of the longest among the first k links. -/
def mxI (ts ls : List T3) : Nat → Nat
  | 0 => 0
  | k + 1 => if sqL ts ls (mxI ts ls k) < sqL ts ls k then k else mxI ts ls k
theorem mxI_le (ts ls : List T3) (k : Nat) : mxI ts ls k ≤ k := by
  induction k with
  | zero => exact Nat.le_refl _
  | succ k ih => unfold mxI; split <;> omega
theorem mxI_lt (ts ls : List T3) {k : Nat} (hk : 0 < k) : mxI ts ls k < k := by
  obtain ⟨k, rfl⟩ : ∃ j, k = j + 1 := ⟨k - 1, by omega⟩
  have := mxI_le ts ls k
  unfold mxI; split <;> omega
theorem mxI_yes {ts ls : List T3} {k : Nat} (h : sqL ts ls (mxI ts ls k) < sqL ts ls k) : mxI ts ls (k + 1) = k := by rw [mxI, if_pos h]
theorem mxI_no {ts ls : List T3} {k : Nat} (h : ¬ sqL ts ls (mxI ts ls k) < sqL ts ls k) : mxI ts ls (k + 1) = mxI ts ls k := by rw [mxI, if_neg h]
theorem mxI_one (ts ls : List T3) : mxI ts ls 1 = 0 := by rw [mxI]; split <;> rfl

/-! ### Neighbours -/
/-- The towers k below n that have a link to tower i, in order. -/
def nbrs (ls : List T3) (i : Int) (n : Nat) : List Int := ((List.range n).filter fun k : Nat => decide (0 ≤ lkZ ls i (k : Int))).map fun k : Nat => (k : Int)
theorem nbrs_succ_yes {ls : List T3} {i : Int} {n : Nat} (h : 0 ≤ lkZ ls i (n : Int)) : nbrs ls i (n + 1) = nbrs ls i n ++ [(n : Int)] := by
  simp [nbrs, List.range_succ, List.filter_append, h]
theorem nbrs_succ_no {ls : List T3} {i : Int} {n : Nat} (h : lkZ ls i (n : Int) < 0) : nbrs ls i (n + 1) = nbrs ls i n := by
  simp [nbrs, List.range_succ, List.filter_append]; omega
theorem nbrs_len (ls : List T3) (i : Int) (n : Nat) : (nbrs ls i n).length ≤ n := by
  unfold nbrs
  rw [List.length_map]
  exact Nat.le_trans (List.length_filter_le _ _) (by simp)
theorem mem_nbrs {ls : List T3} {i : Int} {n : Nat} {z : Int} : z ∈ nbrs ls i n ↔ ∃ k : Nat, k < n ∧ z = (k : Int) ∧ 0 ≤ lkZ ls i (k : Int) := by
  simp only [nbrs, List.mem_map, List.mem_filter, List.mem_range, decide_eq_true_eq]
  constructor
  · rintro ⟨k, ⟨h1, h2⟩, rfl⟩; exact ⟨k, h1, rfl, h2⟩
  · rintro ⟨k, h1, rfl, h2⟩; exact ⟨k, ⟨h1, h2⟩, rfl⟩
theorem nbrs_sorted (ls : List T3) (i : Int) (n : Nat) : (nbrs ls i n).Pairwise (· < ·) := by
  unfold nbrs
  rw [List.pairwise_map]
  exact (List.pairwise_lt_range.filter _).imp fun h => by omega
/-- The other end of a link, if one of its ends is i. -/
def otherOf (i : Int) (x : T3) : Option Int := if i = x.x0 then some x.x1 else if i = x.x1 then some x.x0 else none
/-- The other ends of the first k links at i. -/
def othersTo (ls : List T3) (i : Int) (k : Nat) : List Int := (ls.take k).filterMap (otherOf i)
theorem othersTo_zero (ls : List T3) (i : Int) : othersTo ls i 0 = [] := rfl
theorem othersTo_some {ls : List T3} {i : Int} {k : Nat} {z : Int} (hk : k < ls.length) (h : otherOf i (rAt ls k) = some z) : othersTo ls i (k + 1) = othersTo ls i k ++ [z] := by
  unfold othersTo; rw [take_rAt hk, List.filterMap_append]; simp [h]
theorem othersTo_none {ls : List T3} {i : Int} {k : Nat} (hk : k < ls.length) (h : otherOf i (rAt ls k) = none) : othersTo ls i (k + 1) = othersTo ls i k := by
  unfold othersTo; rw [take_rAt hk, List.filterMap_append]; simp [h]
theorem othersTo_len (ls : List T3) (i : Int) (k : Nat) : (othersTo ls i k).length ≤ k := by
  unfold othersTo
  exact Nat.le_trans (List.length_filterMap_le _ _) (List.length_take_le _ _)
theorem otherOf_iff {i z : Int} {x : T3} (h : x.x0 < x.x1) : otherOf i x = some z ↔ (x.x0 = i ∧ x.x1 = z) ∨ (x.x0 = z ∧ x.x1 = i) := by
  unfold otherOf
  by_cases h1 : i = x.x0
  · rw [if_pos h1, Option.some.injEq]; omega
  · rw [if_neg h1]
    by_cases h2 : i = x.x1
    · rw [if_pos h2, Option.some.injEq]; omega
    · rw [if_neg h2]; constructor
      · intro h; cases h
      · intro h; omega
theorem sorted_ext {l m : List Int} (hl : l.Pairwise (· < ·)) (hm : m.Pairwise (· < ·)) (h : ∀ z, z ∈ l ↔ z ∈ m) : l = m := by
  induction l generalizing m with
  | nil => cases m with
    | nil => rfl
    | cons a m => exact absurd ((h a).2 (by simp)) (by simp)
  | cons a l ih =>
    cases m with
    | nil => exact absurd ((h a).1 (by simp)) (by simp)
    | cons b m =>
      rw [List.pairwise_cons] at hl hm
      have hab : a = b := by
        have h1 : a ∈ b :: m := (h a).1 (by simp)
        have h2 : b ∈ a :: l := (h b).2 (by simp)
        simp only [List.mem_cons] at h1 h2
        rcases h1 with h1 | h1
        · exact h1
        · rcases h2 with h2 | h2
          · exact h2.symm
          · have := hm.1 a h1; have := hl.1 b h2; omega
      subst hab
      rw [ih hl.2 hm.2 fun z => ?_]
      have := h z
      simp only [List.mem_cons] at this
      constructor
      · intro hz
        have h1 := hl.1 z hz
        rcases this.1 (.inr hz) with e | e
        · omega
        · exact e
      · intro hz
        have h1 := hm.1 z hz
        rcases this.2 (.inr hz) with e | e
        · omega
        · exact e
theorem others_eq {ts ls : List T3} (h : NetOk ts ls) (i : Int) : othersTo ls i ls.length = nbrs ls i ts.length := by
  refine sorted_ext ?_ (nbrs_sorted _ _ _) fun z => ?_
  · have hp : ∀ k, k ≤ ls.length → (othersTo ls i k).Pairwise (· < ·) ∧ ∀ z ∈ othersTo ls i k, ∃ j, j < k ∧ otherOf i (rAt ls j) = some z := by
      intro k
      induction k with
      | zero => intro _; exact ⟨by simp [othersTo], by simp [othersTo]⟩
      | succ k ih =>
        intro hk
        obtain ⟨h1, h2⟩ := ih (by omega)
        cases ho : otherOf i (rAt ls k) with
        | none =>
          rw [othersTo_none (by omega) ho]
          exact ⟨h1, fun z hz => by obtain ⟨j, hj, e⟩ := h2 z hz; exact ⟨j, by omega, e⟩⟩
        | some y =>
          rw [othersTo_some (by omega) ho]
          constructor
          · rw [List.pairwise_append]
            refine ⟨h1, by simp, fun a ha b hb => ?_⟩
            simp at hb
            subst hb
            obtain ⟨j, hj, e⟩ := h2 a ha
            have l1 := h.lnk j (by omega)
            have l2 := h.lnk k (by omega)
            have e1 := (otherOf_iff l1.2.1).1 e
            have e2 := (otherOf_iff l2.2.1).1 ho
            have h3 := h.lt hj (by omega)
            rw [befB_iff] at h3
            omega
          · intro z hz
            simp at hz
            rcases hz with hz | hz
            · obtain ⟨j, hj, e⟩ := h2 z hz; exact ⟨j, by omega, e⟩
            · exact ⟨k, by omega, by rw [hz]; exact ho⟩
    exact (hp ls.length (Nat.le_refl _)).1
  · rw [mem_nbrs]
    constructor
    · intro hz
      unfold othersTo at hz
      rw [List.take_length, List.mem_filterMap] at hz
      obtain ⟨x, hx, hx'⟩ := hz
      obtain ⟨j, hj, rfl⟩ := mem_rAt hx
      have l1 := h.lnk j hj
      have e := (otherOf_iff l1.2.1).1 hx'
      refine ⟨z.toNat, by omega, by omega, lkZ_ge.2 ⟨j, hj, lkB_iff.2 (by omega)⟩⟩
    · rintro ⟨k, hk, rfl, h1⟩
      obtain ⟨j, hj, h2⟩ := lkZ_ge.1 h1
      unfold othersTo
      rw [List.take_length, List.mem_filterMap]
      refine ⟨_, rAt_mem hj, (otherOf_iff (h.lnk j hj).2.1).2 ?_⟩
      have := lkB_iff.1 h2
      omega
end Go.Proofs.YtfmmkiijohnbfaaDoor
