/- Chapter 2: the first prefix, and whether there is none. -/
import Derived.Test.YtpogpehbkgjiaaaBkP
namespace Go.Proofs.Ytpogpehbkgjiaaa
open Go.RowKit
set_option linter.unusedSimpArgs false
set_option linter.unusedVariables false

/-- Phrase i begins phrase j, another one. -/
def preB (ps : List Ph) (i j : Nat) : Bool := !(i == j) && begsB (phAt ps i).sig (phAt ps j).sig
def rowPre (ps : List Ph) (i : Nat) : Bool := (List.range ps.length).any fun j => preB ps i j
def preI (ps : List Ph) : Nat := (List.range ps.length).findIdx fun i => rowPre ps i
def preJ (ps : List Ph) : Nat := (List.range ps.length).findIdx fun j => preB ps (preI ps) j
theorem range_idx {n k : Nat} {p : Nat → Bool} (hk : k < n) (h : p k = true) (hm : ∀ j, j < k → p j = false) : (List.range n).findIdx p = k := by
  rw [List.findIdx_eq (by simpa using hk)]
  refine ⟨by simpa using h, fun j hj => ?_⟩
  simpa using hm j hj
theorem rowPre_no {ps : List Ph} {i : Nat} (h : ∀ j, j < ps.length → preB ps i j = false) : rowPre ps i = false := by
  unfold rowPre
  rw [List.any_eq_false]
  intro x hx
  rw [h x (by simpa using hx)]
  simp
theorem rowPre_yes {ps : List Ph} {i j : Nat} (hj : j < ps.length) (h : preB ps i j = true) : rowPre ps i = true := by
  unfold rowPre
  rw [List.any_eq_true]
  exact ⟨j, by simpa using hj, h⟩
theorem preI_hit {ps : List Ph} {i k : Nat} (hi : i < ps.length) (hk : k < ps.length) (h : preB ps i k = true) (hr : ∀ m, m < i → rowPre ps m = false) : preI ps = i :=
  range_idx hi (rowPre_yes hk h) hr
theorem preJ_hit {ps : List Ph} {i k : Nat} (hi : i < ps.length) (hk : k < ps.length) (h : preB ps i k = true) (hr : ∀ m, m < i → rowPre ps m = false) (hm : ∀ j, j < k → preB ps i j = false) : preJ ps = k := by
  unfold preJ
  rw [preI_hit hi hk h hr]
  exact range_idx hk h hm
theorem preI_none {ps : List Ph} (hr : ∀ m, m < ps.length → rowPre ps m = false) : preI ps = ps.length := by
  unfold preI
  have := List.findIdx_eq_length (p := fun i => rowPre ps i) (xs := List.range ps.length)
  rw [this.2 (fun x hx => by simpa using hr x (by simpa using hx))]
  simp
def preIZ (ps : List Ph) : Int := if preI ps < ps.length then (preI ps : Int) else -1
def preJZ (ps : List Ph) : Int := if preI ps < ps.length then (preJ ps : Int) else -1
theorem preIZ_hit {ps : List Ph} {i k : Nat} (hi : i < ps.length) (hk : k < ps.length) (h : preB ps i k = true) (hr : ∀ m, m < i → rowPre ps m = false) : preIZ ps = i := by
  unfold preIZ; rw [preI_hit hi hk h hr, if_pos hi]
theorem preJZ_hit {ps : List Ph} {i k : Nat} (hi : i < ps.length) (hk : k < ps.length) (h : preB ps i k = true) (hr : ∀ m, m < i → rowPre ps m = false) (hm : ∀ j, j < k → preB ps i j = false) : preJZ ps = k := by
  unfold preJZ; rw [preI_hit hi hk h hr, if_pos hi, preJ_hit hi hk h hr hm]
theorem preIZ_none {ps : List Ph} (hr : ∀ m, m < ps.length → rowPre ps m = false) : preIZ ps = -1 := by
  unfold preIZ; rw [preI_none hr, if_neg (by omega)]
theorem preJZ_none {ps : List Ph} (hr : ∀ m, m < ps.length → rowPre ps m = false) : preJZ ps = -1 := by
  unfold preJZ; rw [preI_none hr, if_neg (by omega)]
theorem preB_self (ps : List Ph) (i : Nat) : preB ps i i = false := by simp [preB]
theorem preB_other {ps : List Ph} {i j : Nat} (h : i ≠ j) : preB ps i j = begsB (phAt ps i).sig (phAt ps j).sig := by simp [preB, h]
theorem book_sigs {ps : List Ph} (hb : bookB ps = true) {i j : Nat} (hi : i < ps.length) (hj : j < ps.length) (h : (phAt ps i).sig = (phAt ps j).sig) : i = j := by
  have h1 := goodAt_idx (bookB_at hb hi)
  have h2 := goodAt_idx (bookB_at hb hj)
  rw [h] at h1
  omega
/-- In a book the kind 'the first begins' is just a prefix of another phrase. -/
theorem kind_pre {ps : List Ph} (hb : bookB ps = true) {i j : Nat} (hi : i < ps.length) (hj : j < ps.length) : (kindOf (phAt ps i).sig (phAt ps j).sig == 1) = preB ps i j := by
  by_cases h : i = j
  · subst h
    rw [preB_self]
    unfold kindOf
    rw [begsB_self, if_pos rfl, if_pos rfl]
    rfl
  · rw [preB_other h]
    unfold kindOf
    cases hbg : begsB (phAt ps i).sig (phAt ps j).sig with
    | true =>
      have : ¬ (phAt ps i).sig.length = (phAt ps j).sig.length := fun e => h (book_sigs hb hi hj (begsB_eq hbg e))
      rw [if_pos rfl, if_neg this]
      rfl
    | false =>
      rw [if_neg (by simp)]
      split <;> rfl

end Go.Proofs.Ytpogpehbkgjiaaa
