/- Chapter 6: nets, the plain part. -/
import Derived.Test.YtfmmkiijohnbfaaDoorTy3
namespace Go.Proofs.YtfmmkiijohnbfaaDoor
open Go.RowKit
set_option linter.unusedSimpArgs false
set_option linter.unusedVariables false

/-- A link comes before another one. -/
def befB (x y : T3) : Bool := decide (x.x0 < y.x0) || (decide (x.x0 = y.x0) && decide (x.x1 < y.x1))
theorem befB_iff {x y : T3} : befB x y = true ↔ x.x0 < y.x0 ∨ (x.x0 = y.x0 ∧ x.x1 < y.x1) := by simp [befB]
theorem befB_no {x y : T3} (h : ¬ (x.x0 < y.x0 ∨ (x.x0 = y.x0 ∧ x.x1 < y.x1))) : befB x y = false := by
  cases e : befB x y with
  | false => rfl
  | true => exact absurd (befB_iff.1 e) h
def towB (t : T3) : Bool := inB t.x0 0 999 && inB t.x1 0 999 && inB t.x2 0 500
theorem towB_iff {t : T3} : towB t = true ↔ (0 ≤ t.x0 ∧ t.x0 ≤ 999) ∧ (0 ≤ t.x1 ∧ t.x1 ≤ 999) ∧ (0 ≤ t.x2 ∧ t.x2 ≤ 500) := by simp [towB, inB_iff, and_assoc]
def lnkB (m : Nat) (x : T3) : Bool := decide (0 ≤ x.x0 ∧ x.x0 < x.x1 ∧ x.x1 < (m : Int) ∧ 1 ≤ x.x2 ∧ x.x2 ≤ 60)
theorem lnkB_iff {m : Nat} {x : T3} : lnkB m x = true ↔ 0 ≤ x.x0 ∧ x.x0 < x.x1 ∧ x.x1 < (m : Int) ∧ 1 ≤ x.x2 ∧ x.x2 ≤ 60 := by simp [lnkB]
/-- Link i stands behind the one before it. -/
def stepB (ls : List T3) (i : Nat) : Bool := decide (i = 0) || befB (rAt ls (i - 1)) (rAt ls i)
def netB (ts ls : List T3) : Bool := (List.range ts.length).all (fun i => towB (rAt ts i)) && (List.range ls.length).all (fun i => lnkB ts.length (rAt ls i) && stepB ls i) && decide (1 ≤ ts.length ∧ ts.length ≤ 16 ∧ ls.length ≤ 40)

structure NetOk (ts ls : List T3) : Prop where
  tow : ∀ i, i < ts.length → (0 ≤ (rAt ts i).x0 ∧ (rAt ts i).x0 ≤ 999) ∧ (0 ≤ (rAt ts i).x1 ∧ (rAt ts i).x1 ≤ 999) ∧ (0 ≤ (rAt ts i).x2 ∧ (rAt ts i).x2 ≤ 500)
  lnk : ∀ i, i < ls.length → 0 ≤ (rAt ls i).x0 ∧ (rAt ls i).x0 < (rAt ls i).x1 ∧ (rAt ls i).x1 < (ts.length : Int) ∧ 1 ≤ (rAt ls i).x2 ∧ (rAt ls i).x2 ≤ 60
  step : ∀ i, i + 1 < ls.length → (rAt ls i).x0 < (rAt ls (i + 1)).x0 ∨ ((rAt ls i).x0 = (rAt ls (i + 1)).x0 ∧ (rAt ls i).x1 < (rAt ls (i + 1)).x1)
  one : 1 ≤ ts.length
  t16 : ts.length ≤ 16
  l40 : ls.length ≤ 40
theorem netB_iff {ts ls : List T3} : netB ts ls = true ↔ NetOk ts ls := by
  unfold netB
  simp only [Bool.and_eq_true, List.all_eq_true, List.mem_range, decide_eq_true_eq]
  constructor
  · rintro ⟨⟨h1, h2⟩, h3, h4, h5⟩
    exact ⟨fun i hi => towB_iff.1 (h1 i hi), fun i hi => lnkB_iff.1 (h2 i hi).1, fun i hi => by
      have := (h2 (i + 1) hi).2
      unfold stepB at this
      simp at this
      exact befB_iff.1 this, h3, h4, h5⟩
  · rintro ⟨h1, h2, h3, h4, h5, h6⟩
    refine ⟨⟨fun i hi => towB_iff.2 (h1 i hi), fun i hi => ⟨lnkB_iff.2 (h2 i hi), ?_⟩⟩, h4, h5, h6⟩
    cases i with
    | zero => simp [stepB]
    | succ i => unfold stepB; simp; exact befB_iff.2 (h3 i hi)
theorem netB_yes {ts ls : List T3} (h1 : ∀ j, j < ts.length → towB (rAt ts j) = true) (h2 : ∀ j, j < ls.length → lnkB ts.length (rAt ls j) = true ∧ stepB ls j = true) (h3 : 1 ≤ ts.length) (h4 : ts.length ≤ 16) (h5 : ls.length ≤ 40) : netB ts ls = true := by
  unfold netB
  simp only [Bool.and_eq_true, List.all_eq_true, List.mem_range, decide_eq_true_eq]
  exact ⟨⟨h1, h2⟩, h3, h4, h5⟩
theorem netB_noT {ts ls : List T3} {i : Nat} (hi : i < ts.length) (h : towB (rAt ts i) = false) : netB ts ls = false := by
  cases e : netB ts ls with
  | false => rfl
  | true => have := towB_iff.2 ((netB_iff.1 e).tow i hi); rw [h] at this; cases this
theorem netB_noL {ts ls : List T3} {i : Nat} (hi : i < ls.length) (h : lnkB ts.length (rAt ls i) = false) : netB ts ls = false := by
  cases e : netB ts ls with
  | false => rfl
  | true => have := lnkB_iff.2 ((netB_iff.1 e).lnk i hi); rw [h] at this; cases this
theorem netB_noS {ts ls : List T3} {i : Nat} (hi : i + 1 < ls.length) (h : befB (rAt ls i) (rAt ls (i + 1)) = false) : netB ts ls = false := by
  cases e : netB ts ls with
  | false => rfl
  | true => have := befB_iff.2 ((netB_iff.1 e).step i hi); rw [h] at this; cases this
theorem netB_noZ {ts ls : List T3} (h : ¬ (1 ≤ ts.length ∧ ts.length ≤ 16 ∧ ls.length ≤ 40)) : netB ts ls = false := by
  cases e : netB ts ls with
  | false => rfl
  | true => exact absurd ⟨(netB_iff.1 e).one, (netB_iff.1 e).t16, (netB_iff.1 e).l40⟩ h
end Go.Proofs.YtfmmkiijohnbfaaDoor
