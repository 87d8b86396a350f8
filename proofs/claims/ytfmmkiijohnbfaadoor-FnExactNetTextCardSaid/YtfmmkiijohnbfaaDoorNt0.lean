/- Chapter 6: texts of nets, as bytes. No program in sight. -/
import Derived.Test.YtfmmkiijohnbfaaDoorNe0
import Derived.Test.YtfmmkiijohnbfaaDoorTx1
namespace Go.Proofs.YtfmmkiijohnbfaaDoor
open Go.RowKit
set_option linter.unusedSimpArgs false
set_option linter.unusedVariables false

def twW : ByteArray := ⟨#[116, 111, 119, 101, 114]⟩
def lkW : ByteArray := ⟨#[108, 105, 110, 107]⟩
def l3 (x : T3) : List Int := [x.x0, x.x1, x.x2]
/-- The numbers of a line. -/
def num3 (x : T3) : ByteArray := lineS 32 (l3 x) 3
/-- A word of four or five letters, a blank, the numbers, a newline. -/
def ndL (b : Bool) (x : T3) : ByteArray := (if b then twW else lkW) ++ ⟨#[32]⟩ ++ num3 x ++ ⟨#[10]⟩
/-- Which node has line k, and is it a tower? -/
def ndB (ts : List T3) (k : Nat) : Bool := decide (k < ts.length)
def ndX (ts ls : List T3) (k : Nat) : T3 := if k < ts.length then rAt ts k else rAt ls (k - ts.length)
/-- The first k lines. -/
def neT (ts ls : List T3) : Nat → ByteArray
  | 0 => ⟨#[]⟩
  | k + 1 => neT ts ls k ++ ndL (ndB ts k) (ndX ts ls k)
/-- Three numbers that a line can hold. -/
def smB (x : T3) : Prop := (0 ≤ x.x0 ∧ x.x0 ≤ 999) ∧ (0 ≤ x.x1 ∧ x.x1 ≤ 999) ∧ (0 ≤ x.x2 ∧ x.x2 ≤ 999)
theorem nd_small {ts ls : List T3} (h : netB ts ls = true) {k : Nat} (hk : k < ts.length + ls.length) : smB (ndX ts ls k) := by
  have ok := netB_iff.1 h
  unfold ndX smB
  by_cases hlt : k < ts.length
  · rw [if_pos hlt]
    have := ok.tow k hlt
    omega
  · rw [if_neg hlt]
    have := ok.lnk (k - ts.length) (by omega)
    have := ok.t16
    omega
theorem l3_get {x : T3} (h : smB x) (i : Nat) (hi : i < (l3 x).length) : 0 ≤ (l3 x)[i]?.getD 0 ∧ (l3 x)[i]?.getD 0 ≤ 999 := by
  obtain ⟨h0, h1, h2⟩ := h
  match i, hi with
  | 0, _ => exact h0
  | 1, _ => exact h1
  | 2, _ => exact h2
theorem l3_len (x : T3) : (l3 x).length = 3 := rfl
theorem line3_size {x : T3} (h : smB x) (k : Nat) (hk : k ≤ 3) : (lineS 32 (l3 x) k).size ≤ 4 * k := by
  have := lineTo_len (b := 32) (m := 3) (zs := l3 x) (fun i hi => by have := l3_get h i hi; constructor <;> omega) (by decide) k hk
  rw [lineS_size]; omega
theorem num3_size {x : T3} (h : smB x) : (num3 x).size ≤ 12 := line3_size h 3 (Nat.le_refl _)
theorem wd_size (b : Bool) : (if b then twW else lkW).size ≤ 5 := by cases b <;> decide
theorem ndL_size {b : Bool} {x : T3} (h : smB x) : (ndL b x).size ≤ 19 := by
  have h1 := num3_size h
  have h2 := wd_size b
  have e1 : (⟨#[32]⟩ : ByteArray).size = 1 := rfl
  have e2 : (⟨#[10]⟩ : ByteArray).size = 1 := rfl
  unfold ndL
  simp only [ByteArray.size_append, e1, e2]
  omega
theorem neT_size {ts ls : List T3} (h : netB ts ls = true) (k : Nat) (hk : k ≤ ts.length + ls.length) : (neT ts ls k).size ≤ k * 19 := by
  induction k with
  | zero => exact Nat.le_refl 0
  | succ k ih =>
    have h1 := ih (by omega)
    have h2 := ndL_size (b := ndB ts k) (nd_small h (k := k) (by omega))
    rw [neT, ByteArray.size_append, Nat.succ_mul]
    omega
theorem neT_tow {ts ls : List T3} {k : Nat} (hk : k < ts.length) : neT ts ls (k + 1) = neT ts ls k ++ (twW ++ ⟨#[32]⟩ ++ num3 (rAt ts k) ++ ⟨#[10]⟩) := by
  rw [neT, ndB, ndX, if_pos hk, decide_eq_true hk]; rfl
theorem neT_lnk {ts ls : List T3} {n k : Nat} (hn : n = ts.length) : neT ts ls (n + k + 1) = neT ts ls (n + k) ++ (lkW ++ ⟨#[32]⟩ ++ num3 (rAt ls k) ++ ⟨#[10]⟩) := by
  subst hn
  have hlt : ¬ ts.length + k < ts.length := by omega
  rw [neT, ndB, ndX, if_neg hlt, decide_eq_false hlt, show ts.length + k - ts.length = k by omega]; rfl
def ntB (ts ls : List T3) : ByteArray := if netB ts ls then neT ts ls (ts.length + ls.length) else ⟨#[]⟩
theorem ntB_yes {ts ls : List T3} (h : netB ts ls = true) : ntB ts ls = neT ts ls (ts.length + ls.length) := by simp [ntB, h]
theorem ntB_no {ts ls : List T3} (h : netB ts ls = false) : ntB ts ls = ⟨#[]⟩ := by simp [ntB, h]
end Go.Proofs.YtfmmkiijohnbfaaDoor
