/- Chapter 5: words, their sums, signals that stand for residues. No program in sight. -/
import Derived.Test.YtnkcmadjeofedaaDoorBk4
namespace Go.Proofs.YtnkcmadjeofedaaDoor
open Go.RowKit
set_option linter.unusedSimpArgs false
set_option linter.unusedVariables false

def nth (zs : List Int) (i : Nat) : Int := zs[i]?.getD 0
def okI (c : Bool) (x : Int) : Int := if c then x else 0
theorem okI_yes {c : Bool} {x : Int} (h : c = true) : okI c x = x := by simp [okI, h]
theorem okI_no {c : Bool} {x : Int} (h : c = false) : okI c x = 0 := by simp [okI, h]
theorem mul_bd {a b A B : Int} (a0 : 0 ≤ a) (a1 : a ≤ A) (b0 : 0 ≤ b) (b1 : b ≤ B) : 0 ≤ a * b ∧ a * b ≤ A * B :=
  ⟨Int.mul_nonneg a0 b0, Int.mul_le_mul a1 b1 b0 (by omega)⟩

/-- A word of at most m signals. -/
def ckB (m : Nat) (zs : List Int) : Bool := decide (zs.length ≤ m) && allIn zs 1 61
theorem ckB_len {m : Nat} {zs : List Int} (h : ckB m zs = true) : zs.length ≤ m := by simp [ckB] at h; exact h.1
theorem ckB_all {m : Nat} {zs : List Int} (h : ckB m zs = true) : allIn zs 1 61 = true := by simp [ckB] at h; exact h.2
theorem ckB_get {m : Nat} {zs : List Int} (h : ckB m zs = true) (i : Nat) (hi : i < zs.length) : 1 ≤ nth zs i ∧ nth zs i ≤ 61 := allIn_get (ckB_all h) i hi
theorem ckB_mono {m m' : Nat} {zs : List Int} (h : ckB m zs = true) (hm : m ≤ m') : ckB m' zs = true := by
  have a := ckB_len h
  have b := ckB_all h
  simp [ckB, b]; omega

/-- The sum and the weighted sum of the first k signals. -/
def smT (zs : List Int) : Nat → Int
  | 0 => 0
  | k + 1 => smT zs k + nth zs k
def wtT (zs : List Int) : Nat → Int
  | 0 => 0
  | k + 1 => wtT zs k + ((k : Int) + 1) * nth zs k
theorem smT_bd {zs : List Int} (h : ckB 50 zs = true) (k : Nat) (hk : k ≤ zs.length) : 0 ≤ smT zs k ∧ smT zs k ≤ 61 * k := by
  induction k with
  | zero => simp [smT]
  | succ k ih =>
    have := ih (by omega)
    have := ckB_get h k (by omega)
    simp only [smT]
    omega
theorem wtT_bd {zs : List Int} (h : ckB 50 zs = true) (k : Nat) (hk : k ≤ zs.length) : 0 ≤ wtT zs k ∧ wtT zs k ≤ 3050 * k := by
  induction k with
  | zero => simp [wtT]
  | succ k ih =>
    have := ih (by omega)
    have a := ckB_get h k (by omega)
    have hl := ckB_len h
    have := mul_bd (a := (k : Int) + 1) (A := 50) (by omega) (by omega) (show 0 ≤ nth zs k by omega) a.2
    simp only [wtT]
    omega
def sA (zs : List Int) : Int := smT zs zs.length % 61
def sB (zs : List Int) : Int := wtT zs zs.length % 61
theorem sA_bd (zs : List Int) : 0 ≤ sA zs ∧ sA zs ≤ 60 := by unfold sA; omega
theorem sB_bd (zs : List Int) : 0 ≤ sB zs ∧ sB zs ≤ 60 := by unfold sB; omega

/-- The signal that stands for a number. -/
def sgn (n : Int) : Int := if n % 61 = 0 then 61 else n % 61
theorem sgn_bd (n : Int) : 1 ≤ sgn n ∧ sgn n ≤ 61 := by unfold sgn; split <;> omega
theorem sgn_mod (n : Int) : sgn n % 61 = n % 61 := by unfold sgn; split <;> omega
theorem sgn_congr {a b : Int} (h : a % 61 = b % 61) : sgn a = sgn b := by unfold sgn; rw [h]
theorem sgn_sub (a b : Int) : sgn (a - sgn b) = sgn (a - b) := sgn_congr (by have := sgn_mod b; omega)

/-- The two signals behind a word. -/
def pY (zs : List Int) : Int := sgn (((zs.length : Int) + 1) * sA zs - sB zs)
def pX (zs : List Int) : Int := sgn (-sA zs - pY zs)
theorem pX_eq (zs : List Int) : pX zs = sgn (-sA zs - (((zs.length : Int) + 1) * sA zs - sB zs)) := sgn_sub _ _

/-- The numbers whose product with a divisor is 1. -/
def invs : List Int := [0, 1, 31, 41, 46, 49, 51, 35, 23, 34, 55, 50, 56, 47, 48, 57, 42, 18, 17, 45, 58, 32, 25, 8, 28, 22, 54, 52, 24, 40, 59, 2, 21, 37, 9, 7, 39, 33, 53, 36, 29, 3, 16, 44, 43, 19, 4, 13, 14, 5, 11, 6, 27, 38, 26, 10, 12, 15, 20, 30, 60]
theorem invs_ok : ∀ k : Fin 61, 1 ≤ k.val → ((k.val : Int) * nth invs k.val) % 61 = 1 := by decide +kernel
theorem invs_bd : ∀ k : Fin 61, 0 ≤ nth invs k.val ∧ nth invs k.val ≤ 60 := by decide +kernel
/-- The place that a divisor gives to a weighted sum. -/
def quo (b a : Int) : Int := b * nth invs a.toNat % 61
theorem quo_bd (b a : Int) : 0 ≤ quo b a ∧ quo b a ≤ 60 := by unfold quo; omega
theorem quo_zero (b : Int) : quo b 0 = 0 := by
  have e : nth invs (0 : Int).toNat = 0 := by decide
  unfold quo; rw [e, Int.mul_zero]; decide
theorem quo_iff {a b : Int} (a0 : 1 ≤ a) (a1 : a ≤ 60) (b0 : 0 ≤ b) (b1 : b ≤ 60) (p : Int) (p0 : 0 ≤ p) (p1 : p ≤ 60) : p * a % 61 = b ↔ p = quo b a := by
  have hi := invs_ok ⟨a.toNat, by omega⟩ (by show 1 ≤ a.toNat; omega)
  have e : ((a.toNat : Nat) : Int) = a := Int.toNat_of_nonneg (by omega)
  simp only [e] at hi
  unfold quo
  obtain ⟨v, hv⟩ : ∃ v, v = nth invs a.toNat := ⟨_, rfl⟩
  rw [← hv] at hi ⊢
  constructor
  · intro h
    have h1 : (b * v) % 61 = (p * a * v) % 61 := by
      rw [← h, Int.mul_emod, Int.emod_emod_of_dvd _ (by decide : (61 : Int) ∣ 61), ← Int.mul_emod]
    rw [h1, Int.mul_assoc, Int.mul_emod, hi, Int.mul_one, Int.emod_emod_of_dvd _ (by decide : (61 : Int) ∣ 61)]
    omega
  · intro h
    have h1 : (p * a) % 61 = (b * v * a) % 61 := by
      rw [h, Int.mul_emod, Int.emod_emod_of_dvd _ (by decide : (61 : Int) ∣ 61), ← Int.mul_emod]
    rw [h1, Int.mul_assoc, Int.mul_comm v a, Int.mul_emod, hi, Int.mul_one, Int.emod_emod_of_dvd _ (by decide : (61 : Int) ∣ 61)]
    omega

/-! ### A word corrected -/
def hldB (zs : List Int) : Bool := sA zs == 0 && sB zs == 0
/-- The place of the wrong signal, counted from 1; what is none is no place. -/
def plc (zs : List Int) : Int := quo (sB zs) (sA zs)
def fixB (zs : List Int) : Bool := inB (plc zs) 1 zs.length
def corB (zs : List Int) : Bool := ckB 50 zs && (hldB zs || fixB zs)
def fixL (zs : List Int) : List Int := zs.set (plc zs - 1).toNat (sgn (nth zs (plc zs - 1).toNat - sA zs))
def corL (zs : List Int) : List Int := if ckB 50 zs then (if hldB zs then zs else if fixB zs then fixL zs else []) else []
theorem corL_len (zs : List Int) : (corL zs).length ≤ zs.length := by
  unfold corL
  split
  · split
    · omega
    · split
      · simp [fixL]
      · simp
  · simp
theorem corL_small (zs : List Int) : (corL zs).length ≤ 50 := by
  cases h : ckB 50 zs with
  | false => simp [corL, h]
  | true => have := corL_len zs; have := ckB_len h; omega
theorem plc_zero {zs : List Int} (h : sA zs = 0) : plc zs = 0 := by unfold plc; rw [h, quo_zero]
theorem plc_iff {zs : List Int} (h : ¬ sA zs = 0) (p : Int) (p0 : 0 ≤ p) (p1 : p ≤ 60) : p * sA zs % 61 = sB zs ↔ p = plc zs := by
  have a := sA_bd zs
  have b := sB_bd zs
  exact quo_iff (by omega) a.2 b.1 b.2 p p0 p1
/-- Does signal i stand at the place? -/
def hitB (zs : List Int) (i : Nat) : Bool := !(sA zs == 0) && (((i : Int) + 1) * sA zs % 61 == sB zs)
theorem hit_yes {zs : List Int} {i : Nat} (hi : i < 60) (h : hitB zs i = true) : plc zs = (i : Int) + 1 := by
  simp only [hitB, Bool.and_eq_true, Bool.not_eq_true', beq_eq_false_iff_ne, beq_iff_eq] at h
  exact ((plc_iff h.1 ((i : Int) + 1) (by omega) (by omega)).1 h.2).symm
theorem hit_of {zs : List Int} {i : Nat} (hi : i < 60) (h : plc zs = (i : Int) + 1) : hitB zs i = true := by
  have h0 : ¬ sA zs = 0 := fun e => by rw [plc_zero e] at h; omega
  simp only [hitB, Bool.and_eq_true, Bool.not_eq_true', beq_eq_false_iff_ne, beq_iff_eq]
  exact ⟨h0, (plc_iff h0 ((i : Int) + 1) (by omega) (by omega)).2 h.symm⟩
theorem fix_of_hit {zs : List Int} {i : Nat} (hw : ckB 50 zs = true) (hi : i < zs.length) (h : hitB zs i = true) : fixB zs = true ∧ fixL zs = zs.set i (sgn (nth zs i - sA zs)) := by
  have hl := ckB_len hw
  have hp := hit_yes (by omega) h
  refine ⟨inB_iff.2 (by omega), ?_⟩
  unfold fixL
  rw [hp]
  have : ((i : Int) + 1 - 1).toNat = i := by omega
  rw [this]
theorem no_fix {zs : List Int} (hw : ckB 50 zs = true) (h : ∀ i, i < zs.length → hitB zs i = false) : fixB zs = false := by
  have hl := ckB_len hw
  cases hf : fixB zs with
  | false => rfl
  | true =>
    have := inB_iff.1 hf
    have := hit_of (zs := zs) (i := (plc zs - 1).toNat) (by omega) (by omega)
    rw [h _ (by omega)] at this
    cases this
theorem hold_not_hit {zs : List Int} (h : hldB zs = true) : fixB zs = false := by
  simp only [hldB, Bool.and_eq_true, beq_iff_eq] at h
  unfold fixB
  rw [plc_zero h.1]
  exact inB_no (by omega)
end Go.Proofs.YtnkcmadjeofedaaDoor
