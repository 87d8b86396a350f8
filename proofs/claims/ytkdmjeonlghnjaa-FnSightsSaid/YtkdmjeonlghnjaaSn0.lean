/- Sights: what FnSights says, without the program. -/
import Derived.Test.YtkdmjeonlghnjaaSiD
import Derived.Test.YtkdmjeonlghnjaaSiA
import Derived.Test.YtkdmjeonlghnjaaHt0
namespace Go.Proofs.Ytkdmjeonlghnjaa
open Go.RowKit
set_option linter.unusedSimpArgs false
set_option linter.unusedVariables false

theorem rvT_at {D : Int} {ts : List T2} {k i : Nat} (h : i < k) : rAt (rvT D ts k) i = ⟨D - (rAt ts (ts.length - 1 - i)).x0, (rAt ts (ts.length - 1 - i)).x1⟩ := by
  unfold rvT rAt
  simp [h]
theorem ovr_turn (D A B n x h : Int) : ovr D B A n ⟨D - x, h⟩ = ovr D A B n ⟨x, h⟩ := by
  rw [← ovr_room, ← ovr_room]
  show 50968 * (B * (D - (D - x)) + A * (D - x) - h * D) - 5 * (8 - n) * (D - x) * (D - (D - x)) * D = 50968 * (A * (D - x) + B * x - h * D) - 5 * (8 - n) * x * (D - x) * D
  rw [show D - (D - x) = x by omega, show 5 * (8 - n) * (D - x) * x = 5 * (8 - n) * x * (D - x) by rw [Int.mul_assoc, Int.mul_comm (D - x) x, ← Int.mul_assoc]]
  omega
theorem SiOk.turn {D A B : Int} {ts : List T2} (h : SiOk D A B ts) : SiOk D B A (rvT D ts ts.length) := by
  refine ⟨h.d1, h.d9, h.b0, h.b3, h.a0, h.a3, by rw [rvT_len]; exact h.n, ?_, ?_⟩
  · intro i hi
    rw [rvT_len] at hi
    rw [rvT_at hi]
    have := h.grd (ts.length - 1 - i) (by omega)
    simp only
    omega
  · intro i hi
    rw [rvT_len] at hi
    rw [rvT_at (by omega), rvT_at hi]
    have := h.stp (ts.length - 1 - (i + 1)) (by omega)
    rw [show ts.length - 1 - (i + 1) + 1 = ts.length - 1 - i by omega] at this
    simp only
    omega
theorem rvT_twice (D : Int) (ts : List T2) : rvT D (rvT D ts ts.length) ts.length = ts := by
  apply List.ext_getElem (by simp [rvT])
  intro i h1 h2
  have h1' : i < ts.length := h2
  have e : rAt (rvT D (rvT D ts ts.length) ts.length) i = rAt ts i := by
    rw [rvT_at h1', rvT_len, rvT_at (by omega)]
    rw [show ts.length - 1 - (ts.length - 1 - i) = i by omega]
    simp only
    rw [show D - (D - (rAt ts i).x0) = (rAt ts i).x0 by omega]
  unfold rAt at e
  simpa [List.getElem?_eq_getElem h1, List.getElem?_eq_getElem h2] using e
theorem seesB_turn (D A B n : Int) (ts : List T2) : seesB D B A n (rvT D ts ts.length) = seesB D A B n ts := by
  rw [Bool.eq_iff_iff, seesB_iff, seesB_iff]
  rw [rvT_len]
  constructor
  · intro h i hi
    have := h (ts.length - 1 - i) (by omega)
    rw [rvT_at (by omega), ovr_turn, show ts.length - 1 - (ts.length - 1 - i) = i by omega] at this
    exact this
  · intro h i hi
    rw [rvT_at hi, ovr_turn]
    exact h _ (by omega)
theorem ovr_bend {D A B n n' : Int} {g : T2} (hn : n ≤ n') (hD : 0 ≤ D) (h1 : 0 ≤ g.x0) (h2 : g.x0 ≤ D) : ovr D A B n g ≤ ovr D A B n' g := by
  rw [← ovr_room, ← ovr_room]
  have a := Int.mul_le_mul_of_nonneg_right (show 5 * (8 - n') ≤ 5 * (8 - n) by omega) h1
  have b := Int.mul_le_mul_of_nonneg_right a (show 0 ≤ D - g.x0 by omega)
  have c := Int.mul_le_mul_of_nonneg_right b hD
  omega
theorem seesB_bend {D A B n n' : Int} {ts : List T2} (ok : SiOk D A B ts) (hn : n ≤ n') (h : seesB D A B n ts = true) : seesB D A B n' ts = true := by
  rw [seesB_iff] at h ⊢
  intro i hi
  have := ok.grd i hi
  exact Int.le_trans (h i hi) (ovr_bend hn (by have := ok.d1; omega) (by omega) (by omega))
theorem mnT_nonneg {D A B n : Int} {ts : List T2} {k : Nat} : 0 ≤ mnT D A B n ts k ↔ ∀ i, i ≤ k → 0 ≤ ovr D A B n (rAt ts i) := by
  induction k with
  | zero =>
    constructor
    · intro h i hi
      obtain rfl : i = 0 := by omega
      exact h
    · intro h; exact h 0 (Nat.le_refl _)
  | succ k ih =>
    show 0 ≤ min (mnT D A B n ts k) (ovr D A B n (rAt ts (k + 1))) ↔ _
    constructor
    · intro h i hi
      rcases Nat.lt_or_eq_of_le hi with h1 | rfl
      · exact ih.1 (by omega) i (by omega)
      · omega
    · intro h
      have h1 := ih.2 fun i hi => h i (by omega)
      have h2 := h (k + 1) (Nat.le_refl _)
      omega
/-- The clearance tells whether the towers see each other. -/
theorem clear_tells {D A B n : Int} {ts : List T2} (h : clB D A B n ts = true) : askB D A B n ts = true ∧ (0 ≤ clX D A B n ts ↔ seesB D A B n ts = true) ∧ 1 ≤ clY D A B n ts := by
  have h' := h
  unfold clB at h'
  rw [Bool.and_eq_true, decide_eq_true_eq] at h'
  have ok := sightB_iff.1 (ask_split.1 h'.1).1
  have d1 := ok.d1
  rw [clX_yes h, clY_yes h]
  have hP : 0 < 50968 * D := by omega
  have hg : 0 < Int.gcd (clM D A B n ts) (50968 * D) := Int.gcd_pos_of_ne_zero_right _ (by omega)
  have hd : ((Int.gcd (clM D A B n ts) (50968 * D) : Nat) : Int) ∣ clM D A B n ts := Int.gcd_dvd_left ..
  have hd2 : ((Int.gcd (clM D A B n ts) (50968 * D) : Nat) : Int) ∣ 50968 * D := Int.gcd_dvd_right ..
  generalize Int.gcd (clM D A B n ts) (50968 * D) = g at *
  have hM : 0 ≤ clM D A B n ts ↔ seesB D A B n ts = true := by
    unfold clM
    rw [mnT_nonneg, seesB_iff]
    have := h'.2
    exact ⟨fun q i hi => q i (by omega), fun q i hi => q i (by omega)⟩
  refine ⟨h'.1, ?_, ?_⟩
  · rw [← hM]
    obtain ⟨q, hq⟩ := hd
    rw [hq, Int.mul_tdiv_cancel_left _ (by omega)]
    constructor
    · intro h0; exact Int.mul_nonneg (by omega) h0
    · intro h0
      exact Int.nonneg_of_mul_nonneg_right h0 (by omega)
  · obtain ⟨q, hq⟩ := hd2
    rw [hq, Int.mul_ediv_cancel_left _ (by omega)]
    have : 0 < q := by
      rw [hq] at hP
      exact Int.pos_of_mul_pos_right hP (by omega)
    omega
theorem bulge_turn {D x n : Int} (h : bgB D x n = true) : bgB D (D - x) n = true ∧ bgV D (D - x) n = bgV D x n ∧ 0 ≤ bgV D x n ∧ (0 ≤ D - x ∧ D - x ≤ 999) := by
  have h' := h
  unfold bgB at h'
  simp only [Bool.and_eq_true, inB_iff] at h'
  have hb : bgB D (D - x) n = true := by
    unfold bgB
    simp only [Bool.and_eq_true, inB_iff]
    omega
  rw [bgV_yes h, bgV_yes hb]
  refine ⟨hb, ?_, ?_, by omega⟩
  · rw [show D - (D - x) = x by omega, show 5 * (8 - n) * (D - x) * x = 5 * (8 - n) * x * (D - x) by rw [Int.mul_assoc, Int.mul_comm (D - x) x, ← Int.mul_assoc]]
  · apply Int.ediv_nonneg _ (by omega)
    have := Int.mul_nonneg (Int.mul_nonneg (show 0 ≤ 5 * (8 - n) by omega) (show 0 ≤ x by omega)) (show 0 ≤ D - x by omega)
    omega
end Go.Proofs.Ytkdmjeonlghnjaa
