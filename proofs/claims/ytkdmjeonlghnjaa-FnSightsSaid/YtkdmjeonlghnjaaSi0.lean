/- Chapter 7: sights, the plain part. -/
import Derived.Test.YtkdmjeonlghnjaaTy2
import Derived.Test.YtkdmjeonlghnjaaHelp
import Derived.Test.YtkdmjeonlghnjaaBk4
namespace Go.Proofs.Ytkdmjeonlghnjaa
open Go.RowKit
set_option linter.unusedSimpArgs false
set_option linter.unusedVariables false

def grdB (z : Int) (g : T2) : Bool := inB g.x0 1 z && inB g.x1 0 3000
/-- Ground i stands behind the one before it. -/
def stpB (ts : List T2) (i : Nat) : Bool := decide (i = 0) || decide ((rAt ts (i - 1)).x0 < (rAt ts i).x0)
def endB (D A B : Int) (n : Nat) : Bool := inB D 1 999 && inB A 0 3000 && inB B 0 3000 && decide (n ≤ 20)
def sightB (D A B : Int) (ts : List T2) : Bool := (List.range ts.length).all (fun i => grdB (D - 1) (rAt ts i) && stpB ts i) && endB D A B ts.length

structure SiOk (D A B : Int) (ts : List T2) : Prop where
  d1 : 1 ≤ D
  d9 : D ≤ 999
  a0 : 0 ≤ A
  a3 : A ≤ 3000
  b0 : 0 ≤ B
  b3 : B ≤ 3000
  n : ts.length ≤ 20
  grd : ∀ i, i < ts.length → 1 ≤ (rAt ts i).x0 ∧ (rAt ts i).x0 < D ∧ 0 ≤ (rAt ts i).x1 ∧ (rAt ts i).x1 ≤ 3000
  stp : ∀ i, i + 1 < ts.length → (rAt ts i).x0 < (rAt ts (i + 1)).x0
theorem endB_iff {D A B : Int} {n : Nat} : endB D A B n = true ↔ (1 ≤ D ∧ D ≤ 999) ∧ (0 ≤ A ∧ A ≤ 3000) ∧ (0 ≤ B ∧ B ≤ 3000) ∧ n ≤ 20 := by simp [endB, inB_iff, and_assoc]
theorem grdB_iff {z : Int} {g : T2} : grdB z g = true ↔ (1 ≤ g.x0 ∧ g.x0 ≤ z) ∧ 0 ≤ g.x1 ∧ g.x1 ≤ 3000 := by simp [grdB, inB_iff]
theorem sightB_iff {D A B : Int} {ts : List T2} : sightB D A B ts = true ↔ SiOk D A B ts := by
  unfold sightB
  simp only [Bool.and_eq_true, List.all_eq_true, List.mem_range, endB_iff]
  constructor
  · rintro ⟨h1, ⟨h2, h3⟩, ⟨h4, h5⟩, ⟨h6, h7⟩, h8⟩
    exact ⟨h2, h3, h4, h5, h6, h7, h8, fun i hi => by have := grdB_iff.1 (h1 i hi).1; omega, fun i hi => by
      have := (h1 (i + 1) hi).2
      unfold stpB at this
      simpa using this⟩
  · intro h
    refine ⟨fun i hi => ⟨grdB_iff.2 (by have := h.grd i hi; omega), ?_⟩, ⟨h.d1, h.d9⟩, ⟨h.a0, h.a3⟩, ⟨h.b0, h.b3⟩, h.n⟩
    cases i with
    | zero => simp [stpB]
    | succ i => unfold stpB; simp; exact h.stp i hi
/-- The model's tests, made with the number z that D - 1 gives it. -/
theorem sight_no {D A B z : Int} {ts : List T2} (hz : IntKind.i64.wrap (D - 1) = z) {i : Nat} (hi : i < ts.length) (h : grdB z (rAt ts i) = false ∨ stpB ts i = false) : sightB D A B ts = false := by
  cases e : sightB D A B ts with
  | false => rfl
  | true =>
    have ok := sightB_iff.1 e
    have hz' : z = D - 1 := by rw [← hz]; exact IntWalk.i64_in _ (by have := ok.d1; have := ok.d9; omega)
    subst hz'
    unfold sightB at e
    simp only [Bool.and_eq_true, List.all_eq_true, List.mem_range] at e
    have := e.1 i hi
    rcases h with h | h <;> rw [h] at this <;> simp at this
theorem sight_yes {D A B z : Int} {ts : List T2} (hz : IntKind.i64.wrap (D - 1) = z) (h : ∀ i, i < ts.length → grdB z (rAt ts i) = true ∧ stpB ts i = true) : sightB D A B ts = endB D A B ts.length := by
  cases he : endB D A B ts.length with
  | false => unfold sightB; rw [he]; simp
  | true =>
    have ok := endB_iff.1 he
    have hz' : z = D - 1 := by rw [← hz]; exact IntWalk.i64_in _ (by omega)
    subst hz'
    unfold sightB
    rw [he, Bool.and_true, List.all_eq_true]
    intro i hi
    have := h i (List.mem_range.1 hi)
    rw [this.1, this.2]; rfl
theorem sight_end {D A B : Int} {ts : List T2} (h : endB D A B ts.length = false) : sightB D A B ts = false := by unfold sightB; rw [h]; simp
/-- The program's test of a Ground: behind the one before it, ahead of the distance, of a height. -/
theorem sight_grd {D A B : Int} {ts : List T2} {i : Nat} (hi : i < ts.length) (h : ¬ (1 ≤ (rAt ts i).x0 ∧ (rAt ts i).x0 < D ∧ 0 ≤ (rAt ts i).x1 ∧ (rAt ts i).x1 ≤ 3000)) : sightB D A B ts = false := by
  cases e : sightB D A B ts with
  | false => rfl
  | true => exact absurd ((sightB_iff.1 e).grd i hi) h
theorem sight_stp {D A B : Int} {ts : List T2} {i : Nat} (hi : i + 1 < ts.length) (h : ¬ (rAt ts i).x0 < (rAt ts (i + 1)).x0) : sightB D A B ts = false := by
  cases e : sightB D A B ts with
  | false => rfl
  | true => exact absurd ((sightB_iff.1 e).stp i hi) h

/-- By how much the line is higher than the ground and the bulge, times 50968 and the distance, as the model reckons it. -/
def ovr (D A B n : Int) (g : T2) : Int := (A * D + (B - A) * g.x0) * 50968 - (g.x1 * 50968 + 5 * (8 - n) * g.x0 * (D - g.x0)) * D
theorem ovr_room (D A B n : Int) (g : T2) : 50968 * (A * (D - g.x0) + B * g.x0 - g.x1 * D) - 5 * (8 - n) * g.x0 * (D - g.x0) * D = ovr D A B n g := by
  unfold ovr
  simp only [Int.sub_mul, Int.mul_sub, Int.add_mul, Int.mul_add, Int.mul_assoc, Int.mul_comm, Int.mul_left_comm]
  omega

/-- The blocked Grounds among the first k. -/
def blkT (D A B n : Int) (ts : List T2) (k : Nat) : List Int := ((List.range k).filter fun i => decide (ovr D A B n (rAt ts i) < 0)).map fun i : Nat => (i : Int)
def blkL (D A B n : Int) (ts : List T2) : List Int := blkT D A B n ts ts.length
theorem blkT_zero (D A B n : Int) (ts : List T2) : blkT D A B n ts 0 = [] := rfl
theorem blkT_yes {D A B n : Int} {ts : List T2} {k : Nat} (h : ovr D A B n (rAt ts k) < 0) : blkT D A B n ts (k + 1) = blkT D A B n ts k ++ [(k : Int)] := by simp [blkT, List.range_succ, List.filter_append, h]
theorem blkT_no {D A B n : Int} {ts : List T2} {k : Nat} (h : ¬ ovr D A B n (rAt ts k) < 0) : blkT D A B n ts (k + 1) = blkT D A B n ts k := by simp [blkT, List.range_succ, List.filter_append]; omega
theorem blkT_len (D A B n : Int) (ts : List T2) (k : Nat) : (blkT D A B n ts k).length ≤ k := by
  unfold blkT; rw [List.length_map]; exact Nat.le_trans (List.length_filter_le _ _) (by simp)
/-- No Ground is too high. -/
def seesB (D A B n : Int) (ts : List T2) : Bool := (List.range ts.length).all fun i => decide (0 ≤ ovr D A B n (rAt ts i))
theorem seesB_iff {D A B n : Int} {ts : List T2} : seesB D A B n ts = true ↔ ∀ i, i < ts.length → 0 ≤ ovr D A B n (rAt ts i) := by simp [seesB]
theorem seesB_blk (D A B n : Int) (ts : List T2) : seesB D A B n ts = decide ((blkL D A B n ts).length = 0) := by
  rw [Bool.eq_iff_iff, seesB_iff, decide_eq_true_eq]
  unfold blkL blkT
  rw [List.length_map, List.length_eq_zero_iff, List.filter_eq_nil_iff]
  simp

theorem mul_le {a b x y : Int} (ha : 0 ≤ a) (hb : 0 ≤ b) (h1 : a ≤ x) (h2 : b ≤ y) : 0 ≤ a * b ∧ a * b ≤ x * y :=
  ⟨Int.mul_nonneg ha hb, Int.mul_le_mul h1 h2 hb (by omega)⟩
/-- The bounds of what the sums go through. -/
structure Bnd (D A B n : Int) (g : T2) : Prop where
  d1 : 1 ≤ D
  d9 : D ≤ 999
  a0 : 0 ≤ A
  a6 : A ≤ 6001
  b0 : 0 ≤ B
  b6 : B ≤ 6001
  n0 : 0 ≤ n
  n3 : n ≤ 3
  x1 : 1 ≤ g.x0
  xd : g.x0 < D
  h0 : 0 ≤ g.x1
  h3 : g.x1 ≤ 3000
theorem Bnd.bul {D A B n : Int} {g : T2} (h : Bnd D A B n g) : (0 ≤ 5 * (8 - n) * g.x0 ∧ 5 * (8 - n) * g.x0 ≤ 40 * 999) ∧ 0 ≤ 5 * (8 - n) * g.x0 * (D - g.x0) ∧ 5 * (8 - n) * g.x0 * (D - g.x0) ≤ 40 * 999 * 999 := by
  obtain ⟨h1, h2, h3, h4, h5, h6, h7, h8, h9, ha, hb, hc⟩ := h
  have p := mul_le (a := 5 * (8 - n)) (b := g.x0) (x := 40) (y := 999) (by omega) (by omega) (by omega) (by omega)
  have q := mul_le (a := 5 * (8 - n) * g.x0) (b := D - g.x0) (x := 40 * 999) (y := 999) p.1 (by omega) p.2 (by omega)
  exact ⟨p, q⟩
theorem mul_abs {a b x y : Int} (ha : -x ≤ a ∧ a ≤ x) (hb : 0 ≤ b ∧ b ≤ y) (hx : 0 ≤ x) : -(x * y) ≤ a * b ∧ a * b ≤ x * y := by
  have h1 : a * b ≤ x * b := Int.mul_le_mul_of_nonneg_right ha.2 hb.1
  have h2 : -x * b ≤ a * b := Int.mul_le_mul_of_nonneg_right ha.1 hb.1
  have h3 : x * b ≤ x * y := Int.mul_le_mul_of_nonneg_left hb.2 hx
  rw [Int.neg_mul] at h2
  omega
theorem ovr_mono {D A B n : Int} {A' B' : Int} {g : T2} (hA : A ≤ A') (hB : B ≤ B') (h1 : 0 ≤ g.x0) (h2 : g.x0 ≤ D) : ovr D A B n g ≤ ovr D A' B' n g := by
  rw [← ovr_room, ← ovr_room]
  have := Int.mul_le_mul_of_nonneg_right hA (show 0 ≤ D - g.x0 by omega)
  have := Int.mul_le_mul_of_nonneg_right hB h1
  omega
theorem seesB_mono {D A B n : Int} {A' B' : Int} {ts : List T2} (hA : A ≤ A') (hB : B ≤ B') (h : ∀ i, i < ts.length → 0 ≤ (rAt ts i).x0 ∧ (rAt ts i).x0 ≤ D) (hs : seesB D A B n ts = true) : seesB D A' B' n ts = true := by
  rw [seesB_iff] at hs ⊢
  intro i hi
  exact Int.le_trans (hs i hi) (ovr_mono hA hB (h i hi).1 (h i hi).2)

/-- The first place below n at which p holds; n, if there is none. -/
def fstP (p : Nat → Bool) (n : Nat) : Nat := ((List.range n).findIdx p)
theorem fstP_eq {p : Nat → Bool} {n h : Nat} (hn : h ≤ n) (h1 : ∀ t, t < h → p t = false) (h2 : h < n → p h = true) : fstP p n = h := by
  unfold fstP
  by_cases hl : h < n
  · rw [List.findIdx_eq (by simpa using hl)]
    refine ⟨by simpa using h2 hl, fun j hj => ?_⟩
    simpa using h1 j hj
  · have : h = n := by omega
    subst this
    have := List.findIdx_eq_length_of_false (xs := List.range h) (p := p) (fun x hx => by simpa using h1 x (List.mem_range.1 hx))
    simpa using this
end Go.Proofs.Ytkdmjeonlghnjaa
