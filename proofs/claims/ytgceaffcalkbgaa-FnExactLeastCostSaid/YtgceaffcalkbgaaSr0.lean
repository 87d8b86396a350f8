/- Chapter 4: indices in a stable order: insertion from the right. -/
import Derived.Test.YtgceaffcalkbgaaCo2
import Derived.Test.YtgceaffcalkbgaaIv
namespace Go.Proofs.Ytgceaffcalkbgaa
open Go.RowKit
set_option linter.unusedSimpArgs false
set_option linter.unusedVariables false

def posF (p : Nat → Bool) (S : List Nat) : Nat → Nat
  | 0 => 0
  | j + 1 => if p (S.getD j 0) then posF p S j else j + 1
def arrS (S : List Nat) (x : Nat) (rest : List Nat) (j : Nat) : List Nat := S.take j ++ x :: (S.drop j ++ rest)
def insR (p : Nat → Bool) (x : Nat) (S : List Nat) : List Nat := S.take (posF p S S.length) ++ x :: S.drop (posF p S S.length)
/-- The first k indices in order; lt x y: x comes before y. -/
def ordTo (lt : Nat → Nat → Bool) : Nat → List Nat
  | 0 => []
  | k + 1 => insR (fun y => lt k y) k (ordTo lt k)
theorem posF_le (p : Nat → Bool) (S : List Nat) (j : Nat) : posF p S j ≤ j := by
  induction j with
  | zero => exact Nat.le_refl _
  | succ j ih => rw [posF]; split <;> omega
theorem posF_yes {p : Nat → Bool} {S : List Nat} {j : Nat} (h : p (S.getD j 0) = true) : posF p S (j + 1) = posF p S j := by rw [posF, if_pos h]
theorem posF_no {p : Nat → Bool} {S : List Nat} {j : Nat} (h : p (S.getD j 0) = false) : posF p S (j + 1) = j + 1 := by rw [posF, h, if_neg (by simp)]
theorem insR_len (p : Nat → Bool) (x : Nat) (S : List Nat) : (insR p x S).length = S.length + 1 := by
  have := posF_le p S S.length
  simp [insR]; omega
theorem ordTo_len (lt : Nat → Nat → Bool) (k : Nat) : (ordTo lt k).length = k := by
  induction k with
  | zero => rfl
  | succ k ih => rw [ordTo, insR_len, ih]
theorem insR_mem {p : Nat → Bool} {x y : Nat} {S : List Nat} : y ∈ insR p x S ↔ y = x ∨ y ∈ S := by
  unfold insR
  rw [List.mem_append, List.mem_cons]
  constructor
  · rintro (h | h | h)
    · exact .inr (List.mem_of_mem_take h)
    · exact .inl h
    · exact .inr (List.mem_of_mem_drop h)
  · rintro (h | h)
    · exact .inr (.inl h)
    · rw [← List.take_append_drop (posF p S S.length) S, List.mem_append] at h
      rcases h with h | h
      · exact .inl h
      · exact .inr (.inr h)
theorem ordTo_mem {lt : Nat → Nat → Bool} {k y : Nat} : y ∈ ordTo lt k ↔ y < k := by
  induction k with
  | zero => simp [ordTo]
  | succ k ih => rw [ordTo, insR_mem, ih]; omega
theorem ordTo_lt {lt : Nat → Nat → Bool} {k i : Nat} (h : i < k) : (ordTo lt k).getD i 0 < k := by
  refine (ordTo_mem (lt := lt)).1 ?_
  have : i < (ordTo lt k).length := by rw [ordTo_len]; exact h
  rw [List.getD_eq_getElem?_getD, List.getElem?_eq_getElem this]
  exact List.getElem_mem this
theorem insR_nodup {p : Nat → Bool} {x : Nat} {S : List Nat} (hx : x ∉ S) (hS : S.Nodup) : (insR p x S).Nodup := by
  have hp : (insR p x S).Perm (x :: S) := by
    unfold insR
    have := @List.perm_middle _ x (S.take (posF p S S.length)) (S.drop (posF p S S.length))
    rwa [List.take_append_drop] at this
  exact hp.nodup_iff.2 (List.nodup_cons.2 ⟨hx, hS⟩)
theorem ordTo_nodup (lt : Nat → Nat → Bool) (k : Nat) : (ordTo lt k).Nodup := by
  induction k with
  | zero => simp [ordTo]
  | succ k ih => rw [ordTo]; exact insR_nodup (fun h => by have := ordTo_mem.1 h; omega) ih

/-! The rows of the sort -/
def ints (l : List Nat) : List Int := l.map fun i : Nat => (i : Int)
theorem ints_len (l : List Nat) : (ints l).length = l.length := by simp [ints]
def seqF (i : Nat) (m : Nat) : List Nat := (List.range m).map fun j => i + j
theorem seqF_succ (i m : Nat) : seqF i (m + 1) = i :: seqF (i + 1) m := by
  unfold seqF
  rw [List.range_succ_eq_map, List.map_cons, List.map_map]
  congr 1
  apply List.map_congr_left
  intro j _
  show i + (j + 1) = i + 1 + j
  omega
/-- The row when i indices are in order. -/
def rowO (lt : Nat → Nat → Bool) (n i : Nat) : List Nat := ordTo lt i ++ seqF i (n - i)
/-- .. and index i has come down to place j. -/
def rowI (lt : Nat → Nat → Bool) (n i j : Nat) : List Nat := arrS (ordTo lt i) i (seqF (i + 1) (n - (i + 1))) j
theorem rowO_len {lt : Nat → Nat → Bool} {n i : Nat} (h : i ≤ n) : (rowO lt n i).length = n := by simp [rowO, ordTo_len, seqF]; omega
theorem rowI_len {lt : Nat → Nat → Bool} {n i j : Nat} (h : i < n) (hj : j ≤ i) : (rowI lt n i j).length = n := by simp [rowI, arrS, ordTo_len, seqF]; omega
theorem rowI_start {lt : Nat → Nat → Bool} {n i : Nat} (h : i < n) : rowI lt n i i = rowO lt n i := by
  unfold rowI rowO arrS
  have hl := ordTo_len lt i
  rw [List.take_of_length_le (by omega), List.drop_eq_nil_of_le (by omega), show n - i = (n - (i + 1)) + 1 by omega, seqF_succ, List.nil_append]
theorem rowI_end {lt : Nat → Nat → Bool} {n i j : Nat} (h : i < n) (hj : posF (fun y => lt i y) (ordTo lt i) i = j) : rowI lt n i j = rowO lt n (i + 1) := by
  unfold rowI rowO arrS
  rw [ordTo, insR, ordTo_len, hj, List.append_assoc, List.cons_append]
theorem rowI_at {lt : Nat → Nat → Bool} {n i j : Nat} (hj : j ≤ i) : (ints (rowI lt n i j))[j]? = some (i : Int) := by
  have hl := ordTo_len lt i
  unfold ints rowI arrS
  rw [List.map_append, List.getElem?_append_right (by simp; omega)]
  simp [hl, Nat.min_eq_left hj]
theorem rowI_before {lt : Nat → Nat → Bool} {n i j : Nat} (hj : j + 1 ≤ i) : (ints (rowI lt n i (j + 1)))[j]? = some (((ordTo lt i).getD j 0 : Nat) : Int) := by
  have hl := ordTo_len lt i
  unfold ints rowI arrS
  rw [List.map_append, List.getElem?_append_left (by simp; omega), List.getElem?_map, List.getElem?_take, if_pos (by omega), List.getElem?_eq_getElem (by omega), List.getD_eq_getElem?_getD, List.getElem?_eq_getElem (by omega)]
  rfl
theorem rowI_swap {lt : Nat → Nat → Bool} {n i j : Nat} (hj : j + 1 ≤ i) :
    ((ints (rowI lt n i (j + 1))).set (j + 1) (((ordTo lt i).getD j 0 : Nat) : Int)).set j (i : Int) = ints (rowI lt n i j) := by
  have hl := ordTo_len lt i
  have e : (ordTo lt i).take (j + 1) = (ordTo lt i).take j ++ [(ordTo lt i).getD j 0] := by
    rw [List.take_succ_eq_append_getElem (by omega), List.getD_eq_getElem?_getD, List.getElem?_eq_getElem (by omega)]; rfl
  have e2 : (ordTo lt i).drop j = (ordTo lt i).getD j 0 :: (ordTo lt i).drop (j + 1) := by
    rw [List.drop_eq_getElem_cons (by omega), List.getD_eq_getElem?_getD, List.getElem?_eq_getElem (by omega)]; rfl
  unfold ints rowI arrS
  rw [e2, e]
  have l1 : (List.map (fun i : Nat => (i : Int)) (List.take j (ordTo lt i))).length = j := by simp; omega
  simp only [List.map_append, List.map_cons, List.append_assoc, List.cons_append, List.nil_append, List.map_nil]
  rw [List.set_append_right _ _ (by omega), l1, show j + 1 - j = 1 by omega, List.set_cons_succ, List.set_cons_zero, List.set_append_right _ _ (by omega), l1, Nat.sub_self, List.set_cons_zero]
theorem rowO_zero (lt : Nat → Nat → Bool) (n : Nat) : rowO lt n 0 = seqF 0 n := by simp [rowO, ordTo]
theorem rowO_one (lt : Nat → Nat → Bool) (n : Nat) (h : 1 ≤ n) : rowO lt n 1 = seqF 0 n := by
  rw [rowO, show n = (n - 1) + 1 by omega, seqF_succ]
  simp [ordTo, insR, posF]
theorem rowO_all (lt : Nat → Nat → Bool) (n : Nat) : rowO lt n n = ordTo lt n := by simp [rowO, seqF]

/-- The comparison of two numbers. -/
def cmpZ (a b : Int) : Int := if a < b then -1 else if b < a then 1 else 0
theorem cmpZ_neg {a b : Int} : cmpZ a b < 0 ↔ a < b := by
  unfold cmpZ
  split
  · simp [*]
  · split <;> simp <;> omega
theorem isNaN_any (a : Int) (w : World) : Calls Try.prog 92 #[.int .i64 a] w fun e w' => e = .returned (.bool false) ∧ w = w' := by
  go_enter Try.func92, Try.ntmps92
  go_wp2
  go_ret
  exact ⟨ret_bool (by simp), rfl⟩
theorem compare_any (a b : Int) (w : World) : Calls Try.prog 57 #[.int .i64 a, .int .i64 b] w fun e w' => e = .returned (.int .i64 (cmpZ a b)) ∧ ∃ n, w' = w.drewN n := by
  by_cases h1 : a < b
  · have hf : Hid (cmpZ a b = -1) := Lib.hid (by simp [cmpZ, h1])
    go_enter Try.func57, Try.ntmps57
    go_wp2_with (go_at_call 92; refine (isNaN_any _ _).mono ?_; rintro e w' ⟨rfl, rfl⟩)
    go_ret
    exact ⟨ret_int hf.out.symm, 0, rfl⟩
  · by_cases h2 : b < a
    · have hf : Hid (cmpZ a b = 1) := Lib.hid (by simp [cmpZ, h1, h2])
      go_enter Try.func57, Try.ntmps57
      go_wp2_with (go_at_call 92; refine (isNaN_any _ _).mono ?_; rintro e w' ⟨rfl, rfl⟩)
      go_ret
      exact ⟨ret_int hf.out.symm, 0, rfl⟩
    · have hf : Hid (cmpZ a b = 0) := Lib.hid (by simp [cmpZ, h1, h2])
      go_enter Try.func57, Try.ntmps57
      go_wp2_with (go_at_call 92; refine (isNaN_any _ _).mono ?_; rintro e w' ⟨rfl, rfl⟩)
      go_ret
      exact ⟨ret_int hf.out.symm, 0, rfl⟩
end Go.Proofs.Ytgceaffcalkbgaa
