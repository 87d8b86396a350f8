/- Chapter 8: greedy covers: the plain part. -/
import Derived.Test.YtpmdjdlojbpcfaaStI
namespace Go.Proofs.Ytpmdjdlojbpcfaa
open Go.RowKit
set_option linter.unusedSimpArgs false
set_option linter.unusedVariables false

/-- The first greatest one so far, and how great. -/
def gbTo (g : Nat → Nat) : Nat → Nat × Nat
  | 0 => (0, 0)
  | k + 1 => if (gbTo g k).2 < g k then (k, g k) else gbTo g k
theorem gbTo_yes {g : Nat → Nat} {k : Nat} (h : (gbTo g k).2 < g k) : gbTo g (k + 1) = (k, g k) := by rw [gbTo, if_pos h]
theorem gbTo_no {g : Nat → Nat} {k : Nat} (h : ¬ (gbTo g k).2 < g k) : gbTo g (k + 1) = gbTo g k := by rw [gbTo, if_neg h]
theorem gbTo_max (g : Nat → Nat) (k : Nat) : ∀ i, i < k → g i ≤ (gbTo g k).2 := by
  induction k with
  | zero => intro i hi; omega
  | succ k ih =>
    intro i hi
    by_cases h : (gbTo g k).2 < g k
    · rw [gbTo_yes h]
      by_cases e : i = k
      · rw [e]; exact Nat.le_refl _
      · have := ih i (by omega); show g i ≤ g k; omega
    · rw [gbTo_no h]
      by_cases e : i = k
      · rw [e]; omega
      · exact ih i (by omega)
theorem gbTo_at (g : Nat → Nat) (k : Nat) : (gbTo g k = (0, 0)) ∨ ((gbTo g k).1 < k ∧ g (gbTo g k).1 = (gbTo g k).2 ∧ 0 < (gbTo g k).2) := by
  induction k with
  | zero => exact .inl rfl
  | succ k ih =>
    by_cases h : (gbTo g k).2 < g k
    · rw [gbTo_yes h]; exact .inr ⟨by simp, rfl, by show 0 < g k; omega⟩
    · rw [gbTo_no h]
      rcases ih with ih | ⟨h1, h2, h3⟩
      · exact .inl ih
      · exact .inr ⟨by omega, h2, h3⟩
theorem gbTo_le {g : Nat → Nat} {B : Nat} (h : ∀ i, g i ≤ B) (k : Nat) : (gbTo g k).1 ≤ k ∧ (gbTo g k).2 ≤ B := by
  rcases gbTo_at g k with h1 | ⟨h1, h2, -⟩
  · rw [h1]; exact ⟨Nat.zero_le _, Nat.zero_le _⟩
  · rw [← h2]; exact ⟨by omega, h _⟩

/-- Is spot j seen from none of them? -/
def unB (L : List (List Int)) (out : List Int) (j : Nat) : Bool := cntS L out j == 0
def gain (L : List (List Int)) (n : Nat) (out : List Int) (i : Nat) : Nat := (List.range n).countP fun j => hsB L i j && unB L out j
def unc (L : List (List Int)) (n : Nat) (out : List Int) : Nat := (List.range n).countP fun j => unB L out j
theorem gain_le (L : List (List Int)) (n : Nat) (out : List Int) (i : Nat) : gain L n out i ≤ n := Nat.le_trans List.countP_le_length (by simp)
theorem unc_le (L : List (List Int)) (n : Nat) (out : List Int) : unc L n out ≤ n := Nat.le_trans List.countP_le_length (by simp)
theorem cov_unc {L : List (List Int)} {n : Nat} {out : List Int} : covB L n out 1 = true ↔ unc L n out = 0 := by
  rw [covB_iff, unc, List.countP_eq_zero]
  simp only [List.mem_range, unB, beq_iff_eq]
  exact ⟨fun h j hj => by have := h j hj; omega, fun h j hj => by have := h j hj; omega⟩
theorem cnt_zero {L : List (List Int)} {zs : List Int} {j : Nat} : cntS L zs j = 0 ↔ ∀ x ∈ zs, hsB L x.toNat j = false := by
  unfold cntS; rw [List.countP_eq_zero]; simp
theorem mem_allL {m : Nat} {x : Int} : x ∈ allL m ↔ 0 ≤ x ∧ x < m := by
  constructor
  · exact fun h => (allL_ris m).2 x h
  · rintro ⟨h1, h2⟩
    simp only [allL, List.mem_map, List.mem_range]
    exact ⟨x.toNat, by omega, by omega⟩
def gBest (L : List (List Int)) (n : Nat) (out : List Int) : Nat × Nat := gbTo (gain L n out) L.length
def gStep (L : List (List Int)) (n : Nat) (out : List Int) : List Int := out ++ [((gBest L n out).1 : Int)]
def gSeq (L : List (List Int)) (n : Nat) : Nat → List Int
  | 0 => []
  | k + 1 => gStep L n (gSeq L n k)
theorem gSeq_len (L : List (List Int)) (n k : Nat) : (gSeq L n k).length = k := by
  induction k with
  | zero => rfl
  | succ k ih => simp [gSeq, gStep, ih]
/-- With something left that some site sees, the best one sees something. -/
theorem best_pos {L : List (List Int)} {n : Nat} {out : List Int} (hc : covB L n out 1 = false) (ha : covB L n (allL L.length) 1 = true) : 0 < (gBest L n out).2 := by
  have h1 : ¬ unc L n out = 0 := fun h => by rw [cov_unc.2 h] at hc; cases hc
  rw [unc, List.countP_eq_zero] at h1
  obtain ⟨j, h1⟩ := Classical.not_forall.1 h1
  simp only [Classical.not_imp, Classical.not_not, List.mem_range] at h1
  obtain ⟨hj, hu⟩ := h1
  have h2 : ¬ cntS L (allL L.length) j = 0 := by have := covB_iff.1 ha j hj; omega
  rw [cnt_zero] at h2
  obtain ⟨x, h2⟩ := Classical.not_forall.1 h2
  simp only [Classical.not_imp, Bool.not_eq_false, mem_allL] at h2
  obtain ⟨⟨hx1, hx2⟩, hx3⟩ := h2
  have h3 := gbTo_max (gain L n out) L.length x.toNat (by omega)
  have h4 : 0 < gain L n out x.toNat := by
    unfold gain
    rw [List.countP_pos_iff]
    exact ⟨j, by simpa using hj, by simp [hx3, hu]⟩
  unfold gBest
  omega
/-- With nothing that any site would see, not all sites cover. -/
theorem best_none {L : List (List Int)} {n : Nat} {out : List Int} (hc : covB L n out 1 = false) (hb : (gBest L n out).2 = 0) : covB L n (allL L.length) 1 = false := by
  cases ha : covB L n (allL L.length) 1 with
  | false => rfl
  | true => have := best_pos hc ha; omega
theorem unc_step {L : List (List Int)} {n i : Nat} {out : List Int} (hg : 0 < gain L n out i) : unc L n (out ++ [(i : Int)]) < unc L n out := by
  have e : unc L n out = unc L n (out ++ [(i : Int)]) + gain L n out i := by
    unfold unc gain
    generalize List.range n = l
    induction l with
    | nil => rfl
    | cons j l ih =>
      simp only [List.countP_cons, ih]
      have hj : unB L (out ++ [(i : Int)]) j = (unB L out j && !hsB L i j) := by
        unfold unB
        rw [cntS_snoc, Int.toNat_natCast, Bool.eq_iff_iff]
        cases hsB L i j <;> simp
      rw [hj]
      cases hsB L i j <;> cases unB L out j <;> simp <;> omega
  omega
theorem cov_all {L : List (List Int)} {n : Nat} {out : List Int} (hr : ∀ x ∈ out, 0 ≤ x ∧ x < (L.length : Int)) (hc : covB L n out 1 = true) : covB L n (allL L.length) 1 = true := by
  rw [covB_iff] at hc ⊢
  intro j hj
  have h1 : ¬ cntS L out j = 0 := by have := hc j hj; omega
  have h2 : ¬ cntS L (allL L.length) j = 0 := fun h => h1 (cnt_zero.2 fun x hx => cnt_zero.1 h x (mem_allL.2 (hr x hx)))
  omega
/-- What holds after k choices. -/
structure GrI (L : List (List Int)) (n k : Nat) (out : List Int) : Prop where
  eq : out = gSeq L n k
  nd : out.Nodup
  rg : ∀ x ∈ out, 0 ≤ x ∧ x < (L.length : Int)
  un : unc L n out + k ≤ n
  no : ∀ j, j < k → covB L n (gSeq L n j) 1 = false
theorem GrI.zero (L : List (List Int)) (n : Nat) : GrI L n 0 [] := ⟨rfl, List.nodup_nil, by simp, unc_le _ _ _, by intro j hj; omega⟩
theorem GrI.len {L : List (List Int)} {n k : Nat} {out : List Int} (h : GrI L n k out) : out.length = k ∧ k ≤ n ∧ k ≤ L.length := by
  refine ⟨by rw [h.eq, gSeq_len], by have := h.un; omega, ?_⟩
  have h1 : out.length ≤ (allL L.length).length := List.Nodup.length_le_of_subset h.nd (fun x hx => mem_allL.2 (h.rg x hx))
  rw [allL_len] at h1
  have : out.length = k := by rw [h.eq, gSeq_len]
  omega
theorem GrI.step {L : List (List Int)} {n k b : Nat} {out : List Int} (h : GrI L n k out) (hc : covB L n out 1 = false) (hb : (gBest L n out).1 = b) (hp : 0 < (gBest L n out).2) : GrI L n (k + 1) (out ++ [(b : Int)]) ∧ b < L.length := by
  have hat : b < L.length ∧ gain L n out b = (gBest L n out).2 := by
    rcases gbTo_at (gain L n out) L.length with h1 | ⟨h1, h2, -⟩
    · unfold gBest at hp; rw [h1] at hp; simp at hp
    · rw [← hb]; exact ⟨h1, h2⟩
  have hg : 0 < gain L n out b := by rw [hat.2]; exact hp
  refine ⟨⟨?_, ?_, ?_, ?_, ?_⟩, hat.1⟩
  · show _ = gStep L n (gSeq L n k)
    rw [← h.eq]; unfold gStep; rw [hb]
  · rw [List.nodup_append]
    refine ⟨h.nd, by simp, fun x hx y hy => ?_⟩
    simp at hy
    subst hy
    rintro rfl
    unfold gain at hg
    rw [List.countP_pos_iff] at hg
    obtain ⟨j, -, hj⟩ := hg
    simp only [Bool.and_eq_true, unB, beq_iff_eq] at hj
    have := cnt_zero.1 hj.2 _ hx
    rw [Int.toNat_natCast, hj.1] at this
    cases this
  · intro x hx
    simp at hx
    rcases hx with hx | rfl
    · exact h.rg x hx
    · have := hat.1; omega
  · have := unc_step hg; have := h.un; omega
  · intro j hj
    by_cases e : j = k
    · rw [e, ← h.eq]; exact hc
    · exact h.no j (by omega)
def grK (L : List (List Int)) (n : Nat) : Nat := (List.range 17).findIdx fun k => covB L n (gSeq L n k) 1
theorem grK_eq {L : List (List Int)} {n k : Nat} (hk : k ≤ 16) (h : covB L n (gSeq L n k) 1 = true) (hn : ∀ j, j < k → covB L n (gSeq L n j) 1 = false) : grK L n = k := by
  unfold grK
  rw [List.findIdx_eq (by simp; omega)]
  exact ⟨by simpa using h, fun j hj => by simpa using hn j hj⟩
def grA (L : List (List Int)) (n : Int) : Bool := stB L n && covB L n.toNat (allL L.length) 1
def grL (L : List (List Int)) (n : Int) : List Int := if grA L n then gSeq L n.toNat (grK L n.toNat) else []
theorem grL_no {L : List (List Int)} {n : Int} (h : grA L n = false) : grL L n = [] := by simp [grL, h]
theorem grL_yes {L : List (List Int)} {n : Int} (h : grA L n = true) : grL L n = gSeq L n.toNat (grK L n.toNat) := by simp [grL, h]
theorem grL_len (L : List (List Int)) (n : Int) : (grL L n).length ≤ 17 := by
  unfold grL
  split
  · rw [gSeq_len]; unfold grK; exact Nat.le_trans List.findIdx_le_length (by simp)
  · simp
def GrPost (L : List (List Int)) (n : Int) (w : World) (e : Ending) (w' : World) : Prop :=
  ∃ v, e = .returned (.tuple #[v, .bool (grA L n)]) ∧ Own w' w.heap.size v (grL L n) ∧ Below w.heap.size w w'
theorem GrPost.no {L : List (List Int)} {n : Int} {w w' : World} (h : grA L n = false) (hb : Below w.heap.size w w') : GrPost L n w (.returned (.tuple #[.slice none 0 0, .bool false])) w' :=
  ⟨_, by rw [h], by rw [grL_no h]; exact Own.nil _ _, hb⟩
theorem GrPost.yes {L : List (List Int)} {n : Int} {w w' : World} {v : Value} {k : Nat} {out : List Int} (hs : stB L n = true) (h : GrI L n.toNat k out) (hc : covB L n.toNat out 1 = true) (ho : Own w' w.heap.size v out) (hb : Below w.heap.size w w') : GrPost L n w (.returned (.tuple #[v, .bool true])) w' := by
  have ha : grA L n = true := by unfold grA; rw [hs, cov_all h.rg hc]; rfl
  have h16 := (stB_iff.1 hs).1.n2
  have hk := grK_eq (by have := h.len.2.1; omega) (by rw [← h.eq]; exact hc) h.no
  refine ⟨v, by rw [ha], ?_, hb⟩
  rw [grL_yes ha, hk, ← h.eq]
  exact ho
end Go.Proofs.Ytpmdjdlojbpcfaa
