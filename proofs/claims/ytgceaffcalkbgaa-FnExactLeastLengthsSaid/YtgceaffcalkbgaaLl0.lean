/- Chapter 4: least costs: the sums, the least cost of what is still to be given lengths, the choice. No program in sight. -/
import Derived.Test.YtgceaffcalkbgaaSr2
namespace Go.Proofs.Ytgceaffcalkbgaa
open Go.RowKit
set_option linter.unusedSimpArgs false
set_option linter.unusedVariables false

/-- The sum of the last k weights. -/
def rsK (S : List Int) : Nat → Int
  | 0 => 0
  | k + 1 => rsK S k + nth S (S.length - (k + 1))
/-- The sum of the weights from d on. -/
def rest (S : List Int) (d : Nat) : Int := rsK S (S.length - d)
theorem rest_end (S : List Int) : rest S S.length = 0 := by simp [rest, rsK]
theorem rest_step {S : List Int} {d : Nat} (h : d < S.length) : rest S d = rest S (d + 1) + nth S d := by
  unfold rest
  obtain ⟨k, hk⟩ : ∃ k, S.length - d = k + 1 := ⟨S.length - d - 1, by omega⟩
  rw [hk, rsK, show S.length - (d + 1) = k by omega, show S.length - (k + 1) = d by omega]
/-- Weights that are small. -/
def SmW (S : List Int) : Prop := S.length ≤ 20 ∧ ∀ i, i < S.length → 0 ≤ nth S i ∧ nth S i ≤ 10000
theorem rest_bd {S : List Int} (h : SmW S) : ∀ k, k ≤ S.length → 0 ≤ rsK S k ∧ rsK S k ≤ 10000 * k := by
  intro k hk
  induction k with
  | zero => simp [rsK]
  | succ k ih =>
    have := ih (by omega)
    have := h.2 (S.length - (k + 1)) (by omega)
    simp only [rsK]
    omega
theorem rest_le {S : List Int} (h : SmW S) (d : Nat) : 0 ≤ rest S d ∧ rest S d ≤ 200000 := by
  have := rest_bd h (S.length - d) (by omega)
  have := h.1
  unfold rest
  omega
theorem rest_anti {S : List Int} (h : SmW S) {d t : Nat} (hd : d + t ≤ S.length) : rest S (d + t) ≤ rest S d := by
  induction t with
  | zero => exact Int.le_refl _
  | succ t ih =>
    have := rest_step (S := S) (d := d + t) (by omega)
    have := (h.2 (d + t) (by omega)).1
    have := ih (by omega)
    rw [show d + (t + 1) = d + t + 1 by omega]
    omega
def never : Int := 1000000000
/-- The least of g 0 .. g F. -/
def minT (g : Nat → Int) : Nat → Int
  | 0 => g 0
  | F + 1 => min (minT g F) (g (F + 1))
theorem minT_le (g : Nat → Int) (F t : Nat) (h : t ≤ F) : minT g F ≤ g t := by
  induction F with
  | zero => obtain rfl : t = 0 := by omega
            exact Int.le_refl _
  | succ F ih =>
    simp only [minT]
    by_cases e : t = F + 1
    · subst e; omega
    · have := ih (by omega); omega
theorem minT_at (g : Nat → Int) (F : Nat) : ∃ t, t ≤ F ∧ minT g F = g t := by
  induction F with
  | zero => exact ⟨0, Nat.le_refl _, rfl⟩
  | succ F ih =>
    obtain ⟨t, ht, he⟩ := ih
    simp only [minT]
    by_cases h : minT g F ≤ g (F + 1)
    · exact ⟨t, by omega, by omega⟩
    · exact ⟨F + 1, Nat.le_refl _, by omega⟩
theorem minT_eq {g : Nat → Int} {F : Nat} {m : Int} (h1 : ∀ t, t ≤ F → m ≤ g t) (h2 : ∃ t, t ≤ F ∧ m = g t) : m = minT g F := by
  obtain ⟨t, ht, he⟩ := h2
  obtain ⟨s, hs, hse⟩ := minT_at g F
  have := minT_le g F t ht
  have := h1 s hs
  omega
/-- The least cost of giving lengths to all weights from d on, with f free places at a level that h levels follow from. -/
def cC (S : List Int) (R : Nat) : Nat → Nat → Nat → Int
  | 0, d, _ => if d = S.length then 0 else never
  | h + 1, d, f => if d = S.length then 0 else minT (fun t => min never (rest S d + cC S R h (d + t) ((f - t) * R))) (min f (S.length - d))
/-- The cost if t words end here. -/
def wC (S : List Int) (R h d f t : Nat) : Int := min never (rest S d + cC S R h (d + t) ((f - t) * R))
theorem cC_end (S : List Int) (R h f : Nat) : cC S R h S.length f = 0 := by cases h <;> simp [cC]
theorem cC_zero {S : List Int} {R d f : Nat} (h : d < S.length) : cC S R 0 d f = never := by
  rw [cC, if_neg (by omega)]
theorem cC_succ {S : List Int} {R h d f : Nat} (hd : d < S.length) : cC S R (h + 1) d f = minT (wC S R h d f) (min f (S.length - d)) := by
  rw [cC, if_neg (by omega)]; rfl
theorem cC_fin {S : List Int} {R : Nat} (hS : SmW S) (h : Nat) : ∀ d f, d ≤ S.length → 0 ≤ cC S R h d f ∧ (cC S R h d f = never ∨ cC S R h d f ≤ h * rest S d) := by
  induction h with
  | zero =>
    intro d f hd
    have := rest_le hS d
    by_cases e : d = S.length
    · subst e; rw [cC_end]; exact ⟨Int.le_refl _, .inr (by simp)⟩
    · rw [cC_zero (by omega)]; exact ⟨by decide, .inl rfl⟩
  | succ h ih =>
    intro d f hd
    by_cases e : d = S.length
    · subst e
      rw [cC_end]
      have := rest_le hS S.length
      exact ⟨Int.le_refl _, .inr (Int.mul_nonneg (by omega) this.1)⟩
    · rw [cC_succ (by omega)]
      obtain ⟨t, ht, he⟩ := minT_at (wC S R h d f) (min f (S.length - d))
      rw [he]
      unfold wC
      have h1 := ih (d + t) ((f - t) * R) (by omega)
      have h2 := rest_le hS d
      have h3 := rest_anti hS (d := d) (t := t) (by omega)
      have h4 : (h : Int) * rest S (d + t) ≤ h * rest S d := Int.mul_le_mul_of_nonneg_left h3 (by omega)
      have h5 : ((h + 1 : Nat) : Int) * rest S d = h * rest S d + rest S d := by rw [Int.natCast_add, Int.add_mul]; omega
      unfold never at *
      rw [h5]
      rcases h1 with ⟨h1, h6 | h6⟩
      · rw [h6]; omega
      · omega
theorem cC_bd {S : List Int} {R : Nat} (hS : SmW S) {h : Nat} (hh : h ≤ 6) (d f : Nat) (hd : d ≤ S.length) : 0 ≤ cC S R h d f ∧ (cC S R h d f = never ∨ cC S R h d f ≤ 1200000) := by
  have h1 := cC_fin (R := R) hS h d f hd
  have h2 := rest_le hS d
  refine ⟨h1.1, h1.2.imp id fun h3 => Int.le_trans h3 ?_⟩
  have : (h : Int) * rest S d ≤ 6 * 200000 := Int.mul_le_mul (by omega) h2.2 h2.1 (by omega)
  omega
theorem cC_le {S : List Int} {R : Nat} (hS : SmW S) {h : Nat} (hh : h ≤ 6) (d f : Nat) (hd : d ≤ S.length) : 0 ≤ cC S R h d f ∧ cC S R h d f ≤ never := by
  have := cC_bd (R := R) hS hh d f hd
  unfold never at *
  omega
theorem cC_clip {S : List Int} {R : Nat} (hR : 1 ≤ R) (h : Nat) : ∀ d f, d ≤ S.length → cC S R h d (min f (S.length - d)) = cC S R h d f := by
  induction h with
  | zero => intro d f _; rfl
  | succ h ih =>
    intro d f hd
    by_cases e : d = S.length
    · subst e; rw [cC_end, cC_end]
    · rw [cC_succ (by omega), cC_succ (by omega), show min (min f (S.length - d)) (S.length - d) = min f (S.length - d) by omega]
      have : ∀ t, t ≤ min f (S.length - d) → wC S R h d (min f (S.length - d)) t = wC S R h d f t := by
        intro t ht
        unfold wC
        rw [← ih (d + t) ((min f (S.length - d) - t) * R) (by omega), ← ih (d + t) ((f - t) * R) (by omega)]
        congr 3
        by_cases hf : f ≤ S.length - d
        · rw [show min f (S.length - d) = f by omega]
        · rw [show min f (S.length - d) = S.length - d by omega]
          have h1 : S.length - (d + t) ≤ (S.length - d - t) * R := by
            have := Nat.mul_le_mul_left (S.length - d - t) hR
            omega
          have h2 : S.length - (d + t) ≤ (f - t) * R := by
            have := Nat.mul_le_mul_left (f - t) hR
            omega
          omega
      refine minT_eq (fun t ht => ?_) ?_
      · rw [← this t ht]; exact minT_le _ _ _ ht
      · obtain ⟨t, ht, he⟩ := minT_at (wC S R h d (min f (S.length - d))) (min f (S.length - d))
        exact ⟨t, ht, by rw [he, this t ht]⟩
theorem cC_none {S : List Int} {R h d : Nat} (hS : SmW S) (hd : d < S.length) : cC S R h d 0 = never := by
  induction h with
  | zero => exact cC_zero hd
  | succ h ih =>
    have := rest_le hS d
    rw [cC_succ hd, Nat.zero_min, minT, wC, Nat.zero_sub, Nat.zero_mul, Nat.add_zero, ih]
    unfold never
    omega
/-- One place more: the next weight ends here, or no more do. -/
theorem cC_step {S : List Int} {R h d f : Nat} (hS : SmW S) (hh : h + 1 ≤ 6) (hd : d < S.length) (hf : f + 1 ≤ S.length - d) :
    cC S R (h + 1) d (f + 1) = min (wC S R h d (f + 1) 0) (min never (nth S d + cC S R (h + 1) (d + 1) f)) := by
  rw [cC_succ hd, show min (f + 1) (S.length - d) = f + 1 by omega]
  symm
  have hw : ∀ t, wC S R h d (f + 1) (t + 1) = min never (nth S d + (rest S (d + 1) + cC S R h (d + 1 + t) ((f - t) * R))) := by
    intro t
    unfold wC
    rw [rest_step hd, show d + (t + 1) = d + 1 + t by omega, show f + 1 - (t + 1) = f - t by omega]
    congr 1
    omega
  have hn := hS.2 d hd
  by_cases he : d + 1 = S.length
  · obtain rfl : f = 0 := by omega
    rw [he, cC_end]
    have h1 := hw 0
    rw [he, rest_end, Nat.add_zero, cC_end] at h1
    show min _ _ = min _ _
    rw [h1]
    rfl
  · have hd1 : d + 1 < S.length := by omega
    have hc := cC_le (R := R) hS hh (d + 1) f (by omega)
    rw [cC_succ hd1, show min f (S.length - (d + 1)) = f by omega] at hc ⊢
    refine minT_eq (fun t ht => ?_) ?_
    · cases t with
      | zero => omega
      | succ t =>
        rw [hw t]
        have := minT_le (wC S R h (d + 1) f) f t (by omega)
        unfold wC at this ⊢
        unfold never at *
        omega
    · obtain ⟨t, ht, hte⟩ := minT_at (wC S R h (d + 1) f) f
      by_cases hm : wC S R h d (f + 1) 0 ≤ min never (nth S d + minT (wC S R h (d + 1) f) f)
      · exact ⟨0, by omega, by omega⟩
      · refine ⟨t + 1, by omega, ?_⟩
        have h1 := hw t
        have h2 := hte
        have h3 := cC_le (R := R) hS (show h ≤ 6 by omega) (d + 1 + t) ((f - t) * R) (by omega)
        have h4 := rest_le hS (d + 1)
        have h5 : wC S R h d (f + 1) 0 ≤ never := by unfold wC; omega
        rw [h1]
        rw [hte] at hm ⊢
        unfold wC at hm ⊢
        unfold wC at h5
        unfold never at *
        omega
/-- Does the next weight end here? -/
def pB (S : List Int) (R : Nat) : Nat → Nat → Nat → Bool
  | 0, _, _ => false
  | h + 1, d, f => decide (0 < f) && (decide (cC S R (h + 1) (d + 1) (f - 1) < never) && decide (nth S d + cC S R (h + 1) (d + 1) (f - 1) ≤ rest S d + cC S R h d (f * R)))
theorem pB_free {S : List Int} {R h d f : Nat} (h' : pB S R h d f = true) : 0 < f := by
  cases h with
  | zero => simp [pB] at h'
  | succ h => simp only [pB, Bool.and_eq_true, decide_eq_true_eq] at h'; exact h'.1
theorem pB_next {S : List Int} {R h d f : Nat} (h' : pB S R h d f = true) : cC S R h (d + 1) (f - 1) < never := by
  cases h with
  | zero => simp [pB] at h'
  | succ h => simp only [pB, Bool.and_eq_true, decide_eq_true_eq] at h'; exact h'.2.1
theorem pB_skip {S : List Int} {R h d f : Nat} (hS : SmW S) (hh : h ≤ 6) (hd : d < S.length) (hf : f ≤ S.length - d) (hfin : cC S R h d f < never) (h' : pB S R h d f = false) : ∃ k, h = k + 1 ∧ cC S R k d (f * R) < never := by
  cases h with
  | zero => rw [cC_zero hd] at hfin; unfold never at hfin; omega
  | succ k =>
    refine ⟨k, rfl, ?_⟩
    cases f with
    | zero => rw [cC_none hS hd] at hfin; unfold never at hfin; omega
    | succ f =>
      rw [cC_step hS hh hd hf] at hfin
      have hr := rest_le hS d
      have hc := cC_le (R := R) hS (show k ≤ 6 by omega) d ((f + 1) * R) (by omega)
      have hc1 := cC_le (R := R) hS hh (d + 1) f (by omega)
      have hn := hS.2 d hd
      simp only [pB, Nat.add_sub_cancel] at h'
      unfold wC at hfin
      rw [Nat.add_zero, Nat.sub_zero] at hfin
      rcases Nat.lt_or_ge 0 (f + 1) with h0 | h0
      · rw [decide_eq_true h0, Bool.true_and, Bool.and_eq_false_iff, decide_eq_false_iff_not, decide_eq_false_iff_not] at h'
        unfold never at *
        omega
      · omega
/-- The value of one entry of the program's table. -/
def tE (S : List Int) (R h d f : Nat) : Bool := decide (cC S R h d f < never)
def tK (S : List Int) (R lim h d f : Nat) : Int := if cC S R h d f < never then cC S R h d f + ((lim : Int) - h) * rest S d else 0

/-! ### The run -/
def runF (S : List Int) (R lim : Nat) : Nat → Nat → Nat → Nat → List Int
  | 0, _, _, _ => []
  | k + 1, h, d, f => if d = S.length then [] else if pB S R h d f then ((lim : Int) + 1 - h) :: runF S R lim k h (d + 1) (f - 1) else runF S R lim k (h - 1) d (min (f * R) (S.length - d))
/-- The lengths of the weights from d on. -/
def runW (S : List Int) (R lim h d f : Nat) : List Int := runF S R lim (S.length - d + h) h d f
theorem runW_end (S : List Int) (R lim h f : Nat) : runW S R lim h S.length f = [] := by
  unfold runW
  cases S.length - S.length + h <;> simp [runF]
theorem runW_put {S : List Int} {R lim h d f : Nat} (hd : d < S.length) (hp : pB S R h d f = true) : runW S R lim h d f = ((lim : Int) + 1 - h) :: runW S R lim h (d + 1) (f - 1) := by
  unfold runW
  rw [show S.length - d + h = (S.length - (d + 1) + h) + 1 by omega, runF, if_neg (by omega), if_pos hp]
theorem runW_skip {S : List Int} {R lim h d f : Nat} (hd : d < S.length) (hp : pB S R (h + 1) d f = false) : runW S R lim (h + 1) d f = runW S R lim h d (min (f * R) (S.length - d)) := by
  unfold runW
  rw [show S.length - d + (h + 1) = (S.length - d + h) + 1 by omega, runF, if_neg (by omega), hp, if_neg (by simp), Nat.add_sub_cancel]
theorem runW_len {S : List Int} {R lim : Nat} (hS : SmW S) (hR : 1 ≤ R) (m : Nat) : ∀ h d f, S.length - d + h = m → h ≤ 6 → h ≤ lim → d ≤ S.length → f ≤ S.length - d → cC S R h d f < never →
    (runW S R lim h d f).length = S.length - d ∧ ∀ x ∈ runW S R lim h d f, 1 ≤ x ∧ x ≤ lim := by
  induction m with
  | zero =>
    intro h d f hm h6 hl hd hf hfin
    obtain rfl : d = S.length := by omega
    rw [runW_end]; simp
  | succ m ih =>
    intro h d f hm h6 hl hd hf hfin
    by_cases he : d = S.length
    · subst he; rw [runW_end]; simp
    · have hd' : d < S.length := by omega
      cases hp : pB S R h d f with
      | true =>
        have hf0 := pB_free hp
        have hh0 : 1 ≤ h := by
          cases h with
          | zero => simp [pB] at hp
          | succ h => omega
        have := ih h (d + 1) (f - 1) (by omega) h6 hl (by omega) (by omega) (pB_next hp)
        rw [runW_put hd' hp]
        refine ⟨by rw [List.length_cons, this.1]; omega, fun x hx => ?_⟩
        rw [List.mem_cons] at hx
        rcases hx with rfl | hx
        · omega
        · exact this.2 x hx
      | false =>
        obtain ⟨k, rfl, hk⟩ := pB_skip hS h6 hd' hf hfin hp
        rw [runW_skip hd' hp]
        exact ih k d _ (by omega) (by omega) (by omega) hd (by omega) (by rw [cC_clip hR _ _ _ hd]; exact hk)
theorem wC_shift {S : List Int} {R h d f t : Nat} (hS : SmW S) (hd : d < S.length) (h0 : 0 < t) : wC S R h d f t = min never (nth S d + (rest S (d + 1) + cC S R h (d + 1 + (t - 1)) ((f - 1 - (t - 1)) * R))) := by
  unfold wC
  rw [rest_step hd, show d + t = d + 1 + (t - 1) by omega, show f - t = f - 1 - (t - 1) by omega]
  congr 1
  omega
/-- The model's choice: T words end here, the most of those with the least cost. -/
def Choice (S : List Int) (R h d f T : Nat) : Prop := T ≤ f ∧ wC S R h d f T = cC S R (h + 1) d f ∧ ∀ t, T < t → t ≤ f → cC S R (h + 1) d f < wC S R h d f t
theorem choice_put {S : List Int} {R h d f T : Nat} (hS : SmW S) (hh : h + 1 ≤ 6) (hd : d < S.length) (hf : f ≤ S.length - d) (hfin : cC S R (h + 1) d f < never) (hc : Choice S R h d f (T + 1)) :
    pB S R (h + 1) d f = true ∧ Choice S R h (d + 1) (f - 1) T := by
  obtain ⟨hT, hw, hm⟩ := hc
  obtain ⟨f', rfl⟩ : ∃ f', f = f' + 1 := ⟨f - 1, by omega⟩
  have hst := cC_step (R := R) hS hh hd hf
  have hs := wC_shift (R := R) (h := h) (f := f' + 1) (t := T + 1) hS hd (by omega)
  simp only [Nat.add_sub_cancel] at hs
  have hr := rest_le hS (d + 1)
  have hr0 := rest_le hS d
  have hn := hS.2 d hd
  have hcT := cC_le (R := R) hS (show h ≤ 6 by omega) (d + 1 + T) ((f' - T) * R) (by omega)
  have hc1 := cC_bd (R := R) hS hh (d + 1) f' (by omega)
  have hc0 := cC_bd (R := R) hS (show h ≤ 6 by omega) d ((f' + 1) * R) (by omega)
  -- the next state's least cost is that of its own choice
  have hle : cC S R (h + 1) (d + 1) f' ≤ rest S (d + 1) + cC S R h (d + 1 + T) ((f' - T) * R) := by
    by_cases he : d + 1 = S.length
    · rw [he, cC_end]
      have := (cC_le (R := R) hS (show h ≤ 6 by omega) (S.length + T) ((f' - T) * R) (by omega)).1
      rw [he] at hr; omega
    · rw [cC_succ (by omega), show min f' (S.length - (d + 1)) = f' by omega]
      have := minT_le (wC S R h (d + 1) f') f' T (by omega)
      unfold wC at this ⊢
      omega
  have hlt : cC S R (h + 1) (d + 1) f' < never := by
    rw [hs] at hw
    unfold never at *
    omega
  have hw1 : wC S R h (d + 1) f' T = rest S (d + 1) + cC S R h (d + 1 + T) ((f' - T) * R) := by
    unfold wC
    rw [hs] at hw
    unfold never at *
    omega
  have heq : cC S R (h + 1) (d + 1) f' = wC S R h (d + 1) f' T := by
    rw [hs] at hw
    rw [hw1]
    have h1 : cC S R (h + 1) d (f' + 1) ≤ nth S d + cC S R (h + 1) (d + 1) f' := by rw [hst]; omega
    unfold never at *
    omega
  refine ⟨?_, by omega, heq.symm, fun t ht1 ht2 => ?_⟩
  · simp only [pB, Nat.add_sub_cancel, Bool.and_eq_true, decide_eq_true_eq]
    refine ⟨by omega, hlt, ?_⟩
    rw [hst, hs] at hw
    unfold wC at hw
    simp only [Nat.add_zero, Nat.sub_zero] at hw
    rw [hw1] at heq
    rw [heq] at hw ⊢
    unfold never at *
    omega
  · simp only [Nat.add_sub_cancel] at ht2 ⊢
    have h1 := hm (t + 1) (by omega) (by omega)
    have h2 := wC_shift (R := R) (h := h) (f := f' + 1) (t := t + 1) hS hd (by omega)
    simp only [Nat.add_sub_cancel] at h2
    have h3 := cC_le (R := R) hS (show h ≤ 6 by omega) (d + 1 + t) ((f' - t) * R) (by omega)
    rw [h2, ← hw, hs] at h1
    rw [heq, hw1]
    unfold wC
    rw [heq, hw1] at hlt
    unfold never at *
    omega
theorem choice_stop {S : List Int} {R h d f : Nat} (hS : SmW S) (hh : h + 1 ≤ 6) (hd : d < S.length) (hf : f ≤ S.length - d) (hfin : cC S R (h + 1) d f < never) (hc : Choice S R h d f 0) : pB S R (h + 1) d f = false := by
  cases hp : pB S R (h + 1) d f with
  | false => rfl
  | true =>
    exfalso
    obtain ⟨hT, hw, hm⟩ := hc
    have h0 := pB_free hp
    obtain ⟨f', rfl⟩ : ∃ f', f = f' + 1 := ⟨f - 1, by omega⟩
    simp only [pB, Nat.add_sub_cancel, Bool.and_eq_true, decide_eq_true_eq] at hp
    obtain ⟨-, hlt, hle⟩ := hp
    have hst := cC_step (R := R) hS hh hd hf
    have hn := hS.2 d hd
    have hr0 := rest_le hS d
    have hc0 := cC_bd (R := R) hS (show h ≤ 6 by omega) d ((f' + 1) * R) (by omega)
    have hc1 := cC_bd (R := R) hS hh (d + 1) f' (by omega)
    -- the next weight's least cost is some choice's
    by_cases he : d + 1 = S.length
    · obtain rfl : f' = 0 := by omega
      have h1 := hm 1 (by omega) (by omega)
      have h2 := wC_shift (R := R) (h := h) (f := 0 + 1) (t := 1) hS hd (by omega)
      rw [Nat.sub_self, Nat.add_zero, he, rest_end, cC_end] at h2
      rw [he, cC_end] at hlt hle
      rw [← hw, h2] at h1
      unfold wC at h1
      rw [Nat.add_zero, Nat.sub_zero] at h1
      unfold never at *
      omega
    · have hcs := cC_succ (R := R) (h := h) (f := f') (show d + 1 < S.length by omega)
      rw [show min f' (S.length - (d + 1)) = f' by omega] at hcs
      obtain ⟨t, ht, hte⟩ := minT_at (wC S R h (d + 1) f') f'
      rw [← hcs] at hte
      have h1 := hm (t + 1) (by omega) (by omega)
      have h2 := wC_shift (R := R) (h := h) (f := f' + 1) (t := t + 1) hS hd (by omega)
      simp only [Nat.add_sub_cancel] at h2
      have h3 := cC_le (R := R) hS (show h ≤ 6 by omega) (d + 1 + t) ((f' - t) * R) (by omega)
      have hr1 := rest_le hS (d + 1)
      rw [← hw, h2] at h1
      rw [hte] at hlt hle
      unfold wC at h1 hlt hle
      rw [Nat.add_zero, Nat.sub_zero] at h1
      unfold never at *
      omega
/-- After T of them. -/
theorem choice_run {S : List Int} {R lim h : Nat} (hS : SmW S) (hh : h + 1 ≤ 6) (T : Nat) : ∀ d f, d ≤ S.length → f ≤ S.length - d → cC S R (h + 1) d f < never → (d < S.length → Choice S R h d f T) → (d = S.length → T = 0) →
    runW S R lim (h + 1) d f = List.replicate T ((lim : Int) - h) ++ (if d + T = S.length then [] else runW S R lim h (d + T) (min ((f - T) * R) (S.length - (d + T)))) ∧ (d + T < S.length → cC S R h (d + T) ((f - T) * R) < never) := by
  induction T with
  | zero =>
    intro d f hd hf hfin hc h0
    by_cases he : d = S.length
    · subst he
      rw [runW_end]
      simp
    · have hd' : d < S.length := by omega
      have hp := choice_stop hS hh hd' hf hfin (hc hd')
      obtain ⟨k, hk, hk2⟩ := pB_skip hS hh hd' hf hfin hp
      obtain rfl : k = h := by omega
      rw [runW_skip hd' hp]
      simp only [List.replicate_zero, List.nil_append, Nat.add_zero, Nat.sub_zero]
      rw [if_neg he]
      exact ⟨rfl, fun _ => hk2⟩
  | succ T ih =>
    intro d f hd hf hfin hc h0
    have hd' : d < S.length := by
      rcases Nat.lt_or_eq_of_le hd with h | h
      · exact h
      · exact absurd (h0 h) (by omega)
    obtain ⟨hp, hc'⟩ := choice_put hS hh hd' hf hfin (hc hd')
    have hf0 := pB_free hp
    have hT0 : d + 1 = S.length → T = 0 := fun e => by
      have := hc'.1; omega
    have := ih (d + 1) (f - 1) (by omega) (by omega) (pB_next hp) (fun _ => hc') hT0
    rw [show d + 1 + T = d + (T + 1) by omega, show f - 1 - T = f - (T + 1) by omega] at this
    rw [runW_put hd' hp, this.1, List.replicate_succ, List.cons_append]
    refine ⟨?_, this.2⟩
    congr 1
    omega
end Go.Proofs.Ytgceaffcalkbgaa
