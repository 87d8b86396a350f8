/- Chapter 4: the program's table of rests: as a list of cells. -/
import Derived.Test.YtgceaffcalkbgaaLl7
import Derived.Deep.WholeRow
namespace Go.Proofs.Ytgceaffcalkbgaa
open Go.RowKit
set_option linter.unusedSimpArgs false
set_option linter.unusedVariables false

/-- The table with nothing in it. -/
def cZ : Array Value := (List.replicate 3528 [Value.bool false, .int .i64 0, .bool false]).flatten.toArray
set_option maxRecDepth 100000 in
theorem tab_info : (Try.prog.info? 75).map (fun i => (i.zero, i.size)) = some (some (.agg cZ), 10584) := by kernel_rfl
theorem flat3_at (a b c : Value) (n k : Nat) (h : k < n) : (List.replicate n [a, b, c]).flatten[3 * k]? = some a ∧ (List.replicate n [a, b, c]).flatten[3 * k + 1]? = some b ∧ (List.replicate n [a, b, c]).flatten[3 * k + 2]? = some c := by
  induction n generalizing k with
  | zero => omega
  | succ n ih =>
    rw [List.replicate_succ, List.flatten_cons]
    cases k with
    | zero => simp
    | succ k =>
      have := ih k (by omega)
      rw [show 3 * (k + 1) = 3 * k + 3 by omega, show 3 * k + 3 + 1 = 3 * k + 1 + 3 by omega, show 3 * k + 3 + 2 = 3 * k + 2 + 3 by omega]
      rw [List.getElem?_append_right (by simp), List.getElem?_append_right (by simp), List.getElem?_append_right (by simp)]
      simpa using this
theorem flat3_len (a b c : Value) (n : Nat) : (List.replicate n [a, b, c]).flatten.length = n * 3 := by
  induction n with
  | zero => rfl
  | succ n ih => rw [List.replicate_succ, List.flatten_cons, List.length_append, ih]; simp; omega
theorem cZ_size : cZ.size = 10584 := by unfold cZ; rw [List.size_toArray, flat3_len]
theorem cZ_one : cZ.all (·.oneCell') = true := by
  rw [← Array.all_toList, List.all_eq_true]
  unfold cZ
  intro x hx
  simp only [List.mem_flatten, List.mem_replicate] at hx
  obtain ⟨l, ⟨-, rfl⟩, hx⟩ := hx
  simp at hx
  rcases hx with rfl | rfl | rfl <;> rfl
theorem cZ_at {l wt f : Nat} (hl : l < 8) (hw : wt < 21) (hf : f < 21) : cZ.toList[l * 1323 + wt * 63 + f * 3]? = some (.bool false) ∧ cZ.toList[l * 1323 + wt * 63 + f * 3 + 1]? = some (.int .i64 0) ∧ cZ.toList[l * 1323 + wt * 63 + f * 3 + 2]? = some (.bool false) := by
  unfold cZ
  have := flat3_at (.bool false) (.int .i64 0) (.bool false) 3528 (l * 441 + wt * 21 + f) (by omega)
  rw [show 3 * (l * 441 + wt * 21 + f) = l * 1323 + wt * 63 + f * 3 by omega] at this
  exact this

/-- The table from level L, for W weights, from F places on. -/
def DoneAt (L W F l wt f : Nat) : Prop := L < l ∨ (l = L ∧ (wt < W ∨ (wt = W ∧ f < F)))
def TabE (xs : List Value) (S : List Int) (R lim L W F : Nat) : Prop :=
  xs.length = 10584 ∧ xs.all (·.oneCell') = true ∧ ∀ l wt f, DoneAt L W F l wt f → 1 ≤ l → l ≤ lim + 1 → wt ≤ S.length → f ≤ wt →
    xs[l * 1323 + wt * 63 + f * 3]? = some (.bool (tE S R (lim + 1 - l) (S.length - wt) f)) ∧ xs[l * 1323 + wt * 63 + f * 3 + 1]? = some (.int .i64 (tK S R lim (lim + 1 - l) (S.length - wt) f)) ∧
    xs[l * 1323 + wt * 63 + f * 3 + 2]? = some (.bool (pB S R (lim + 1 - l) (S.length - wt) f))
theorem all_set {xs : List Value} {i : Nat} {v : Value} (h : xs.all (·.oneCell') = true) (hv : v.oneCell' = true) : (xs.set i v).all (·.oneCell') = true := by
  rw [List.all_eq_true] at h ⊢
  intro x hx
  rcases List.mem_or_eq_of_mem_set hx with h1 | rfl
  · exact h x h1
  · exact hv
theorem TabE.start {S : List Int} {R lim : Nat} (h20 : S.length ≤ 20) (hlim : lim ≤ 6) : TabE (cZ.toList.set ((lim + 1) * 1323) (.bool true)) S R lim lim 0 0 := by
  refine ⟨by rw [List.length_set, Array.length_toList, cZ_size], all_set (by rw [Array.all_toList]; exact cZ_one) rfl, ?_⟩
  intro l wt f hd hl1 hl2 hw hf
  obtain rfl : l = lim + 1 := by unfold DoneAt at hd; omega
  rw [Nat.sub_self]
  have h0 := cZ_at (l := lim + 1) (wt := wt) (f := f) (by omega) (by omega) (by omega)
  rw [List.getElem?_set_ne (j := (lim + 1) * 1323 + wt * 63 + f * 3 + 1) (by omega), List.getElem?_set_ne (j := (lim + 1) * 1323 + wt * 63 + f * 3 + 2) (by omega), h0.2.1, h0.2.2]
  by_cases e : wt = 0
  · subst e
    obtain rfl : f = 0 := by omega
    have e1 : cC S R 0 S.length 0 = 0 := cC_end S R 0 0
    refine ⟨?_, ?_, by simp [pB]⟩
    · rw [show (lim + 1) * 1323 + 0 * 63 + 0 * 3 = (lim + 1) * 1323 by omega, List.getElem?_set_self (by rw [Array.length_toList, cZ_size]; omega), Nat.sub_zero]
      rw [tE, e1]; rfl
    · rw [tK, Nat.sub_zero, e1, rest_end]; simp
  · have e1 : cC S R 0 (S.length - wt) f = never := cC_zero (by omega)
    refine ⟨?_, ?_, by simp [pB]⟩
    · rw [List.getElem?_set_ne (by omega), h0.1, tE, e1]; rfl
    · rw [tK, e1]; rfl
theorem idx_ne {l wt f L W F : Nat} (hw : wt ≤ 20) (hf : f ≤ 20) (hW : W ≤ 20) (hF : F ≤ 20) (h : ¬(l = L ∧ wt = W ∧ f = F)) : l * 441 + wt * 21 + f ≠ L * 441 + W * 21 + F := by
  rcases Nat.lt_trichotomy l L with h1 | h1 | h1
  · omega
  · subst h1
    rcases Nat.lt_trichotomy wt W with h2 | h2 | h2
    · omega
    · subst h2
      intro e
      exact h ⟨rfl, rfl, by omega⟩
    · omega
  · omega
/-- A new entry. -/
theorem TabE.put {xs : List Value} {S : List Int} {R lim L W F : Nat} (h : TabE xs S R lim L W F) (h20 : S.length ≤ 20) (hlim : lim ≤ 6) (hL1 : 1 ≤ L) (hL : L ≤ lim + 1) (hW : W ≤ S.length) (hF : F ≤ W) :
    TabE (((xs.set (L * 1323 + W * 63 + F * 3) (.bool (tE S R (lim + 1 - L) (S.length - W) F))).set (L * 1323 + W * 63 + F * 3 + 1) (.int .i64 (tK S R lim (lim + 1 - L) (S.length - W) F))).set (L * 1323 + W * 63 + F * 3 + 2) (.bool (pB S R (lim + 1 - L) (S.length - W) F))) S R lim L W (F + 1) := by
  obtain ⟨h1, h2, h3⟩ := h
  refine ⟨by simp [h1], all_set (all_set (all_set h2 rfl) rfl) rfl, ?_⟩
  intro l wt f hd hl1 hl2 hw hf
  by_cases e : l = L ∧ wt = W ∧ f = F
  · obtain ⟨rfl, rfl, rfl⟩ := e
    have b1 : l * 1323 + wt * 63 + f * 3 + 2 < xs.length := by rw [h1]; omega
    obtain ⟨i, hi⟩ : ∃ i, i = l * 1323 + wt * 63 + f * 3 := ⟨_, rfl⟩
    rw [← hi] at b1 ⊢
    refine ⟨?_, ?_, ?_⟩
    · rw [List.getElem?_set_ne (by omega), List.getElem?_set_ne (by omega), List.getElem?_set_self (by omega)]
    · rw [List.getElem?_set_ne (by omega), List.getElem?_set_self (by rw [List.length_set]; omega)]
    · rw [List.getElem?_set_self (by rw [List.length_set, List.length_set]; omega)]
  · have h4 := h3 l wt f (by unfold DoneAt at *; omega) hl1 hl2 hw hf
    have hne := idx_ne (l := l) (L := L) (wt := wt) (W := W) (f := f) (F := F) (by omega) (by omega) (by omega) (by omega) e
    clear hd e
    obtain ⟨i, hi⟩ : ∃ i, i = l * 1323 + wt * 63 + f * 3 := ⟨_, rfl⟩
    obtain ⟨j, hj⟩ : ∃ j, j = L * 1323 + W * 63 + F * 3 := ⟨_, rfl⟩
    have n0 : j ≠ i := by omega
    have n1 : j + 1 ≠ i := by omega
    have n2 : j + 2 ≠ i := by omega
    have n3 : j ≠ i + 1 := by omega
    have n4 : j + 1 ≠ i + 1 := by omega
    have n5 : j + 2 ≠ i + 1 := by omega
    have n6 : j ≠ i + 2 := by omega
    have n7 : j + 1 ≠ i + 2 := by omega
    have n8 : j + 2 ≠ i + 2 := by omega
    rw [← hi, ← hj]
    rw [← hi] at h4
    rw [List.getElem?_set_ne n2, List.getElem?_set_ne n1, List.getElem?_set_ne n0, List.getElem?_set_ne n5, List.getElem?_set_ne n4, List.getElem?_set_ne n3, List.getElem?_set_ne n8, List.getElem?_set_ne n7, List.getElem?_set_ne n6]
    exact h4
theorem TabE.row {xs : List Value} {S : List Int} {R lim L W : Nat} (h : TabE xs S R lim L W (W + 1)) : TabE xs S R lim L (W + 1) 0 :=
  ⟨h.1, h.2.1, fun l wt f hd hl1 hl2 hw hf => h.2.2 l wt f (by unfold DoneAt at *; omega) hl1 hl2 hw hf⟩
theorem TabE.level {xs : List Value} {S : List Int} {R lim L : Nat} (h : TabE xs S R lim (L + 1) (S.length + 1) 0) : TabE xs S R lim L 0 0 :=
  ⟨h.1, h.2.1, fun l wt f hd hl1 hl2 hw hf => h.2.2 l wt f (by unfold DoneAt at *; omega) hl1 hl2 hw hf⟩

/-! ### What an entry comes from -/
theorem entry_none {S : List Int} {R lim h d : Nat} (hS : SmW S) (hd : d ≤ S.length) (hz : d < S.length ∨ d = S.length) :
    tE S R (h + 1) d 0 = tE S R h d 0 ∧ tK S R lim (h + 1) d 0 = tK S R lim h d 0 ∧ pB S R (h + 1) d 0 = false := by
  refine ⟨?_, ?_, by simp [pB]⟩
  · rcases hz with hz | rfl
    · simp only [tE, cC_none hS hz]
    · simp only [tE, cC_end]
  · rcases hz with hz | rfl
    · simp only [tK, cC_none hS hz]; simp
    · simp only [tK, cC_end, rest_end]; simp
theorem clip_E {S : List Int} {R h d f m : Nat} (lim : Nat) (hR : 1 ≤ R) (hd : d ≤ S.length) (hm : m = min (f * R) (S.length - d)) : tE S R h d m = tE S R h d (f * R) ∧ tK S R lim h d m = tK S R lim h d (f * R) := by
  subst hm
  simp only [tE, tK, cC_clip hR h d (f * R) hd]
  exact ⟨trivial, trivial⟩
/-- The entry, from the one of the next level and the one of a weight less. -/
theorem entry_put {S : List Int} {R lim h d f : Nat} (hS : SmW S) (hh : h + 1 ≤ 6) (hd : d < S.length) (hf : f + 1 ≤ S.length - d) :
    let eg := tE S R h d ((f + 1) * R)
    let cg := tK S R lim h d ((f + 1) * R)
    let eb := tE S R (h + 1) (d + 1) f
    let cost := tK S R lim (h + 1) (d + 1) f + ((lim : Int) - h) * nth S d
    if eb = true ∧ (eg = false ∨ cost ≤ cg) then tE S R (h + 1) d (f + 1) = true ∧ tK S R lim (h + 1) d (f + 1) = cost ∧ pB S R (h + 1) d (f + 1) = true
    else tE S R (h + 1) d (f + 1) = eg ∧ tK S R lim (h + 1) d (f + 1) = cg ∧ pB S R (h + 1) d (f + 1) = false := by
  intro eg cg eb cost
  have hst := cC_step (R := R) hS hh hd hf
  have hr := rest_le hS d
  have hr1 := rest_le hS (d + 1)
  have hrs := rest_step (S := S) hd
  have hcb := cC_bd (R := R) hS hh (d + 1) f (by omega)
  have hcg := cC_bd (R := R) hS (show h ≤ 6 by omega) d ((f + 1) * R) (by omega)
  have hn := hS.2 d hd
  unfold wC at hst
  simp only [Nat.add_zero, Nat.sub_zero] at hst
  have hp : pB S R (h + 1) d (f + 1) = (decide (cC S R (h + 1) (d + 1) f < never) && decide (nth S d + cC S R (h + 1) (d + 1) f ≤ rest S d + cC S R h d ((f + 1) * R))) := by
    simp [pB]
  have hm1 : ((lim : Int) - h) * rest S d = ((lim : Int) - h) * rest S (d + 1) + ((lim : Int) - h) * nth S d := by rw [hrs, Int.mul_add]
  have hm2 : ((lim : Int) - ((h + 1 : Nat) : Int)) * rest S (d + 1) = ((lim : Int) - h) * rest S (d + 1) - rest S (d + 1) := by
    rw [show (lim : Int) - ((h + 1 : Nat) : Int) = ((lim : Int) - h) - 1 by omega, Int.sub_mul, Int.one_mul]
  have hm3 : ((lim : Int) - ((h + 1 : Nat) : Int)) * rest S d = ((lim : Int) - h) * rest S d - rest S d := by
    rw [show (lim : Int) - ((h + 1 : Nat) : Int) = ((lim : Int) - h) - 1 by omega, Int.sub_mul, Int.one_mul]
  obtain ⟨cb, hcbe⟩ : ∃ x, x = cC S R (h + 1) (d + 1) f := ⟨_, rfl⟩
  obtain ⟨cgv, hcge⟩ : ∃ x, x = cC S R h d ((f + 1) * R) := ⟨_, rfl⟩
  obtain ⟨cs, hcse⟩ : ∃ x, x = cC S R (h + 1) d (f + 1) := ⟨_, rfl⟩
  obtain ⟨m0, hm0⟩ : ∃ x, x = ((lim : Int) - h) * nth S d := ⟨_, rfl⟩
  obtain ⟨m1, hm1e⟩ : ∃ x, x = ((lim : Int) - h) * rest S d := ⟨_, rfl⟩
  obtain ⟨m2, hm2e⟩ : ∃ x, x = ((lim : Int) - h) * rest S (d + 1) := ⟨_, rfl⟩
  have e1 : eg = decide (cgv < never) := by rw [hcge]; rfl
  have e2 : cg = if cgv < never then cgv + m1 else 0 := by rw [hcge, hm1e]; rfl
  have e3 : eb = decide (cb < never) := by rw [hcbe]; rfl
  have e4 : cost = (if cb < never then cb + (m2 - rest S (d + 1)) else 0) + m0 := by rw [hcbe, hm2e, ← hm2, hm0]; rfl
  have e5 : tE S R (h + 1) d (f + 1) = decide (cs < never) := by rw [hcse]; rfl
  have e6 : tK S R lim (h + 1) d (f + 1) = if cs < never then cs + (m1 - rest S d) else 0 := by rw [hcse, hm1e, ← hm3]; rfl
  rw [e5, e6, hp, ← hcbe, ← hcge]
  rw [← hcbe, ← hcge, ← hcse] at hst
  rw [← hcbe] at hcb
  rw [← hcge] at hcg
  rw [← hm0, ← hm1e, ← hm2e] at hm1
  rw [e1, e2, e3, e4]
  clear e1 e2 e3 e4 e5 e6 hm2 hm3 hcbe hcge hcse hm0 hm1e hm2e hp eg cg eb cost
  unfold never at *
  by_cases b1 : cb < 1000000000
  · by_cases b2 : cgv < 1000000000
    · simp only [b1, b2, decide_true, if_true, Bool.true_eq_false, false_or, true_and, Bool.true_and]
      split
      · rename_i hle
        have : cs = nth S d + cb := by omega
        have h3 : cs < 1000000000 := by omega
        rw [if_pos h3]
        refine ⟨decide_eq_true h3, by omega, decide_eq_true (by omega)⟩
      · rename_i hle
        have : cs = rest S d + cgv := by omega
        have h3 : cs < 1000000000 := by omega
        rw [if_pos h3]
        refine ⟨by rw [decide_eq_true h3], by omega, decide_eq_false (by omega)⟩
    · have b2' : decide (cgv < 1000000000) = false := decide_eq_false b2
      rw [b2', if_pos ⟨decide_eq_true b1, .inl rfl⟩]
      have : cs = nth S d + cb := by omega
      have h3 : cs < 1000000000 := by omega
      rw [if_pos h3, if_pos b1, decide_eq_true b1, Bool.true_and]
      exact ⟨decide_eq_true h3, by omega, decide_eq_true (by omega)⟩
  · have b1' : decide (cb < 1000000000) = false := decide_eq_false b1
    rw [b1', if_neg (by simp), Bool.false_and]
    by_cases b2 : cgv < 1000000000
    · have : cs = rest S d + cgv := by omega
      have h3 : cs < 1000000000 := by omega
      rw [if_pos h3, if_pos b2, decide_eq_true h3, decide_eq_true b2]
      exact ⟨rfl, by omega, rfl⟩
    · have : ¬ cs < 1000000000 := by omega
      rw [if_neg this, if_neg b2, decide_eq_false this, decide_eq_false b2]
      exact ⟨rfl, rfl, rfl⟩
end Go.Proofs.Ytgceaffcalkbgaa
