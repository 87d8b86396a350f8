/- Chapter 3: what is counted does not overflow; where there is a way, the rests say so; the first reading. -/
import Derived.Test.YtpogpehbkgjiaaaSp8
import Derived.Test.YtpogpehbkgjiaaaBkQ
namespace Go.Proofs.Ytpogpehbkgjiaaa
open Go.RowKit
set_option linter.unusedSimpArgs false
set_option linter.unusedVariables false

/-! ### No overflow -/
def sumG (g : Nat → Nat) : List Nat → Nat
  | [] => 0
  | x :: l => g x + sumG g l
theorem sumG_split (g : Nat → Nat) (c : Nat) : ∀ l : List Nat, l.Nodup → sumG g l ≤ g c + sumG g (l.filter fun x => decide (x ≠ c))
  | [], _ => by simp [sumG]
  | x :: l, h => by
    have h' := List.nodup_cons.1 h
    by_cases e : x = c
    · subst e
      have hf : (l.filter fun y => decide (y ≠ x)) = l := by
        rw [List.filter_eq_self]
        intro y hy
        simp only [decide_eq_true_eq]
        intro e; subst e; exact h'.1 hy
      rw [List.filter_cons_of_neg (by simp), hf]
      exact Nat.le_refl _
    · rw [List.filter_cons_of_pos (by simpa using e)]
      have := sumG_split g c l h'.2
      simp only [sumG]; omega
theorem pow_sum (n : Nat) : ∀ (d : Nat) (l : List Nat), d ≤ n → l.Nodup → (∀ e ∈ l, n - d < e ∧ e ≤ n) → sumG (fun e => 2 ^ (n - e)) l + 1 ≤ 2 ^ d
  | 0, l, _, _, h => by
    cases l with
    | nil => simp [sumG]
    | cons x l => have := h x (by simp); omega
  | d + 1, l, hd, hn, h => by
    have h1 := sumG_split (fun e => 2 ^ (n - e)) (n - d) l hn
    have h2 := pow_sum n d (l.filter fun x => decide (x ≠ n - d)) (by omega) (hn.filter _) (fun e he => by
      have h3 := List.mem_filter.1 he
      have h4 := h e h3.1
      have h5 : e ≠ n - d := by simpa using h3.2
      omega)
    have h6 : n - (n - d) = d := by omega
    simp only [h6] at h1
    have : 2 ^ (d + 1) = 2 ^ d + 2 ^ d := by rw [Nat.pow_succ]; omega
    omega
theorem fold_is (f : Nat → Int) (g : Nat → Nat) : ∀ (l : List St) (z : Int), 0 ≤ z → (∀ x ∈ l, 0 ≤ f x.2 ∧ f x.2 ≤ g x.2) → z + (sumG g (l.map Prod.snd) : Nat) ≤ 9223372036854775807 →
    z ≤ l.foldl (fun a x => wrap64 (a + f x.2)) z ∧ l.foldl (fun a x => wrap64 (a + f x.2)) z ≤ z + (sumG g (l.map Prod.snd) : Nat) ∧ (l.foldl (fun a x => wrap64 (a + f x.2)) z = z ↔ ∀ x ∈ l, f x.2 = 0)
  | [], z, h0, _, _ => by simp [sumG]
  | x :: l, z, h0, hf, hs => by
    simp only [List.map_cons, sumG] at hs ⊢
    have hx := hf x (by simp)
    have hw : wrap64 (z + f x.2) = z + f x.2 := IntWalk.wrap64_in _ (by omega)
    simp only [List.foldl_cons, hw]
    obtain ⟨h1, h2, h3⟩ := fold_is f g l (z + f x.2) (by omega) (fun y hy => hf y (by simp [hy])) (by omega)
    refine ⟨by omega, by omega, ?_⟩
    constructor
    · intro e
      have h4 : f x.2 = 0 := by omega
      intro y hy
      rcases List.mem_cons.1 hy with rfl | hy
      · exact h4
      · exact h3.1 (by omega) y hy
    · intro e
      have h4 := e x (by simp)
      rw [h3.2 (fun y hy => e y (by simp [hy]))]
      omega
def Distinct (n : Nat) (ss : Nat → List St) : Prop := ∀ a, a < n → ((ss a).map Prod.snd).Nodup
theorem counts_bound {n : Nat} {ss : Nat → List St} {f : Nat → Int} (hn : n ≤ 60) (hf : Counts n ss f) (ha : Ahead n ss) (hd : Distinct n ss) :
    ∀ (d a : Nat), n - a ≤ d → a ≤ n → 0 ≤ f a ∧ f a ≤ ((2 ^ (n - a) : Nat) : Int) ∧ (a < n → (f a = 0 ↔ ∀ x ∈ ss a, f x.2 = 0))
  | 0, a, hda, han => by
    obtain rfl : a = n := by omega
    rw [hf.1]
    simp
  | d + 1, a, hda, han => by
    by_cases e : a = n
    · subst e; rw [hf.1]; simp
    · have hlt : a < n := by omega
      have h60 : 2 ^ (n - a) ≤ 2 ^ 60 := Nat.pow_le_pow_right (by omega) (by omega)
      have h61 : (2 : Nat) ^ 60 = 1152921504606846976 := by decide
      have hps := pow_sum n (n - a) ((ss a).map Prod.snd) (by omega) (hd a hlt) (fun e he => by
        obtain ⟨x, hx, rfl⟩ := List.mem_map.1 he
        have := ha a hlt x hx
        omega)
      have h1 := fold_is f (fun e => 2 ^ (n - e)) (ss a) 0 (Int.le_refl _) (fun x hx => by
        have h2 := ha a hlt x hx
        have h3 := counts_bound hn hf ha hd d x.2 (by omega) h2.2
        exact ⟨h3.1, h3.2.1⟩) (by omega)
      have h2 : f a = (ss a).foldl (fun a x => wrap64 (a + f x.2)) 0 := hf.2 a hlt
      rw [← h2] at h1
      exact ⟨by omega, by omega, fun _ => h1.2.2⟩

/-! ### Where there is a way -/
theorem stepR_ex (ps : List Ph) (r : Nat → Rst) (acc : Rst) (x : St) : (stepR ps r acc x).ex = (acc.ex || (r x.2).ex) := by
  unfold stepR
  split
  · next h => simp [h.1]
  · next h =>
    cases hx : (r x.2).ex with
    | false => simp
    | true =>
      cases ha : acc.ex with
      | false => exact absurd ⟨hx, .inl ha⟩ h
      | true => rfl
theorem foldl_ex (ps : List Ph) (r : Nat → Rst) : ∀ (l : List St) (acc : Rst), (l.foldl (stepR ps r) acc).ex = (acc.ex || l.any fun x => (r x.2).ex)
  | [], acc => by simp
  | x :: l, acc => by
    simp only [List.foldl_cons, List.any_cons]
    rw [foldl_ex ps r l, stepR_ex, Bool.or_assoc]
theorem foldR_ex (ps : List Ph) (r : Nat → Rst) (l : List St) : (foldR ps r l).ex = l.any fun x => (r x.2).ex := by
  unfold foldR
  rw [foldl_ex]
  simp [noRst]
theorem ex_iff {ps : List Ph} {n : Nat} {ss : Nat → List St} {f : Nat → Int} {r : Nat → Rst} (hn : n ≤ 60) (hf : Counts n ss f) (ha : Ahead n ss) (hd : Distinct n ss) (hR : Rests ps n ss r) :
    ∀ (d a : Nat), n - a ≤ d → a ≤ n → ((r a).ex = true ↔ 0 < f a)
  | 0, a, hda, han => by
    obtain rfl : a = n := by omega
    rw [hf.1, hR.1]; simp [endRst]
  | d + 1, a, hda, han => by
    by_cases e : a = n
    · subst e; rw [hf.1, hR.1]; simp [endRst]
    · have hlt : a < n := by omega
      have hb := counts_bound hn hf ha hd n a (by omega) han
      rw [hR.2 a hlt, foldR_ex, List.any_eq_true]
      constructor
      · rintro ⟨x, hx, hex⟩
        have h1 := ha a hlt x hx
        have h2 := (ex_iff hn hf ha hd hR d x.2 (by omega) h1.2).1 hex
        have h3 : ¬ f a = 0 := fun h => by have := (hb.2.2 hlt).1 h x hx; omega
        omega
      · intro hpos
        refine Classical.byContradiction fun hno => ?_
        have h3 : f a = 0 := (hb.2.2 hlt).2 fun x hx => by
          have h1 := ha a hlt x hx
          have h4 := counts_bound hn hf ha hd n x.2 (by omega) h1.2
          refine Classical.byContradiction fun h5 => hno ⟨x, hx, ?_⟩
          exact (ex_iff hn hf ha hd hR d x.2 (by omega) h1.2).2 (by omega)
        omega

/-! ### Signals: the length is what is left, so the first one stays -/
theorem stepsOf_distinct {fits : Nat → Bool} {en : Nat → Nat} : ∀ (m : Nat), (∀ i j, i < m → j < m → fits i = true → fits j = true → en i = en j → i = j) → ((stepsOf fits en m).map Prod.snd).Nodup
  | 0, _ => by simp [stepsOf]
  | m + 1, h => by
    have ih := stepsOf_distinct m fun i j hi hj => h i j (by omega) (by omega)
    cases hf : fits m with
    | false => rw [stepsOf_no hf]; exact ih
    | true =>
      rw [stepsOf_yes hf, List.map_append, List.nodup_append]
      refine ⟨ih, by simp, ?_⟩
      intro x hx y hy
      simp at hy
      subst hy
      obtain ⟨p, hp, rfl⟩ := List.mem_map.1 hx
      obtain ⟨h1, h2, h3⟩ := stepsOf_mem hp
      intro e
      have := h p.1 m (by omega) (by omega) h2 hf (by rw [← h3]; exact e)
      omega
theorem begsB_take {a b : List Int} (h : begsB a b = true) : a = b.take a.length := by
  simp [begsB, sameB] at h; exact h.2
theorem sigSt_distinct {ps : List Ph} (hb : bookB ps = true) (zs : List Int) : Distinct zs.length (sigSt ps zs) := by
  intro a ha
  refine stepsOf_distinct _ fun i j hi hj h1 h2 he => book_sigs hb hi hj ?_
  have hl : (phAt ps i).sig.length = (phAt ps j).sig.length := by omega
  rw [begsB_take h1, begsB_take h2, hl]
theorem sigSt_inside (ps : List Ph) (zs : List Int) : Inside ps zs.length (sigSt ps zs) := fun a ha x hx => (stepsOf_mem hx).1
/-- What the fold over the first k phrases is, where lengths are what is left. -/
def FoldFirst (n a : Nat) (fits : Nat → Bool) (en : Nat → Nat) (r : Nat → Rst) (k : Nat) (acc : Rst) : Prop :=
  (acc = noRst ∧ ∀ j, j < k → (fits j && (r (en j)).ex) = false) ∨
  (acc.ex = true ∧ acc.len = ((n - a : Nat) : Int) ∧ acc.ph < k ∧ (fits acc.ph && (r (en acc.ph)).ex) = true ∧ (∀ j, j < acc.ph → (fits j && (r (en j)).ex) = false) ∧ acc.nx = en acc.ph)
theorem fold_first {ps : List Ph} {n a : Nat} {fits : Nat → Bool} {en : Nat → Nat} {r : Nat → Rst} (hn : n ≤ 60) :
    ∀ k, (∀ j, j < k → fits j = true → (r (en j)).ex = true → (r (en j)).len = ((n - en j : Nat) : Int) ∧ en j = a + (phAt ps j).sig.length ∧ en j ≤ n) → FoldFirst n a fits en r k (foldR ps r (stepsOf fits en k))
  | 0, _ => .inl ⟨rfl, fun j hj => by omega⟩
  | k + 1, h => by
    have ih := fold_first (ps := ps) (a := a) hn k fun j hj => h j (by omega)
    cases hf : fits k with
    | false =>
      rw [stepsOf_no hf]
      rcases ih with ⟨h1, h2⟩ | ⟨h1, h2, h3, h4, h5, h6⟩
      · refine .inl ⟨h1, fun j hj => ?_⟩
        by_cases e : j = k
        · subst e; rw [hf]; rfl
        · exact h2 j (by omega)
      · exact .inr ⟨h1, h2, by omega, h4, h5, h6⟩
    | true =>
      rw [stepsOf_yes hf, foldR_snoc]
      cases hx : (r (en k)).ex with
      | false =>
        have hs : stepR ps r (foldR ps r (stepsOf fits en k)) (k, en k) = foldR ps r (stepsOf fits en k) := by unfold stepR; rw [if_neg (by simp [hx])]
        rw [hs]
        rcases ih with ⟨h1, h2⟩ | ⟨h1, h2, h3, h4, h5, h6⟩
        · refine .inl ⟨h1, fun j hj => ?_⟩
          by_cases e : j = k
          · subst e; rw [hx]; simp
          · exact h2 j (by omega)
        · exact .inr ⟨h1, h2, by omega, h4, h5, h6⟩
      | true =>
        obtain ⟨hl, he, hle⟩ := h k (by omega) hf hx
        have hw : wrap64 (((phAt ps k).sig.length : Int) + (r (en k)).len) = ((n - a : Nat) : Int) := by
          rw [hl, IntWalk.wrap64_in _ (by omega)]; omega
        rcases ih with ⟨h1, h2⟩ | ⟨h1, h2, h3, h4, h5, h6⟩
        · have hs : stepR ps r (foldR ps r (stepsOf fits en k)) (k, en k) = ⟨true, ((n - a : Nat) : Int), k, en k⟩ := by
            unfold stepR; rw [if_pos ⟨hx, .inl (by rw [h1]; rfl)⟩]; simp only [hw]
          rw [hs]
          refine .inr ⟨rfl, rfl, by simp, by simp [hf, hx], fun j hj => h2 j hj, rfl⟩
        · have hs : stepR ps r (foldR ps r (stepsOf fits en k)) (k, en k) = foldR ps r (stepsOf fits en k) := by
            unfold stepR
            rw [if_neg]
            simp only [hw, h1, h2]
            simp
          rw [hs]
          exact .inr ⟨h1, h2, by omega, h4, h5, h6⟩
theorem sig_first {ps : List Ph} {zs : List Int} {r : Nat → Rst} (hb : bookB ps = true) (hz : zs.length ≤ 60) (hR : Rests ps zs.length (sigSt ps zs) r) :
    ∀ (d a : Nat), zs.length - a ≤ d → a ≤ zs.length → ((r a).ex = true → (r a).len = ((zs.length - a : Nat) : Int)) ∧ (a < zs.length → FoldFirst zs.length a (fun i => begsB (phAt ps i).sig (zs.drop a)) (fun i => a + (phAt ps i).sig.length) r ps.length (r a))
  | 0, a, hda, han => by
    obtain rfl : a = zs.length := by omega
    rw [hR.1]; simp [endRst]
  | d + 1, a, hda, han => by
    by_cases e : a = zs.length
    · subst e; rw [hR.1]; simp [endRst]
    · have hlt : a < zs.length := by omega
      have hff : FoldFirst zs.length a (fun i => begsB (phAt ps i).sig (zs.drop a)) (fun i => a + (phAt ps i).sig.length) r ps.length (r a) := by
        rw [hR.2 a hlt]
        refine fold_first hz _ fun j hj hfj hxj => ?_
        have h1 := begsB_le hfj
        have h2 := book_sig hb hj
        rw [List.length_drop] at h1
        exact ⟨(sig_first hb hz hR d (a + (phAt ps j).sig.length) (by omega) (by omega)).1 hxj, rfl, by omega⟩
      refine ⟨fun hx => ?_, fun _ => hff⟩
      rcases hff with ⟨h1, -⟩ | ⟨-, h2, -⟩
      · rw [h1] at hx; cases hx
      · exact h2
theorem firstGood_is {ps : List Ph} {zs : List Int} {f : Nat → Int} {r : Nat → Rst} (hb : bookB ps = true) (hz : zs.length ≤ 60) (hf : Counts zs.length (sigSt ps zs) f) (hR : Rests ps zs.length (sigSt ps zs) r) : FirstGood ps zs f r := by
  intro a ha hx
  have hgood : ∀ j, j < ps.length → goodI ps zs f a j = (begsB (phAt ps j).sig (zs.drop a) && (r (a + (phAt ps j).sig.length)).ex) := by
    intro j hj
    unfold goodI
    cases hfit : begsB (phAt ps j).sig (zs.drop a) with
    | false => rfl
    | true =>
      have h1 := begsB_le hfit
      rw [List.length_drop] at h1
      have h2 := book_sig hb hj
      have h3 := ex_iff hz hf (sigSt_ahead hb zs) (sigSt_distinct hb zs) hR zs.length (a + (phAt ps j).sig.length) (by omega) (by omega)
      rw [Bool.true_and, Bool.true_and, Bool.eq_iff_iff, decide_eq_true_eq]
      exact h3.symm
  rcases (sig_first hb hz hR zs.length a (by omega) (by omega)).2 ha with ⟨h1, -⟩ | ⟨h1, h2, h3, h4, h5, h6⟩
  · rw [h1] at hx; cases hx
  · exact ⟨h3, by rw [hgood _ h3]; exact h4, fun j hj => by rw [hgood j (by omega)]; exact h5 j hj, h6⟩
theorem ex_zero {ps : List Ph} {zs : List Int} {f : Nat → Int} {r : Nat → Rst} (hb : bookB ps = true) (hz : zs.length ≤ 60) (hf : Counts zs.length (sigSt ps zs) f) (hR : Rests ps zs.length (sigSt ps zs) r) : f 0 = 0 ↔ (r 0).ex = false := by
  have h1 := ex_iff hz hf (sigSt_ahead hb zs) (sigSt_distinct hb zs) hR zs.length 0 (by omega) (by omega)
  have h2 := (counts_bound hz hf (sigSt_ahead hb zs) (sigSt_distinct hb zs) zs.length 0 (by omega) (by omega)).1
  constructor
  · intro h
    cases hx : (r 0).ex with
    | false => rfl
    | true => have := h1.1 hx; omega
  · intro h
    refine Classical.byContradiction fun h3 => ?_
    have := h1.2 (by omega)
    rw [h] at this; cases this
end Go.Proofs.Ytpogpehbkgjiaaa
