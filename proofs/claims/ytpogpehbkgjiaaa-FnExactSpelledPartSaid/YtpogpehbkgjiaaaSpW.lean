/- Chapter 3: how many letters can be spelled. -/
import Derived.Test.YtpogpehbkgjiaaaSpT
import Derived.Test.YtpogpehbkgjiaaaSpQ
namespace Go.Proofs.Ytpogpehbkgjiaaa
open Go.RowKit
set_option linter.unusedSimpArgs false
set_option linter.unusedVariables false

/-! ### What is reached -/
def stepB (g : Nat → Bool) (x : St) : Nat → Bool := fun j => if j = x.2 then true else g j
def foldB (g : Nat → Bool) (l : List St) : Nat → Bool := l.foldl stepB g
def foldP (p : Nat) (l : List St) : Nat := l.foldl (fun p x => max p x.2) p
theorem foldB_snoc (g : Nat → Bool) (l : List St) (x : St) : foldB g (l ++ [x]) = stepB (foldB g l) x := by simp [foldB]
theorem foldP_snoc (p : Nat) (l : List St) (x : St) : foldP p (l ++ [x]) = max (foldP p l) x.2 := by simp [foldP]
/-- Which places are reached, and the greatest of them, when the steps at the first a places were taken. -/
def reachAt (ss : Nat → List St) : Nat → (Nat → Bool) × Nat
  | 0 => (fun j => j == 0, 0)
  | a + 1 => if (reachAt ss a).1 a = true then (foldB (reachAt ss a).1 (ss a), foldP (reachAt ss a).2 (ss a)) else reachAt ss a
theorem reachAt_yes {ss : Nat → List St} {a : Nat} (h : (reachAt ss a).1 a = true) : reachAt ss (a + 1) = (foldB (reachAt ss a).1 (ss a), foldP (reachAt ss a).2 (ss a)) := by
  show (if _ then _ else _) = _
  rw [if_pos h]
theorem reachAt_no {ss : Nat → List St} {a : Nat} (h : (reachAt ss a).1 a = false) : reachAt ss (a + 1) = reachAt ss a := by
  show (if _ then _ else _) = _
  rw [if_neg (by simp [h])]
theorem foldB_iff (l : List St) (g : Nat → Bool) (j : Nat) : foldB g l j = true ↔ (g j = true ∨ ∃ x ∈ l, x.2 = j) := by
  induction l generalizing g with
  | nil => simp [foldB]
  | cons x l ih =>
    have h : foldB g (x :: l) = foldB (stepB g x) l := rfl
    rw [h, ih]
    unfold stepB
    constructor
    · rintro (h | ⟨y, hy, rfl⟩)
      · split at h
        · next e => exact .inr ⟨x, by simp, e.symm⟩
        · exact .inl h
      · exact .inr ⟨y, by simp [hy], rfl⟩
    · rintro (h | ⟨y, hy, rfl⟩)
      · left; split
        · rfl
        · exact h
      · rcases List.mem_cons.1 hy with rfl | hy
        · left; rw [if_pos rfl]
        · exact .inr ⟨y, hy, rfl⟩
theorem foldP_ge (l : List St) (p : Nat) : p ≤ foldP p l ∧ (∀ x ∈ l, x.2 ≤ foldP p l) ∧ (foldP p l = p ∨ ∃ x ∈ l, x.2 = foldP p l) := by
  induction l generalizing p with
  | nil => simp [foldP]
  | cons x l ih =>
    have h : foldP p (x :: l) = foldP (max p x.2) l := rfl
    rw [h]
    obtain ⟨h1, h2, h3⟩ := ih (max p x.2)
    refine ⟨by omega, fun y hy => ?_, ?_⟩
    · rcases List.mem_cons.1 hy with rfl | hy
      · omega
      · exact h2 y hy
    · rcases h3 with h3 | ⟨y, hy, h3⟩
      · rw [h3]
        by_cases e : x.2 ≤ p
        · left; omega
        · right; exact ⟨x, by simp, by omega⟩
      · exact .inr ⟨y, by simp [hy], h3⟩
inductive Reach (n : Nat) (ss : Nat → List St) : Nat → Prop
  | base : Reach n ss 0
  | step {a : Nat} {x : St} : a < n → Reach n ss a → x ∈ ss a → Reach n ss x.2
theorem reachAt_sound {n : Nat} {ss : Nat → List St} : ∀ a, a ≤ n → (∀ j, (reachAt ss a).1 j = true → Reach n ss j) ∧ Reach n ss (reachAt ss a).2
  | 0, _ => ⟨fun j hj => by have : j = 0 := by simpa [reachAt] using hj
                            subst this; exact .base, .base⟩
  | a + 1, ha => by
    obtain ⟨h1, h2⟩ := reachAt_sound (n := n) (ss := ss) a (by omega)
    cases hr : (reachAt ss a).1 a with
    | false => rw [reachAt_no hr]; exact ⟨h1, h2⟩
    | true =>
      rw [reachAt_yes hr]
      have hra := h1 a hr
      refine ⟨fun j hj => ?_, ?_⟩
      · rcases (foldB_iff _ _ _).1 hj with h | ⟨x, hx, rfl⟩
        · exact h1 j h
        · exact .step (by omega) hra hx
      · rcases (foldP_ge (ss a) (reachAt ss a).2).2.2 with h | ⟨x, hx, h⟩
        · show Reach n ss (foldP _ _); rw [h]; exact h2
        · show Reach n ss (foldP _ _); rw [← h]; exact .step (by omega) hra hx
theorem reachAt_mono {ss : Nat → List St} : ∀ d a j, (reachAt ss a).1 j = true → (reachAt ss (a + d)).1 j = true
  | 0, a, j, h => h
  | d + 1, a, j, h => by
    have ih := reachAt_mono (ss := ss) d a j h
    rw [← Nat.add_assoc]
    cases hr : (reachAt ss (a + d)).1 (a + d) with
    | false => rw [reachAt_no hr]; exact ih
    | true => rw [reachAt_yes hr]; exact (foldB_iff _ _ _).2 (.inl ih)
theorem reachAt_top {ss : Nat → List St} : ∀ a j, (reachAt ss a).1 j = true → j ≤ (reachAt ss a).2
  | 0, j, h => by have : j = 0 := by simpa [reachAt] using h
                  omega
  | a + 1, j, h => by
    cases hr : (reachAt ss a).1 a with
    | false => rw [reachAt_no hr] at h ⊢; exact reachAt_top a j h
    | true =>
      rw [reachAt_yes hr] at h ⊢
      have hg := foldP_ge (ss a) (reachAt ss a).2
      rcases (foldB_iff _ _ _).1 h with h | ⟨x, hx, rfl⟩
      · have := reachAt_top a j h; show j ≤ foldP _ _; omega
      · exact hg.2.1 x hx
theorem reachAt_all {n : Nat} {ss : Nat → List St} (ha : Ahead n ss) {j : Nat} (h : Reach n ss j) : j ≤ n ∧ (reachAt ss j).1 j = true := by
  induction h with
  | base => exact ⟨Nat.zero_le _, rfl⟩
  | @step a x h1 h2 h3 ih =>
    have hx := ha a h1 x h3
    refine ⟨hx.2, ?_⟩
    have h4 : (reachAt ss (a + 1)).1 x.2 = true := by rw [reachAt_yes ih.2]; exact (foldB_iff _ _ _).2 (.inr ⟨x, h3, rfl⟩)
    have := reachAt_mono (x.2 - (a + 1)) (a + 1) x.2 h4
    rwa [show a + 1 + (x.2 - (a + 1)) = x.2 by omega] at this

/-! ### A beginning of letters -/
theorem ext_ext (s : ByteArray) (m a e : Nat) (he : e ≤ m) (hm : m ≤ s.size) (hae : a ≤ e) : ((s.extract 0 m).extract a e).data.toList = (s.extract a e).data.toList := by
  obtain ⟨d, rfl⟩ : ∃ d, e = a + d := ⟨e - a, by omega⟩
  rw [ext_take, ext_take]
  have h := ext_take s 0 m
  rw [Nat.zero_add] at h
  rw [h, List.drop_zero, List.drop_take, List.take_take, Nat.min_eq_left (by omega)]
theorem fit_prefix {t s : ByteArray} {m a : Nat} (hm : m ≤ s.size) : fitT t (s.extract 0 m) a = (fitT t s a && decide (a + t.size ≤ m)) := by
  have hsz : (s.extract 0 m).size = m := by rw [ByteArray.size_extract]; omega
  unfold fitT
  rw [hsz]
  by_cases h : a + t.size ≤ m
  · rw [ext_ext s m a (a + t.size) h hm (by omega)]
    simp [h]; intro _; omega
  · simp [h]
theorem steps_prefix {ps : List Ph} {s : ByteArray} {m a : Nat} (hm : m ≤ s.size) (x : St) : x ∈ txSt ps allS (s.extract 0 m) a ↔ (x ∈ txSt ps allS s a ∧ x.2 ≤ m) := by
  constructor
  · intro h
    obtain ⟨h1, h2, h3⟩ := stepsOf_mem h
    simp only [Bool.true_and, fit_prefix hm, Bool.and_eq_true, decide_eq_true_eq] at h2
    have := mem_stepsOf (en := fun i => a + (phAt ps i).txt.size) (fits := fun i => allS i && fitT (phAt ps i).txt s a) h1 (by simp [h2.1])
    have e : x = (x.1, a + (phAt ps x.1).txt.size) := by rw [← h3]
    exact ⟨by rw [e]; exact this, by omega⟩
  · rintro ⟨h, hle⟩
    obtain ⟨h1, h2, h3⟩ := stepsOf_mem h
    simp only [Bool.true_and] at h2
    have := mem_stepsOf (en := fun i => a + (phAt ps i).txt.size) (fits := fun i => allS i && fitT (phAt ps i).txt (s.extract 0 m) a) h1 (by
      simp only [Bool.true_and, fit_prefix hm, h2]; simp; omega)
    have e : x = (x.1, a + (phAt ps x.1).txt.size) := by rw [← h3]
    rw [e]; exact this
theorem reach_ex {ps : List Ph} {s : ByteArray} {m : Nat} {r : Nat → Rst} (hb : bookB ps = true) (hm : m ≤ s.size) (hR : Rests ps (s.extract 0 m).size (txSt ps allS (s.extract 0 m)) r) : Reach s.size (txSt ps allS s) m ↔ (r 0).ex = true := by
  have hsz : (s.extract 0 m).size = m := by rw [ByteArray.size_extract]; omega
  rw [hsz] at hR
  have hah := txSt_ahead hb allS s
  constructor
  · have key : ∀ b, Reach s.size (txSt ps allS s) b → b ≤ m → (r b).ex = true → (r 0).ex = true := by
      intro b hb2
      induction hb2 with
      | base => exact fun _ h => h
      | @step a x h1 h2 h3 ih =>
        intro hle hx
        have hx2 := hah a h1 x h3
        refine ih (by omega) ?_
        rw [hR.2 a (by omega), foldR_ex, List.any_eq_true]
        exact ⟨x, (steps_prefix hm x).2 ⟨h3, hle⟩, hx⟩
    exact fun h => key m h (Nat.le_refl _) (by rw [hR.1]; rfl)
  · have key : ∀ d a, m - a ≤ d → a ≤ m → Reach s.size (txSt ps allS s) a → (r a).ex = true → Reach s.size (txSt ps allS s) m := by
      intro d
      induction d with
      | zero => intro a h1 h2 h3 _; have : a = m := by omega
                rw [← this]; exact h3
      | succ d ih =>
        intro a h1 h2 h3 h4
        by_cases e : a = m
        · rw [← e]; exact h3
        · rw [hR.2 a (by omega), foldR_ex, List.any_eq_true] at h4
          obtain ⟨x, hx, hx2⟩ := h4
          obtain ⟨h5, h6⟩ := (steps_prefix hm x).1 hx
          have h7 := hah a (by omega) x h5
          exact ih x.2 (by omega) h6 (.step (by omega) h3 h5) hx2
    exact fun h => key m 0 (by omega) (by omega) .base h
/-- The greatest beginning that can be spelled, among the first k letters. -/
noncomputable def mostTo (ps : List Ph) (s : ByteArray) : Nat → Nat
  | 0 => 0
  | k + 1 => if (txR ps (s.extract 0 (k + 1)) 0).ex = true then k + 1 else mostTo ps s k
theorem mostTo_yes {ps : List Ph} {s : ByteArray} {k : Nat} (h : (txR ps (s.extract 0 (k + 1)) 0).ex = true) : mostTo ps s (k + 1) = k + 1 := by simp [mostTo, h]
theorem mostTo_no {ps : List Ph} {s : ByteArray} {k : Nat} (h : (txR ps (s.extract 0 (k + 1)) 0).ex = false) : mostTo ps s (k + 1) = mostTo ps s k := by simp [mostTo, h]
theorem mostTo_le (ps : List Ph) (s : ByteArray) : ∀ k, mostTo ps s k ≤ k
  | 0 => Nat.le_refl _
  | k + 1 => by
    have := mostTo_le ps s k
    unfold mostTo
    split <;> omega
theorem mostTo_spec {ps : List Ph} {s : ByteArray} (hb : bookB ps = true) : ∀ k, k ≤ s.size → Reach s.size (txSt ps allS s) (mostTo ps s k) ∧ ∀ j, j ≤ k → Reach s.size (txSt ps allS s) j → j ≤ mostTo ps s k
  | 0, _ => ⟨.base, fun j hj _ => hj⟩
  | k + 1, hk => by
    obtain ⟨h1, h2⟩ := mostTo_spec (s := s) hb k (by omega)
    have hre := reach_ex (s := s) (m := k + 1) hb hk (txR_is (s := s.extract 0 (k + 1)) hb)
    cases hx : (txR ps (s.extract 0 (k + 1)) 0).ex with
    | true =>
      rw [mostTo_yes hx]
      exact ⟨hre.2 hx, fun j hj _ => hj⟩
    | false =>
      rw [mostTo_no hx]
      refine ⟨h1, fun j hj hr => ?_⟩
      by_cases e : j = k + 1
      · subst e; rw [hre.1 hr] at hx; cases hx
      · exact h2 j (by omega) hr
theorem part_is {ps : List Ph} {s : ByteArray} (hb : bookB ps = true) : (reachAt (txSt ps allS s) s.size).2 = mostTo ps s s.size := by
  have hah := txSt_ahead hb allS s
  have h1 := reachAt_sound (n := s.size) (ss := txSt ps allS s) s.size (Nat.le_refl _)
  obtain ⟨h2, h3⟩ := mostTo_spec (s := s) hb s.size (Nat.le_refl _)
  have h4 := reachAt_all hah h1.2
  have h5 := h3 _ h4.1 h1.2
  have h6 := reachAt_all hah h2
  have h7 := reachAt_mono (s.size - mostTo ps s s.size) (mostTo ps s s.size) (mostTo ps s s.size) h6.2
  rw [show mostTo ps s s.size + (s.size - mostTo ps s s.size) = s.size by omega] at h7
  have h8 := reachAt_top s.size _ h7
  omega
noncomputable def partN (ps : List Ph) (s : ByteArray) : Int := okI (askB ps s) (mostTo ps s s.size : Nat)
theorem partN_no {ps : List Ph} {s : ByteArray} (h : askB ps s = false) : partN ps s = 0 := by unfold partN; rw [h]; rfl
theorem partN_yes {ps : List Ph} {s : ByteArray} (h : askB ps s = true) : partN ps s = (mostTo ps s s.size : Nat) := by unfold partN; rw [h]; rfl
end Go.Proofs.Ytpogpehbkgjiaaa
