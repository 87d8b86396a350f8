/- Slices of phrases that the call itself made, with slices of its own inside; the laws' copies of phrases and books, and their look whether two are alike. -/
import Derived.Test.YtpmdjdlojbpcfaaBk2
import Derived.Deep.RegionWith
namespace Go.Proofs.Ytpmdjdlojbpcfaa
open Go.RowKit
set_option linter.unusedSimpArgs false
set_option linter.unusedVariables false

def flat2 (n : Nat) (f g : Nat → Value) : List Value := (List.range n).flatMap fun i => [f i, g i]
theorem flat2_succ (n : Nat) (f g : Nat → Value) : flat2 (n + 1) f g = flat2 n f g ++ [f n, g n] := by simp [flat2, List.range_succ]
theorem flat2_len (n : Nat) (f g : Nat → Value) : (flat2 n f g).length = n * 2 := by
  induction n with
  | zero => rfl
  | succ n ih => rw [flat2_succ, List.length_append, ih]; simp; omega
theorem flat2_get (n : Nat) (f g : Nat → Value) (j : Nat) : (flat2 n f g)[j]? = if j < n * 2 then some (if j % 2 = 0 then f (j / 2) else g (j / 2)) else none := by
  induction n with
  | zero => simp [flat2]
  | succ n ih =>
    rw [flat2_succ, List.getElem?_append, flat2_len]
    by_cases h : j < n * 2
    · rw [if_pos h, ih, if_pos h, if_pos (show j < (n + 1) * 2 by omega)]
    · rw [if_neg h]
      by_cases h0 : j = n * 2
      · subst h0
        rw [if_pos (by omega), Nat.sub_self, if_pos (by omega), show n * 2 / 2 = n by omega]
        rfl
      · by_cases h1 : j = n * 2 + 1
        · subst h1
          rw [if_pos (by omega), show n * 2 + 1 - n * 2 = 1 by omega, if_neg (by omega), show (n * 2 + 1) / 2 = n by omega]
          rfl
        · rw [if_neg (by omega)]
          apply List.getElem?_eq_none
          simp; omega
theorem flat2_even (n : Nat) (f g : Nat → Value) (i : Nat) (h : i < n) : (flat2 n f g)[i * 2]? = some (f i) := by
  rw [flat2_get, if_pos (by omega), if_pos (by omega), show i * 2 / 2 = i by omega]
theorem flat2_odd (n : Nat) (f g : Nat → Value) (i : Nat) (h : i < n) : (flat2 n f g)[i * 2 + 1]? = some (g i) := by
  rw [flat2_get, if_pos (by omega), if_neg (by omega), show (i * 2 + 1) / 2 = i by omega]
theorem flat2_congr (n : Nat) (f g f' g' : Nat → Value) (h : ∀ i, i < n → f i = f' i ∧ g i = g' i) : flat2 n f g = flat2 n f' g' := by
  apply List.ext_getElem?
  intro j
  rw [flat2_get, flat2_get]
  by_cases hj : j < n * 2
  · rw [if_pos hj, if_pos hj, (h (j / 2) (by omega)).1, (h (j / 2) (by omega)).2]
  · rw [if_neg hj, if_neg hj]
theorem flat2_set (n : Nat) (f g : Nat → Value) (k : Nat) (a b : Value) (hk : k < n) :
    ((flat2 n f g).set (k * 2) a).set (k * 2 + 1) b = flat2 n (fun i => if i = k then a else f i) (fun i => if i = k then b else g i) := by
  apply List.ext_getElem?
  intro j
  simp only [List.getElem?_set, List.length_set, flat2_len, flat2_get]
  by_cases h1 : k * 2 + 1 = j
  · subst h1
    rw [if_pos rfl, if_pos (by omega), if_pos (by omega), if_neg (by omega), if_pos (by omega)]
  · by_cases h0 : k * 2 = j
    · subst h0
      rw [if_neg h1, if_pos rfl, if_pos (by omega), if_pos (by omega), if_pos (by omega), if_pos (by omega)]
    · rw [if_neg h1, if_neg h0]
      by_cases hj : j < n * 2
      · rw [if_pos hj, if_pos hj]
        by_cases he : j % 2 = 0
        · rw [if_pos he, if_pos he, if_neg (by omega)]
        · rw [if_neg he, if_neg he, if_neg (by omega)]
      · rw [if_neg hj, if_neg hj]

theorem rows_apart {w : World} {B B' : Nat} {e e' : TypeId} {s s' : Nat} {v v' : Value} {n n' : Nat} {xs xs' : List Value} (h : w.ownsRow B e s v n xs) (h' : w.ownsRow B' e' s' v' n' xs') (hne : e ≠ e') : v.ownBlock = none ∨ v.ownBlock ≠ v'.ownBlock := by
  rcases h.2 with ⟨rfl, -⟩ | ⟨g, cap, cur, rfl, -, hg, -⟩
  · exact .inl rfl
  · rcases h'.2 with ⟨rfl, -⟩ | ⟨g', cap', cur', rfl, -, hg', -⟩
    · exact .inr (by simp [Value.ownBlock])
    · refine .inr fun e1 => ?_
      have : g = g' := by simpa [Value.ownBlock] using e1
      subst this
      rw [hg] at hg'
      simp at hg'
      exact hne hg'.2
theorem row_below {w w' : World} {B C : Nat} {e : TypeId} {s n : Nat} {v : Value} {xs : List Value} (h : w.ownsRow B e s v n xs) (hb : Below C w w') (hC : ∀ k, v.ownBlock = some k → k < C) : w'.ownsRow B e s v n xs := by
  obtain ⟨h1, h2⟩ := h
  refine ⟨h1, ?_⟩
  rcases h2 with h2 | ⟨g, cap, cur, hv, hg, hh, r⟩
  · exact .inl h2
  · exact .inr ⟨g, cap, cur, hv, hg, by rw [hb.block g (hC g (by rw [hv]; rfl))]; exact hh, r⟩
theorem phAt_set {ps : List Ph} {k : Nat} {p : Ph} (hk : k < ps.length) (i : Nat) : phAt (ps.set k p) i = if i = k then p else phAt ps i := by
  unfold phAt
  rw [List.getElem?_set]
  by_cases h : k = i
  · subst h; simp [hk]
  · rw [if_neg h, if_neg (Ne.symm h)]
theorem made_phrases (n : Nat) : (madeCells (Value.agg #[.string ByteArray.empty, .slice none 0 0]).cells (n * 2)).toList = flat2 n (fun _ => .string ByteArray.empty) (fun _ => .slice none 0 0) := by
  apply List.ext_getElem?
  intro j
  rw [flat2_get]
  by_cases hj : j < n * 2
  · rw [if_pos hj]
    by_cases he : j % 2 = 0
    · simp [madeCells, hj, he, Value.cells]
    · have h1 : j % 2 = 1 := by omega
      simp [madeCells, hj, h1, Value.cells]
  · rw [if_neg hj]
    simp [madeCells, hj]
/-- The first k phrases, and empty ones behind. -/
def padPs (ps : List Ph) (n k : Nat) : List Ph := ps.take k ++ List.replicate (n - k) default
theorem padPs_len {ps : List Ph} {n k : Nat} (hn : ps.length = n) (hk : k ≤ n) : (padPs ps n k).length = n := by simp [padPs]; omega
theorem padPs_all {ps : List Ph} {n : Nat} (hn : ps.length = n) : padPs ps n n = ps := by simp [padPs, ← hn]
theorem padPs_step {ps : List Ph} {n k : Nat} (hn : ps.length = n) (hk : k < n) : (padPs ps n k).set k (phAt ps k) = padPs ps n (k + 1) := by
  unfold padPs
  rw [List.set_append_right _ _ (by simp; omega), show k - (ps.take k).length = 0 by simp; omega, show n - k = (n - (k + 1)) + 1 by omega, List.replicate_succ, List.set_cons_zero, phAt_eq (by omega)]
  rw [show ps.take (k + 1) = ps.take k ++ [ps[k]] from List.take_succ_eq_append_getElem (by omega), List.append_assoc]
  rfl
/-! ### The laws' copies -/
theorem Own.apart_lt {w : World} {B : Nat} {v : Value} {zs : List Int} (h : Own w B v zs) {b : Nat} (hb : b < B) : v.ownBlock ≠ some b := fun e => by have := (h.lt b e).1; omega
theorem Own.setFar {w : World} {B : Nat} {v : Value} {zs : List Int} (h : Own w B v zs) {b o : Nat} {x : Value} (hne : v.ownBlock ≠ some b) : Own (w.setCell ⟨b, o, none⟩ x) B v zs := by
  obtain ⟨h1, h2⟩ := h
  refine ⟨h1, ?_⟩
  rcases h2 with h2 | ⟨g, cap, cur, hv, hg, hh, r⟩
  · exact .inl h2
  · refine .inr ⟨g, cap, cur, hv, hg, ?_, r⟩
    rw [Below.heap_setCell _ _ _ _ (fun e => hne (by rw [hv, e]; rfl))]
    exact hh
theorem row_same {w w' : World} {B : Nat} {e : TypeId} {s n : Nat} {v : Value} {xs : List Value} (h : w.ownsRow B e s v n xs) (hs : ∀ k, B ≤ k → k < w.heap.size → w'.heap[k]? = w.heap[k]?) : w'.ownsRow B e s v n xs := by
  have hl := h.lt
  obtain ⟨h1, h2⟩ := h
  refine ⟨h1, ?_⟩
  rcases h2 with h2 | ⟨g, cap, cur, hv, hg, hh, r⟩
  · exact .inl h2
  · exact .inr ⟨g, cap, cur, hv, hg, by rw [hs g hg (hl g (by rw [hv]; rfl)).2]; exact hh, r⟩
theorem Own.same {w w' : World} {B : Nat} {v : Value} {zs : List Int} (h : Own w B v zs) (hs : ∀ k, B ≤ k → k < w.heap.size → w'.heap[k]? = w.heap[k]?) : Own w' B v zs := row_same h hs
/-! ### Two that read alike are alike -/
end Go.Proofs.Ytpmdjdlojbpcfaa
