/- Chapter 4: the lengths of a code of least cost: as lists. -/
import Derived.Test.YtgceaffcalkbgaaLl6
namespace Go.Proofs.Ytgceaffcalkbgaa
open Go.RowKit
set_option linter.unusedSimpArgs false
set_option linter.unusedVariables false

/-- The order of the weights, and the weights in it. -/
def oL (ws : List Int) : List Nat := ordTo (ltW ws) ws.length
def oI (ws : List Int) (t : Nat) : Nat := (oL ws).getD t 0
def srt (ws : List Int) : List Int := (oL ws).map fun i => nth ws i
theorem oL_len (ws : List Int) : (oL ws).length = ws.length := ordTo_len _ _
theorem srt_len (ws : List Int) : (srt ws).length = ws.length := by simp [srt, oL_len]
theorem oI_lt {ws : List Int} {t : Nat} (h : t < ws.length) : oI ws t < ws.length := ordTo_lt h
theorem srt_at {ws : List Int} {t : Nat} (h : t < ws.length) : nth (srt ws) t = nth ws (oI ws t) := by
  unfold srt oI
  simp [nth, List.getD_eq_getElem?_getD, oL_len, h]
theorem ints_at {ws : List Int} {t : Nat} (h : t < ws.length) : (ints (oL ws))[t]? = some ((oI ws t : Nat) : Int) := by
  unfold ints oI
  rw [List.getElem?_map, List.getD_eq_getElem?_getD, List.getElem?_eq_getElem (by rw [oL_len]; exact h)]
  rfl
theorem srt_sm {ws : List Int} (h : wtB ws = true) : SmW (srt ws) := by
  refine ⟨by rw [srt_len]; exact (wtB_len h).2, fun i hi => ?_⟩
  rw [srt_len] at hi
  rw [srt_at hi]
  exact wtB_get h _ (oI_lt hi)
/-- The lengths in the order of the weights. -/
def seqL (ws : List Int) (R lim : Nat) : List Int := runW (srt ws) R lim lim 0 (min R ws.length)
/-- The first t of them in their places. -/
def outT (ws : List Int) (q : List Int) : Nat → List Int
  | 0 => List.replicate ws.length 0
  | t + 1 => (outT ws q t).set (oI ws t) (nth q t)
theorem outT_len (ws q : List Int) (t : Nat) : (outT ws q t).length = ws.length := by
  induction t with
  | zero => simp [outT]
  | succ t ih => simp [outT, ih]
/-- Is there a code? -/
def hasL (ws : List Int) (R lim : Nat) : Bool := decide (cC (srt ws) R lim 0 (min R ws.length) < never)
theorem drop_nth {q r : List Int} {d k : Nat} (h : q.drop d = r) : nth q (d + k) = nth r k := by
  rw [← h]; simp [nth, List.getElem?_drop]
theorem nth_rep {T k : Nat} {x : Int} {r : List Int} (h : k < T) : nth (List.replicate T x ++ r) k = x := by
  simp [nth, List.getElem?_append_left, h]
/-- Behind the words that end at a level. -/
theorem run_next {S q : List Int} {R lim h d f T : Nat} (hS : SmW S) (hh : h + 1 ≤ 6) (hd : d < S.length) (hf : f ≤ S.length - d) (hfin : cC S R (h + 1) d f < never) (hc : Choice S R h d f T) (hq : q.drop d = runW S R lim (h + 1) d f) :
    (∀ k, k < T → nth q (d + k) = (lim : Int) - h) ∧ q.drop (d + T) = runW S R lim h (d + T) (min ((f - T) * R) (S.length - (d + T))) ∧ (d + T < S.length → cC S R h (d + T) (min ((f - T) * R) (S.length - (d + T))) < never) := by
  have h1 := choice_run (lim := lim) hS hh T d f (by omega) hf hfin (fun _ => hc) (by omega)
  rw [h1.1] at hq
  refine ⟨fun k hk => by rw [drop_nth hq, nth_rep hk], ?_, fun hl => ?_⟩
  · rw [← List.drop_drop, hq, List.drop_append_of_le_length (by simp)]
    simp only [List.drop_replicate, Nat.sub_self, List.replicate_zero, List.nil_append]
    by_cases e : d + T = S.length
    · rw [if_pos e, e, runW_end]
    · rw [if_neg e]
  · by_cases hR : 1 ≤ R
    · rw [cC_clip hR _ _ _ (by omega)]; exact h1.2 hl
    · obtain rfl : R = 0 := by omega
      have := h1.2 hl
      simpa using this
end Go.Proofs.Ytgceaffcalkbgaa
