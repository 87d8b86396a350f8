/- Chapter 5: a word with its pair; an exchange of two signals. Written by a generator of this claim's author. -/
import Derived.Test.YtnkcmadjeofedaaDoorCk3
import Derived.BigQuiet
import Derived.Deep.QuietTactic
namespace Go.Proofs.YtnkcmadjeofedaaDoor
open Go.RowKit
set_option linter.unusedSimpArgs false
set_option linter.unusedVariables false

theorem rd_new2 (w : World) (x y : Int) : Rd (w.alloc (.cells #[.int .i64 x, .int .i64 y] 3)) (.slice (some ⟨w.heap.size, 0, none⟩) 2 2) [x, y] := by
  refine .inr ⟨w.heap.size, 0, 2, rfl, by simp, by unfold maxLen; simp, fun i hi => ?_⟩
  have hi' : i < 2 := hi
  match i, hi' with
  | 0, _ => simp [go_sem]
  | 1, _ => simp [go_sem]
def wpL (zs : List Int) : List Int := if ckB 48 zs then zs ++ [pX zs, pY zs] else []
theorem wpL_yes {zs : List Int} (h : ckB 48 zs = true) : wpL zs = zs ++ [pX zs, pY zs] := by simp [wpL, h]
theorem wpL_no {zs : List Int} (h : ckB 48 zs = false) : wpL zs = [] := by simp [wpL, h]
theorem wpL_len (zs : List Int) : (wpL zs).length ≤ 50 := by
  cases h : ckB 48 zs with
  | false => rw [wpL_no h]; simp
  | true => have := ckB_len h; rw [wpL_yes h]; simp; omega
/-- What a call stores into its own slice. -/
theorem Own.put {w : World} {B g n cap : Nat} {zs : List Int} (h : Own w B (.slice (some ⟨g, 0, none⟩) n cap) zs) (hn : n = zs.length) (k : Nat) (x : Int) :
    Own (w.setCell ⟨g, k, none⟩ (.int .i64 x)) B (.slice (some ⟨g, 0, none⟩) n cap) (zs.set k x) ∧ w.grownBy (w.setCell ⟨g, k, none⟩ (.int .i64 x)) (some g) := by
  unfold Own at h ⊢
  rw [← hn] at h
  have := h.stored k (.int .i64 x)
  rw [List.length_set, ← hn, List.map_set]
  exact this
theorem Own.spot {w : World} {B g n cap : Nat} {zs : List Int} (h : Own w B (.slice (some ⟨g, 0, none⟩) n cap) zs) (hn : n = zs.length) (k : Nat) (hk : k < n) :
    w.cell? ⟨g, k, none⟩ = some (.int .i64 (nth zs k)) ∧ w.frozen? ⟨g, k, none⟩ = false := by
  unfold Own at h
  rw [← hn] at h
  refine ⟨?_, h.frozenAt k⟩
  rw [h.cellAt k (by omega)]
  have : k < zs.length := by omega
  simp [nth, this]
theorem nth_set (zs : List Int) (i j : Nat) (x : Int) : nth (zs.set i x) j = if i = j ∧ i < zs.length then x else nth zs j := by
  unfold nth
  rw [List.getElem?_set]
  by_cases h : i = j
  · subst h
    by_cases h2 : i < zs.length
    · simp [h2]
    · simp [h2]
  · simp [h]
theorem ckB_set {m : Nat} {zs : List Int} (h : ckB m zs = true) (i : Nat) (x : Int) (h0 : 1 ≤ x) (h1 : x ≤ 61) : ckB m (zs.set i x) = true := by
  have hl := ckB_len h
  have ha : allIn (zs.set i x) 1 61 = true := allIn_true _ _ _ fun k hk => by
    rw [List.length_set] at hk
    have e := nth_set zs i k x
    unfold nth at e
    rw [e]
    split
    · exact inB_yes h0 h1
    · have := ckB_get h k hk
      exact inB_yes this.1 this.2
  simp only [ckB, ha, List.length_set, Bool.and_eq_true, decide_eq_true_eq]
  exact ⟨hl, trivial⟩
/-- Two signals exchanged. -/
def swL (zs : List Int) (i k : Nat) : List Int := (zs.set i (nth zs k)).set k (nth zs i)
theorem swL_word {zs : List Int} (h : ckB 50 zs = true) {i k : Nat} (hi : i < zs.length) (hk : k < zs.length) : ckB 50 (swL zs i k) = true := by
  have a := ckB_get h i hi
  have b := ckB_get h k hk
  exact ckB_set (ckB_set h _ _ b.1 b.2) _ _ a.1 a.2
theorem swL_len (zs : List Int) (i k : Nat) : (swL zs i k).length = zs.length := by simp [swL]
def seeB (zs : List Int) (i k : Int) : Bool := hasB2 zs i && (hasB2 zs k && hldB zs)

end Go.Proofs.YtnkcmadjeofedaaDoor
