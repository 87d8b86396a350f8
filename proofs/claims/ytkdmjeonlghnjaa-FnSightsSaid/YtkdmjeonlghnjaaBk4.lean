/- Chapter 2: lists of signals, whether two are the same, whether they are a phrase's. Written by a generator of this claim's author. -/
import Derived.Test.YtkdmjeonlghnjaaBk3
namespace Go.Proofs.Ytkdmjeonlghnjaa
open Go.RowKit
set_option linter.unusedSimpArgs false
set_option linter.unusedVariables false

theorem Rd.max {w : World} {v : Value} {zs : List Int} (h : Rd w v zs) : zs.length ≤ maxLen := by
  rcases h with ⟨rfl, -⟩ | ⟨g, off, cap, -, -, hm, -⟩
  · simp
  · exact hm
theorem Rd.at_ {w : World} {a : Option Addr} {n cap : Nat} {zs : List Int} (h : Rd w (.slice a n cap) zs) (hn : n = zs.length) (i : Nat) (hi : i < n) :
    ∃ g off, a = some ⟨g, off, none⟩ ∧ g < w.heap.size ∧ w.cell? ⟨g, off + i, none⟩ = some (.int .i64 (zs[i]?.getD 0)) := by
  rcases h with ⟨rfl, -⟩ | ⟨g, off, cap', hv, hg, hm, hc⟩
  · simp at hn; omega
  · simp only [Value.slice.injEq] at hv
    obtain ⟨rfl, -, -⟩ := hv
    exact ⟨g, off, rfl, hg, hc i (by omega)⟩
def sameB (a b : List Int) : Bool := decide (a = b)
theorem sameB_iff {a b : List Int} : sameB a b = true ↔ a = b := by simp [sameB]
theorem sameB_len {a b : List Int} (h : ¬ a.length = b.length) : sameB a b = false := by
  simp only [sameB, decide_eq_false_iff_not]; rintro rfl; exact h rfl
theorem sameB_no {a b : List Int} {k : Nat} (h : ¬ a[k]?.getD 0 = b[k]?.getD 0) : sameB a b = false := by
  simp only [sameB, decide_eq_false_iff_not]; rintro rfl; exact h rfl
theorem sameB_yes {a b : List Int} (hl : a.length = b.length) (h : ∀ j, j < a.length → a[j]?.getD 0 = b[j]?.getD 0) : sameB a b = true := by
  rw [sameB_iff]
  apply List.ext_getElem hl
  intro i h1 h2
  have := h i h1
  simpa [h1, h2] using this

theorem l1In_any (n lo hi : Int) (w : World) : Calls Try.prog 72 #[.int .i64 n, .int .i64 lo, .int .i64 hi] w fun e w' => e = .returned (.bool (inB n lo hi)) ∧ w = w' := by
  by_cases h0 : lo ≤ n
  · go_enter Try.func72, Try.ntmps72
    go_wp2
    go_ret
    exact ⟨ret_bool (by unfold inB; simp; try omega), rfl⟩
  · go_enter Try.func72, Try.ntmps72
    go_wp2
    go_ret
    exact ⟨ret_bool (by unfold inB; simp; try omega), rfl⟩
theorem sigB_short {zs : List Int} (h : ¬ 1 ≤ zs.length) : sigB zs = false := by simp [sigB, h]
theorem sigB_long {zs : List Int} (h : ¬ zs.length ≤ 3) : sigB zs = false := by simp [sigB, h]
theorem sigB_mid {zs : List Int} (h : 1 ≤ zs.length) (h' : zs.length ≤ 3) : sigB zs = allIn zs 1 60 := by simp [sigB, h, h']
end Go.Proofs.Ytkdmjeonlghnjaa
