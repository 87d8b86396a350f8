/- A phrase that came in, opened. -/
import Derived.Test.YtkknmjioihnpkaaBkO
namespace Go.Proofs.Ytkknmjioihnpkaa
open Go.ChangeShapes Go.WideShapes Go.ChangeAt Go.RowKit Go.Deep Go.Joins
set_option linter.unusedSimpArgs false
set_option linter.unusedVariables false
section
variable {H : Type} {enc : TypeId × Value → H} {w : World} {base : Nat} {held : Bool}
set_option maxRecDepth 100000 in
theorem open_phrase {r : Reach} {b0 : Nat} {v : Value} {d : DataW H} {p : List MemPlace} (hv : Value.okWide Try.prog w r b0 57 v) (h : DataW.Trod enc Try.prog w base (fun _ => true) held 57 v d p) :
    ∃ s c zs, v = .agg #[.string s, c] ∧ (s.size ≤ maxLen ∧ RdC w c zs) := by
  obtain ⟨cs, rfl, hsz⟩ := okWide_struct Try.underlying57 hv
  obtain ⟨fuel, hf⟩ := h
  obtain ⟨l⟩ := cs
  have hC : Try.prog.cellsOf 57 = 2 := by kernel_rfl
  have hC1 : Try.prog.cellsOf 9 = 1 := by kernel_rfl
  have hC2 : Try.prog.cellsOf 31 = 1 := by kernel_rfl
  match l, hsz.trans hC with
  | [c0, c1], _ =>
    obtain ⟨xs, n, _, hx, _, hlen, hg⟩ := DataW.trod_struct Try.underlying57 hf
    match xs, hlen with
    | [y0, y1], _ =>
      have g0 := hg 0 _ rfl
      have g1 := hg 1 _ rfl
      simp [Value.cells, hC1, hC2] at g0 g1
      obtain ⟨s, e0, -, hs⟩ := DataW.trod_string Try.underlying9 g0
      obtain ⟨a', l', c', zs, e1, hrow⟩ := row_of_cells g1
      have e0' : c0 = .string s := by simpa using e0
      have e1' : c1 = .slice a' l' c' := by simpa using e1
      subst e0' e1'
      exact ⟨s, _, zs.take l', rfl, hs, hrow.rdc⟩
end
end Go.Proofs.Ytkknmjioihnpkaa
