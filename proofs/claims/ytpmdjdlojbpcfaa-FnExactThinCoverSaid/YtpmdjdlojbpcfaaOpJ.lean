/- A slice of slices of integers that came in, opened: it reads as lists. -/
import Derived.Test.YtpmdjdlojbpcfaaOp
import Derived.Test.YtpmdjdlojbpcfaaIv
import Derived.Deep.Slices
import Derived.Lib.SmallJoins
namespace Go.Proofs.Ytpmdjdlojbpcfaa
open Go.ChangeShapes Go.WideShapes Go.ChangeAt Go.RowKit Go.Deep Go.Joins
set_option linter.unusedSimpArgs false
set_option linter.unusedVariables false

section
variable {H : Type} {enc : TypeId × Value → H} {w : World} {base : Nat} {held : Bool}

theorem lists_of_cells {fuel : Nat} {cs : List Value} {x : DataW H × List MemPlace} (h : DataW.trod enc Try.prog w base (fun _ => true) held fuel 23 cs = some x) :
    ∃ c L, cs = [c] ∧ RdJ w c L := by
  rcases open_slice1 Try.underlying23 (by kernel_rfl) h with ⟨rfl, -⟩ | ⟨a, len, cap, m, n, V, D, Pl, rfl, hb, hl, hm, hmm, -, hx⟩
  · exact ⟨_, [], rfl, .inl ⟨rfl, _, _, rfl, fun _ => rfl⟩⟩
  · rw [if_pos rfl] at hmm
    subst hmm
    have each : ∀ i, i < len → ∃ p : List Int, RdC w (V i) p := by
      intro i hi
      obtain ⟨c0, t1⟩ := hx i (by omega)
      obtain ⟨a', l', c', zs, e1, hrow⟩ := row_of_cells t1
      refine ⟨zs.take l', ?_⟩
      have : V i = .slice a' l' c' := by simpa using e1
      rw [this]
      exact hrow.rdc
    obtain ⟨f, hf⟩ := choose_lt each
    by_cases h0 : len = 0
    · subst h0
      exact ⟨_, [], rfl, .inl ⟨rfl, _, _, rfl, fun h => by cases h⟩⟩
    · obtain ⟨b, off, spot⟩ := a
      have hcell0 := (hx 0 (by omega)).1
      have hspot : spot = none := by simpa [Addr.add] using World.cell?_spot hcell0
      subst hspot
      have hlen : ((List.range len).map f).length = len := by simp
      have hat : ∀ i, i < len → rowAt ((List.range len).map f) i = f i := by
        intro i hi
        simp [rowAt, hi]
      have hadd : ∀ j, (⟨b, off, none⟩ : Addr).add j = ⟨b, off + j, none⟩ := by
        intro j; unfold Addr.add; split <;> simp_all
      refine ⟨_, (List.range len).map f, rfl, .inr ⟨b, off, m, by rw [hlen], ?_, by rw [hlen]; exact hl, hm, ?_⟩⟩
      · have := World.block_lt_of_cell? w _ hcell0
        simpa [Addr.add] using this
      · intro i hi
        rw [hlen] at hi
        rw [hat i hi]
        obtain ⟨c0, -⟩ := hx i (by omega)
        rw [hadd] at c0
        exact ⟨V i, c0, hf i hi⟩
theorem open_lists {r : Reach} {b0 : Nat} {v : Value} {d : DataW H} {p : List MemPlace} (hv : Value.okWide Try.prog w r b0 23 v) (h : DataW.Trod enc Try.prog w base (fun _ => true) held 23 v d p) :
    ∃ L, RdJ w v L := by
  obtain ⟨a, len, cap, rfl⟩ := okWide_slice Try.underlying23 hv
  obtain ⟨fuel, hf⟩ := h
  obtain ⟨c, L, hc, hr⟩ := lists_of_cells hf
  simp [Value.cells] at hc
  subst hc
  exact ⟨L, hr⟩
end
end Go.Proofs.Ytpmdjdlojbpcfaa
