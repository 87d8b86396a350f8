/- A book that came in, opened: it reads as phrases. -/
import Derived.Test.YtkmdionldaejjaaDoorBk0
import Derived.Test.YtkmdionldaejjaaDoorChecked
import Derived.ProofKit
import Derived.OpenShut
import Derived.ShutString
import Derived.ChangeOld
import Derived.Deep.SlicePairs
import Derived.Lib.SmallJoins
namespace Go.Proofs.YtkmdionldaejjaaDoor
open Go.ChangeShapes Go.WideShapes Go.ChangeAt Go.RowKit Go.Deep Go.Joins
set_option linter.unusedSimpArgs false
set_option linter.unusedVariables false

section
variable {H : Type} {enc : TypeId × Value → H} {w : World} {base : Nat} {held : Bool}

theorem row_of_cells {fuel : Nat} {cs : List Value} {x : DataW H × List MemPlace} (h : DataW.trod enc Tryd.prog w base (fun _ => true) held fuel 22 cs = some x) :
    ∃ a len cap zs, cs = [.slice a len cap] ∧ IsRow .i64 w a len cap zs := by
  rcases open_ints Tryd.underlying22 Tryd.underlying3 (by kernel_rfl) h with ⟨rfl, -⟩ | ⟨x, l, c, zs, rfl, -, hl, hm, hz, -, hcell, hwz⟩
  · exact ⟨none, 0, 0, [], rfl, .inl ⟨rfl, rfl, rfl, rfl⟩⟩
  · exact ⟨_, _, _, zs, rfl, .inr ⟨_, rfl, hl, hm, by simpa using hz, hcell, hwz⟩⟩

theorem phrases_of_cells {fuel : Nat} {cs : List Value} {x : DataW H × List MemPlace} (h : DataW.trod enc Tryd.prog w base (fun _ => true) held fuel 32 cs = some x) :
    ∃ c ps, cs = [c] ∧ RdPs w c ps := by
  rcases open_slice_pairs Tryd.underlying32 Tryd.underlying82 (by kernel_rfl) rfl rfl (by kernel_rfl) (by kernel_rfl) h with ⟨rfl, -⟩ | ⟨a, len, cap, m, n, V0, V1, D0, D1, P0, P1, rfl, hb, hl, hm, hmm, -, hx⟩
  · exact ⟨_, [], rfl, .inl ⟨rfl, _, _, rfl, fun _ => rfl⟩⟩
  · rw [if_pos rfl] at hmm
    subst hmm
    have each : ∀ i, i < len → ∃ p : Ph, V0 i = .string p.txt ∧ p.txt.size ≤ maxLen ∧ RdC w (V1 i) p.sig := by
      intro i hi
      obtain ⟨c0, c1, t0, t1⟩ := hx i (by omega)
      obtain ⟨s, e0, -, hs⟩ := DataW.trod_string Tryd.underlying9 t0
      obtain ⟨a', l', c', zs, e1, hrow⟩ := row_of_cells t1
      refine ⟨⟨s, zs.take l'⟩, by simpa using e0, hs, ?_⟩
      have : V1 i = .slice a' l' c' := by simpa using e1
      rw [this]
      exact hrow.rdc
    obtain ⟨f, hf⟩ := choose_lt each
    by_cases h0 : len = 0
    · subst h0
      exact ⟨_, [], rfl, .inl ⟨rfl, _, _, rfl, fun h => by cases h⟩⟩
    · obtain ⟨b, off, spot⟩ := a
      have hcell0 := (hx 0 (by omega)).1
      have hspot : spot = none := by simpa [Addr.add] using World.cell?_spot hcell0
      subst hspot
      have hlen : ((List.range len).map f).length = len := by simp
      have hat : ∀ i, i < len → phAt ((List.range len).map f) i = f i := by
        intro i hi
        simp [phAt, hi]
      have hadd : ∀ j, (⟨b, off, none⟩ : Addr).add j = ⟨b, off + j, none⟩ := by
        intro j; unfold Addr.add; split <;> simp_all
      refine ⟨_, (List.range len).map f, rfl, .inr ⟨b, off, m, by rw [hlen], ?_, by rw [hlen]; exact hl, hm, ?_⟩⟩
      · have := World.block_lt_of_cell? w _ hcell0
        simpa [Addr.add] using this
      · intro i hi
        rw [hlen] at hi
        rw [hat i hi]
        obtain ⟨c0, c1, -, -⟩ := hx i (by omega)
        obtain ⟨e0, hs, hr⟩ := hf i hi
        rw [hadd, e0] at c0
        rw [hadd, ← Nat.add_assoc] at c1
        exact ⟨hs, c0, V1 i, c1, hr⟩

set_option maxRecDepth 100000 in
theorem open_book {r : Reach} {b0 : Nat} {v : Value} {d : DataW H} {p : List MemPlace} (hv : Value.okWide Tryd.prog w r b0 34 v) (h : DataW.Trod enc Tryd.prog w base (fun _ => true) held 34 v d p) :
    ∃ c ps, v = .agg #[c] ∧ RdPs w c ps := by
  obtain ⟨cs, rfl, hsz⟩ := okWide_struct Tryd.underlying34 hv
  obtain ⟨fuel, hf⟩ := h
  obtain ⟨l⟩ := cs
  have hC : Tryd.prog.cellsOf 34 = 1 := by kernel_rfl
  have hC1 : Tryd.prog.cellsOf 32 = 1 := by kernel_rfl
  match l, hsz.trans hC with
  | [c0], _ =>
    obtain ⟨xs, n, _, hx, _, hlen, hg⟩ := DataW.trod_struct Tryd.underlying34 hf
    match xs, hlen with
    | [y0], _ =>
      have g0 := hg 0 _ rfl
      simp [Value.cells, hC1] at g0
      obtain ⟨c, ps, hc, hr⟩ := phrases_of_cells g0
      simp at hc
      subst hc
      exact ⟨_, ps, rfl, hr⟩
end
end Go.Proofs.YtkmdionldaejjaaDoor
