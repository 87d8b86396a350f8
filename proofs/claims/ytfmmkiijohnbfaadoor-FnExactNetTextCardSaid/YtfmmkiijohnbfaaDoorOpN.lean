/- A net that came in, opened: it reads as towers and links. Written by a generator of this claim's author. -/
import Derived.Test.YtfmmkiijohnbfaaDoorNeL
import Derived.Test.YtfmmkiijohnbfaaDoorOp
import Derived.Deep.Slices
import Derived.Deep.Fields
import Derived.Lib.SmallJoins
namespace Go.Proofs.YtfmmkiijohnbfaaDoor
open Go.ChangeShapes Go.WideShapes Go.ChangeAt Go.RowKit Go.Deep Go.Joins
set_option linter.unusedSimpArgs false
set_option linter.unusedVariables false

section
variable {H : Type} {enc : TypeId × Value → H} {w : World} {base : Nat} {held : Bool}
set_option maxRecDepth 100000 in
theorem Towers_of_cells {fuel : Nat} {cs : List Value} {x : DataW H × List MemPlace} (h : DataW.trod enc Tryd.prog w base (fun _ => true) held fuel 22 cs = some x) :
    ∃ c, ∃ ts : List T3, cs = [c] ∧ RdR c3 3 w c ts := by
  rcases open_slice Tryd.underlying22 h with ⟨rfl, -⟩ | ⟨a, len, cap, m, n, D, Pl, rfl, hb, hl, hm, hmm, -, hx⟩
  · exact ⟨_, [], rfl, .inl ⟨rfl, _, _, rfl, fun _ => rfl⟩⟩
  · rw [if_pos rfl] at hmm
    subst hmm
    have hC : Tryd.prog.cellsOf 83 = 3 := by kernel_rfl
    have hCi : Tryd.prog.cellsOf 3 = 1 := by kernel_rfl
    have each : ∀ i, i < len → ∃ t : T3, ∀ f, f < 3 → w.cell? ((a.add (i * 3)).add f) = some (c3 t f) := by
      intro i hi
      obtain ⟨cs', hc, ht'⟩ := hx i (by omega)
      rw [hC] at hc
      obtain ⟨_, hcl, hat⟩ := World.cells?_some hc
      obtain ⟨xs, n', _, _, _, hxl, hg⟩ := DataW.trod_struct Tryd.underlying83 ht'
      match cs', hcl, xs, hxl with
      | [d0, d1, d2], _, [y0, y1, y2], _ =>
        have g0 := hg 0 _ rfl
        have g1 := hg 1 _ rfl
        have g2 := hg 2 _ rfl
        simp [hCi] at g0 g1 g2
        obtain ⟨n0, e0, -, -⟩ := DataW.trod_int Tryd.underlying3 g0
        obtain ⟨n1, e1, -, -⟩ := DataW.trod_int Tryd.underlying3 g1
        obtain ⟨n2, e2, -, -⟩ := DataW.trod_int Tryd.underlying3 g2
        have e0' : d0 = .int .i64 n0 := by simpa using e0
        have e1' : d1 = .int .i64 n1 := by simpa using e1
        have e2' : d2 = .int .i64 n2 := by simpa using e2
        subst e0' e1' e2'
        refine ⟨⟨n0, n1, n2⟩, fun f hf => ?_⟩
        rw [hat f hf]
        match f, hf with
        | 0, _ => rfl
        | 1, _ => rfl
        | 2, _ => rfl
        | q + 3, h => omega
    obtain ⟨f, hf⟩ := choose_lt each
    by_cases h0 : len = 0
    · subst h0
      exact ⟨_, [], rfl, .inl ⟨rfl, _, _, rfl, fun h => by cases h⟩⟩
    · obtain ⟨b, off, spot⟩ := a
      have hcell0 := hf 0 (by omega) 0 (by omega)
      have hspot : spot = none := by simpa [Addr.add] using World.cell?_spot hcell0
      subst hspot
      have hlen : ((List.range len).map f).length = len := by simp
      have hat : ∀ i, i < len → rAt ((List.range len).map f) i = f i := by
        intro i hi
        simp [rAt, hi]
      have hadd : ∀ o j, (⟨b, o, none⟩ : Addr).add j = ⟨b, o + j, none⟩ := by
        intro o j; unfold Addr.add; split <;> simp_all
      refine ⟨_, (List.range len).map f, rfl, .inr ⟨b, off, m, by rw [hlen], ?_, by rw [hlen]; exact hl, hm, ?_⟩⟩
      · have := World.block_lt_of_cell? w _ hcell0
        simpa [Addr.add] using this
      · intro i hi g hg
        rw [hlen] at hi
        rw [hat i hi]
        have := hf i hi g hg
        rw [hadd, hadd] at this
        exact this
set_option maxRecDepth 100000 in
theorem Links_of_cells {fuel : Nat} {cs : List Value} {x : DataW H × List MemPlace} (h : DataW.trod enc Tryd.prog w base (fun _ => true) held fuel 23 cs = some x) :
    ∃ c, ∃ ts : List T3, cs = [c] ∧ RdR c3 3 w c ts := by
  rcases open_slice Tryd.underlying23 h with ⟨rfl, -⟩ | ⟨a, len, cap, m, n, D, Pl, rfl, hb, hl, hm, hmm, -, hx⟩
  · exact ⟨_, [], rfl, .inl ⟨rfl, _, _, rfl, fun _ => rfl⟩⟩
  · rw [if_pos rfl] at hmm
    subst hmm
    have hC : Tryd.prog.cellsOf 85 = 3 := by kernel_rfl
    have hCi : Tryd.prog.cellsOf 3 = 1 := by kernel_rfl
    have each : ∀ i, i < len → ∃ t : T3, ∀ f, f < 3 → w.cell? ((a.add (i * 3)).add f) = some (c3 t f) := by
      intro i hi
      obtain ⟨cs', hc, ht'⟩ := hx i (by omega)
      rw [hC] at hc
      obtain ⟨_, hcl, hat⟩ := World.cells?_some hc
      obtain ⟨xs, n', _, _, _, hxl, hg⟩ := DataW.trod_struct Tryd.underlying85 ht'
      match cs', hcl, xs, hxl with
      | [d0, d1, d2], _, [y0, y1, y2], _ =>
        have g0 := hg 0 _ rfl
        have g1 := hg 1 _ rfl
        have g2 := hg 2 _ rfl
        simp [hCi] at g0 g1 g2
        obtain ⟨n0, e0, -, -⟩ := DataW.trod_int Tryd.underlying3 g0
        obtain ⟨n1, e1, -, -⟩ := DataW.trod_int Tryd.underlying3 g1
        obtain ⟨n2, e2, -, -⟩ := DataW.trod_int Tryd.underlying3 g2
        have e0' : d0 = .int .i64 n0 := by simpa using e0
        have e1' : d1 = .int .i64 n1 := by simpa using e1
        have e2' : d2 = .int .i64 n2 := by simpa using e2
        subst e0' e1' e2'
        refine ⟨⟨n0, n1, n2⟩, fun f hf => ?_⟩
        rw [hat f hf]
        match f, hf with
        | 0, _ => rfl
        | 1, _ => rfl
        | 2, _ => rfl
        | q + 3, h => omega
    obtain ⟨f, hf⟩ := choose_lt each
    by_cases h0 : len = 0
    · subst h0
      exact ⟨_, [], rfl, .inl ⟨rfl, _, _, rfl, fun h => by cases h⟩⟩
    · obtain ⟨b, off, spot⟩ := a
      have hcell0 := hf 0 (by omega) 0 (by omega)
      have hspot : spot = none := by simpa [Addr.add] using World.cell?_spot hcell0
      subst hspot
      have hlen : ((List.range len).map f).length = len := by simp
      have hat : ∀ i, i < len → rAt ((List.range len).map f) i = f i := by
        intro i hi
        simp [rAt, hi]
      have hadd : ∀ o j, (⟨b, o, none⟩ : Addr).add j = ⟨b, o + j, none⟩ := by
        intro o j; unfold Addr.add; split <;> simp_all
      refine ⟨_, (List.range len).map f, rfl, .inr ⟨b, off, m, by rw [hlen], ?_, by rw [hlen]; exact hl, hm, ?_⟩⟩
      · have := World.block_lt_of_cell? w _ hcell0
        simpa [Addr.add] using this
      · intro i hi g hg
        rw [hlen] at hi
        rw [hat i hi]
        have := hf i hi g hg
        rw [hadd, hadd] at this
        exact this
set_option maxRecDepth 100000 in
theorem open_Net {r : Reach} {b0 : Nat} {v : Value} {d : DataW H} {p : List MemPlace} (hv : Value.okWide Tryd.prog w r b0 25 v) (h : DataW.Trod enc Tryd.prog w base (fun _ => true) held 25 v d p) :
    ∃ c0 c1 ts ls, v = .agg #[c0, c1] ∧ RdN w c0 c1 ts ls := by
  obtain ⟨cs, rfl, hsz⟩ := okWide_struct Tryd.underlying25 hv
  obtain ⟨fuel, hf⟩ := h
  obtain ⟨l⟩ := cs
  have hC : Tryd.prog.cellsOf 25 = 2 := by kernel_rfl
  have hC0 : Tryd.prog.cellsOf 22 = 1 := by kernel_rfl
  have hC1 : Tryd.prog.cellsOf 23 = 1 := by kernel_rfl
  match l, hsz.trans hC with
  | [c0, c1], _ =>
    obtain ⟨xs, n, _, hx, _, hlen, hg⟩ := DataW.trod_struct Tryd.underlying25 hf
    match xs, hlen with
    | [y0, y1], _ =>
      have g0 := hg 0 _ rfl
      have g1 := hg 1 _ rfl
      simp [Value.cells, hC0, hC1] at g0 g1
      obtain ⟨e0, ts0, hc0, hr0⟩ := Towers_of_cells g0
      simp at hc0
      subst hc0
      obtain ⟨e1, ts1, hc1, hr1⟩ := Links_of_cells g1
      simp at hc1
      subst hc1
      exact ⟨_, _, ts0, ts1, rfl, hr0, hr1⟩
end
end Go.Proofs.YtfmmkiijohnbfaaDoor
