/- A sight that came in, opened: three numbers, and Grounds. Written by a generator of this claim's author. -/
import Derived.Test.YtkdmjeonlghnjaaSi1
import Derived.Test.YtkdmjeonlghnjaaOp
import Derived.Deep.Slices
import Derived.Deep.Fields
import Derived.Lib.SmallJoins
namespace Go.Proofs.Ytkdmjeonlghnjaa
open Go.ChangeShapes Go.WideShapes Go.ChangeAt Go.RowKit Go.Deep Go.Joins
set_option linter.unusedSimpArgs false
set_option linter.unusedVariables false

section
variable {H : Type} {enc : TypeId × Value → H} {w : World} {base : Nat} {held : Bool}
set_option maxRecDepth 100000 in
theorem Grounds_of_cells {fuel : Nat} {cs : List Value} {x : DataW H × List MemPlace} (h : DataW.trod enc Try.prog w base (fun _ => true) held fuel 52 cs = some x) :
    ∃ c, ∃ ts : List T2, cs = [c] ∧ RdR c2 2 w c ts := by
  rcases open_slice Try.underlying52 h with ⟨rfl, -⟩ | ⟨a, len, cap, m, n, D, Pl, rfl, hb, hl, hm, hmm, -, hx⟩
  · exact ⟨_, [], rfl, .inl ⟨rfl, _, _, rfl, fun _ => rfl⟩⟩
  · rw [if_pos rfl] at hmm
    subst hmm
    have hC : Try.prog.cellsOf 104 = 2 := by kernel_rfl
    have hCi : Try.prog.cellsOf 3 = 1 := by kernel_rfl
    have each : ∀ i, i < len → ∃ t : T2, ∀ f, f < 2 → w.cell? ((a.add (i * 2)).add f) = some (c2 t f) := by
      intro i hi
      obtain ⟨cs', hc, ht'⟩ := hx i (by omega)
      rw [hC] at hc
      obtain ⟨_, hcl, hat⟩ := World.cells?_some hc
      obtain ⟨xs, n', _, _, _, hxl, hg⟩ := DataW.trod_struct Try.underlying104 ht'
      match cs', hcl, xs, hxl with
      | [d0, d1], _, [y0, y1], _ =>
        have g0 := hg 0 _ rfl
        have g1 := hg 1 _ rfl
        simp [hCi] at g0 g1
        obtain ⟨n0, e0, -, -⟩ := DataW.trod_int Try.underlying3 g0
        obtain ⟨n1, e1, -, -⟩ := DataW.trod_int Try.underlying3 g1
        have e0' : d0 = .int .i64 n0 := by simpa using e0
        have e1' : d1 = .int .i64 n1 := by simpa using e1
        subst e0' e1'
        refine ⟨⟨n0, n1⟩, fun f hf => ?_⟩
        rw [hat f hf]
        match f, hf with
        | 0, _ => rfl
        | 1, _ => rfl
        | q + 2, h => omega
    obtain ⟨f, hf⟩ := choose_lt each
    by_cases h0 : len = 0
    · subst h0
      exact ⟨_, [], rfl, .inl ⟨rfl, _, _, rfl, fun h => by cases h⟩⟩
    · obtain ⟨b, off, spot⟩ := a
      have hcell0 := hf 0 (by omega) 0 (by omega)
      have hspot : spot = none := by simpa [Addr.add] using World.cell?_spot hcell0
      subst hspot
      have hlen : ((List.range len).map f).length = len := by simp
      have hat : ∀ i, i < len → rAt ((List.range len).map f) i = f i := by
        intro i hi
        simp [rAt, hi]
      have hadd : ∀ o j, (⟨b, o, none⟩ : Addr).add j = ⟨b, o + j, none⟩ := by
        intro o j; unfold Addr.add; split <;> simp_all
      refine ⟨_, (List.range len).map f, rfl, .inr ⟨b, off, m, by rw [hlen], ?_, by rw [hlen]; exact hl, hm, ?_⟩⟩
      · have := World.block_lt_of_cell? w _ hcell0
        simpa [Addr.add] using this
      · intro i hi g hg
        rw [hlen] at hi
        rw [hat i hi]
        have := hf i hi g hg
        rw [hadd, hadd] at this
        exact this
set_option maxRecDepth 100000 in
theorem open_Sight {r : Reach} {b0 : Nat} {v : Value} {d : DataW H} {p : List MemPlace} (hv : Value.okWide Try.prog w r b0 54 v) (h : DataW.Trod enc Try.prog w base (fun _ => true) held 54 v d p) :
    ∃ D A B c ts, v = .agg #[.int .i64 D, .int .i64 A, .int .i64 B, c] ∧ RdR c2 2 w c ts := by
  obtain ⟨cs, rfl, hsz⟩ := okWide_struct Try.underlying54 hv
  obtain ⟨fuel, hf⟩ := h
  obtain ⟨l⟩ := cs
  have hC : Try.prog.cellsOf 54 = 4 := by kernel_rfl
  have hCi : Try.prog.cellsOf 3 = 1 := by kernel_rfl
  have hCg : Try.prog.cellsOf 52 = 1 := by kernel_rfl
  match l, hsz.trans hC with
  | [k0, k1, k2, k3], _ =>
    obtain ⟨xs, n, _, hx, _, hlen, hg⟩ := DataW.trod_struct Try.underlying54 hf
    match xs, hlen with
    | [y0, y1, y2, y3], _ =>
      have g0 := hg 0 _ rfl
      have g1 := hg 1 _ rfl
      have g2 := hg 2 _ rfl
      have g3 := hg 3 _ rfl
      simp [Value.cells, hCi, hCg] at g0 g1 g2 g3
      obtain ⟨n0, e0, -, -⟩ := DataW.trod_int Try.underlying3 g0
      obtain ⟨n1, e1, -, -⟩ := DataW.trod_int Try.underlying3 g1
      obtain ⟨n2, e2, -, -⟩ := DataW.trod_int Try.underlying3 g2
      have e0' : k0 = .int .i64 n0 := by simpa using e0
      have e1' : k1 = .int .i64 n1 := by simpa using e1
      have e2' : k2 = .int .i64 n2 := by simpa using e2
      subst e0' e1' e2'
      obtain ⟨e3, ts3, hc3, hr3⟩ := Grounds_of_cells g3
      simp at hc3
      subst hc3
      exact ⟨n0, n1, n2, _, ts3, rfl, hr3⟩
end
end Go.Proofs.Ytkdmjeonlghnjaa
