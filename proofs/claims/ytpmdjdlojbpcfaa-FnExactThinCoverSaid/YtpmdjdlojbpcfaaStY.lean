/- Chapter 8: thin covers: the answers that own their memory, among the blocks of the call. -/
import Derived.Test.YtpmdjdlojbpcfaaStQ
namespace Go.Proofs.Ytpmdjdlojbpcfaa
open Go.RowKit
set_option linter.unusedSimpArgs false
set_option linter.unusedVariables false

theorem specThinCover_i (v u : Value) (L : List (List Int)) (n : Int) (zs : List Int) (w : World) (hr : RdJ w v L) (hu : Rd w u zs) :
    Calls Try.prog 25 #[v, .int .i64 n, u] w fun e w' => ∃ v', e = .returned (.tuple #[v', .bool (tcA L n zs)]) ∧ OwnI w' w.heap.size w'.heap.size v' (tcL L n zs) ∧ Below w.heap.size w w' :=
  (specThinCover_any v u L n zs w hr hu).mono fun e w' ⟨v', he, ho, hb⟩ => ⟨v', he, ho.iv, hb⟩
theorem implThinCover_i (v u : Value) (L : List (List Int)) (n : Int) (zs : List Int) (w : World) (hr : RdJ w v L) (hu : Rd w u zs) :
    Calls Try.prog 24 #[v, .int .i64 n, u] w fun e w' => ∃ v', e = .returned (.tuple #[v', .bool (tcA L n zs)]) ∧ OwnI w' w.heap.size w'.heap.size v' (tcL L n zs) ∧ Below w.heap.size w w' :=
  (implThinCover_any v u L n zs w hr hu).mono fun e w' ⟨v', he, ho, hb⟩ => ⟨v', he, ho.iv, hb⟩
end Go.Proofs.Ytpmdjdlojbpcfaa
