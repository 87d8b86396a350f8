/- Chapter 8: needed sites, greedy covers: the answers that own their memory, among the blocks of the call. -/
import Derived.Test.YtpmdjdlojbpcfaaStJ
import Derived.Test.YtpmdjdlojbpcfaaStM
namespace Go.Proofs.Ytpmdjdlojbpcfaa
open Go.RowKit
set_option linter.unusedSimpArgs false
set_option linter.unusedVariables false

theorem specNeededSites_i (v : Value) (L : List (List Int)) (n : Int) (w : World) (hr : RdJ w v L) :
    Calls Try.prog 22 #[v, .int .i64 n] w fun e w' => ∃ v', e = .returned (.tuple #[v', .bool (stB L n)]) ∧ OwnI w' w.heap.size w'.heap.size v' (nsL L n) ∧ Below w.heap.size w w' :=
  (specNeededSites_any v L n w hr).mono fun e w' ⟨v', he, ho, hb⟩ => ⟨v', he, ho.iv, hb⟩
theorem implNeededSites_i (v : Value) (L : List (List Int)) (n : Int) (w : World) (hr : RdJ w v L) :
    Calls Try.prog 21 #[v, .int .i64 n] w fun e w' => ∃ v', e = .returned (.tuple #[v', .bool (stB L n)]) ∧ OwnI w' w.heap.size w'.heap.size v' (nsL L n) ∧ Below w.heap.size w w' :=
  (implNeededSites_any v L n w hr).mono fun e w' ⟨v', he, ho, hb⟩ => ⟨v', he, ho.iv, hb⟩
theorem specGreedyCover_i (v : Value) (L : List (List Int)) (n : Int) (w : World) (hr : RdJ w v L) :
    Calls Try.prog 20 #[v, .int .i64 n] w fun e w' => ∃ v', e = .returned (.tuple #[v', .bool (grA L n)]) ∧ OwnI w' w.heap.size w'.heap.size v' (grL L n) ∧ Below w.heap.size w w' :=
  (specGreedyCover_any v L n w hr).mono fun e w' ⟨v', he, ho, hb⟩ => ⟨v', he, ho.iv, hb⟩
theorem implGreedyCover_i (v : Value) (L : List (List Int)) (n : Int) (w : World) (hr : RdJ w v L) :
    Calls Try.prog 19 #[v, .int .i64 n] w fun e w' => ∃ v', e = .returned (.tuple #[v', .bool (grA L n)]) ∧ OwnI w' w.heap.size w'.heap.size v' (grL L n) ∧ Below w.heap.size w w' :=
  (implGreedyCover_any v L n w hr).mono fun e w' ⟨v', he, ho, hb⟩ => ⟨v', he, ho.iv, hb⟩
end Go.Proofs.Ytpmdjdlojbpcfaa
