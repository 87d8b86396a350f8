/- Chapter 8: the answers that own their memory, among the blocks of the call. -/
import Derived.Test.YtpmdjdlojbpcfaaSt9
namespace Go.Proofs.Ytpmdjdlojbpcfaa
open Go.RowKit
set_option linter.unusedSimpArgs false
set_option linter.unusedVariables false

theorem specSeenFrom_i (v u : Value) (L : List (List Int)) (n : Int) (zs : List Int) (w : World) (hr : RdJ w v L) (hu : Rd w u zs) :
    Calls Try.prog 27 #[v, .int .i64 n, u] w fun e w' => ∃ v', e = .returned (.tuple #[v', .bool (askB L n zs)]) ∧ OwnI w' w.heap.size w'.heap.size v' (sfL L n zs) ∧ Below w.heap.size w w' :=
  (specSeenFrom_any v u L n zs w hr hu).mono fun e w' ⟨v', he, ho, hb⟩ => ⟨v', he, ho.iv, hb⟩
theorem implSeenFrom_i (v u : Value) (L : List (List Int)) (n : Int) (zs : List Int) (w : World) (hr : RdJ w v L) (hu : Rd w u zs) :
    Calls Try.prog 26 #[v, .int .i64 n, u] w fun e w' => ∃ v', e = .returned (.tuple #[v', .bool (askB L n zs)]) ∧ OwnI w' w.heap.size w'.heap.size v' (sfL L n zs) ∧ Below w.heap.size w w' :=
  (implSeenFrom_any v u L n zs w hr hu).mono fun e w' ⟨v', he, ho, hb⟩ => ⟨v', he, ho.iv, hb⟩
theorem specAreSites_b (v : Value) (L : List (List Int)) (n : Int) (w : World) (hr : RdJ w v L) :
    Calls Try.prog 44 #[v, .int .i64 n] w fun e w' => e = .returned (.bool (stB L n)) ∧ Below w.heap.size w w' :=
  (specAreSites_any v L n w hr).mono fun e w' ⟨he, hw⟩ => ⟨he, by rw [← hw]; exact Below.refl _ _⟩
end Go.Proofs.Ytpmdjdlojbpcfaa
