/- Chapter 8: least covers, the most spots apart: the answers that own their memory, among the blocks of the call. -/
import Derived.Test.YtpmdjdlojbpcfaaStG
namespace Go.Proofs.Ytpmdjdlojbpcfaa
open Go.RowKit
set_option linter.unusedSimpArgs false
set_option linter.unusedVariables false

theorem specLeastCover_i (v : Value) (L : List (List Int)) (n t : Int) (w : World) (hr : RdJ w v L) :
    Calls Try.prog 17 #[v, .int .i64 n, .int .i64 t] w fun e w' => ∃ v', e = .returned (.tuple #[v', .bool (lcR L n t).isSome]) ∧ OwnI w' w.heap.size w'.heap.size v' ((lcR L n t).getD []) ∧ Below w.heap.size w w' :=
  (specLeastCover_any v L n t w hr).mono fun e w' ⟨v', he, ho, hb⟩ => ⟨v', he, ho.iv, hb⟩
theorem implLeastCover_i (v : Value) (L : List (List Int)) (n t : Int) (w : World) (hr : RdJ w v L) :
    Calls Try.prog 16 #[v, .int .i64 n, .int .i64 t] w fun e w' => ∃ v', e = .returned (.tuple #[v', .bool (lcR L n t).isSome]) ∧ OwnI w' w.heap.size w'.heap.size v' ((lcR L n t).getD []) ∧ Below w.heap.size w w' :=
  (implLeastCover_any v L n t w hr).mono fun e w' ⟨v', he, ho, hb⟩ => ⟨v', he, ho.iv, hb⟩
theorem specMostApart_i (v : Value) (L : List (List Int)) (n : Int) (w : World) (hr : RdJ w v L) :
    Calls Try.prog 36 #[v, .int .i64 n] w fun e w' => ∃ v', e = .returned (.tuple #[v', .bool (stB L n)]) ∧ OwnI w' w.heap.size w'.heap.size v' (maL L n) ∧ Below w.heap.size w w' :=
  (specMostApart_any v L n w hr).mono fun e w' ⟨v', he, ho, hb⟩ => ⟨v', he, ho.iv, hb⟩
theorem implMostApart_i (v : Value) (L : List (List Int)) (n : Int) (w : World) (hr : RdJ w v L) :
    Calls Try.prog 35 #[v, .int .i64 n] w fun e w' => ∃ v', e = .returned (.tuple #[v', .bool (stB L n)]) ∧ OwnI w' w.heap.size w'.heap.size v' (maL L n) ∧ Below w.heap.size w w' :=
  (implMostApart_any v L n w hr).mono fun e w' ⟨v', he, ho, hb⟩ => ⟨v', he, ho.iv, hb⟩
end Go.Proofs.Ytpmdjdlojbpcfaa
