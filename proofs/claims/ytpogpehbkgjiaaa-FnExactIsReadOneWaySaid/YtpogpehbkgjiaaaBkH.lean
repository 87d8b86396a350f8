/- The laws' marks on books, written and found again. -/
import Derived.Test.YtpogpehbkgjiaaaBkN
import Derived.Deep.RegionHeld3
namespace Go.Proofs.Ytpogpehbkgjiaaa
open Go.RowKit
set_option linter.unusedSimpArgs false
set_option linter.unusedVariables false

theorem markPs_at {k : Nat} {ps : List Ph} {i : Nat} (hi : i < ps.length) : phAt (markPs k ps) i = ⟨mtS (markN k (ps.take i)), markZ (markN k (ps.take i) + 1 : Nat) (phAt ps i).sig.length⟩ := by
  induction ps generalizing k i with
  | nil => simp at hi
  | cons p ps ih =>
    cases i with
    | zero => simp [markPs, phAt, markN]
    | succ i =>
      have := ih (k := k + 1 + p.sig.length) (i := i) (by simpa using hi)
      simpa [markPs, phAt, markN] using this

theorem markBook_any (B C : Nat) (v : Value) (ps : List Ph) (us : Nat → Value) (k0 : Nat) (w : World) (h0 : 1 ≤ k0) (h1 : k0 ≤ 1000000000) (hsm : SmallPs ps) (ho : OwnU w B C v ps us) :
    Calls Try.prog 21 #[.agg #[v], .int .i64 k0] w fun e w' => e = .returned (.int .i64 (markN k0 ps)) ∧ OwnU w' B C v (markPs k0 ps) us ∧ KeptBC B C w w' := by
  obtain ⟨a, cap, rfl, -⟩ := ho.ps.rd.len
  have hb0 := fun o => (Below.refl w.heap.size w).alloc (Nat.le_refl _) o
  go_enter Try.func21, Try.ntmps21
  go_wp2_with fail
  refine (markPhraseS_any B C _ ps us k0 _ h0 h1 hsm (ho.later (hb0 _))).mono ?_
  rintro e w1 ⟨rfl, ho1, hk⟩
  have hk1 := (KeptBC.of_below (hb0 (.cells #[.slice a ps.length cap] 31))).trans hk
  go_wp2
  go_ret
  exact ⟨rfl, ho1, hk1⟩
theorem markN_nonneg (k : Nat) (ps : List Ph) : (0 : Int) ≤ (markN k ps : Int) := by omega
end Go.Proofs.Ytpogpehbkgjiaaa
