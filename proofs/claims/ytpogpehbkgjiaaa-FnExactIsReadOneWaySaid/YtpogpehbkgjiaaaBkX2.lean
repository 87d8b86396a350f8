/- Chapter 2: copies of phrases; slices.Grow, slices.Concat. -/
import Derived.Test.YtpogpehbkgjiaaaBkX1
import Derived.Test.YtpogpehbkgjiaaaShelf
import Derived.Lib.AppendZerosOnto
import Derived.Lib.AppendZeros
import Derived.Lib.SliceRun
namespace Go.Proofs.Ytpogpehbkgjiaaa
open Go.RowKit
set_option linter.unusedSimpArgs false
set_option linter.unusedVariables false

theorem l1Own_any (v : Value) (zs : List Int) (w : World) (hz : zs.length ≤ 1099511627776) (hr : Rd w v zs) :
    Calls Try.prog 119 #[v] w fun e w' => ∃ v', e = .returned v' ∧ Own w' w.heap.size v' zs ∧ Below w.heap.size w w' := by
  have he := Own.empty w w.heap.size (Nat.le_refl _)
  have hb := (Below.refl w.heap.size w).alloc (Nat.le_refl _) (.cells #[] 3)
  have hr1 := hr.later hb
  obtain ⟨a, cap, hv⟩ := hr.len
  subst hv
  have HR := Lib.hid hr1
  have HE := Lib.hid he
  clear hr hr1 he
  go_enter Try.func119, Try.ntmps119
  go_wp2_with (at_builtin; refine append_ints rfl _ _ rfl w.heap.size _ [] zs _ rfl rfl HE.out HR.out (by simpa using hz) (by simp) ?_; intro v' w1 hown1 hgrow1)
  go_ret
  exact ⟨_, rfl, by simpa using hown1, hb.grown hgrow1 (by simp) (fun k hk => (HE.out.lt k hk).1)⟩

theorem SmallPs.take {ps : List Ph} (h : SmallPs ps) (k : Nat) : SmallPs (ps.take k) := by
  obtain ⟨h1, h2⟩ := h
  refine ⟨by simp; omega, fun i hi => ?_⟩
  rw [List.length_take] at hi
  rw [phAt_take (by omega)]
  exact h2 i (by omega)
theorem phAt_drop (ps : List Ph) (k i : Nat) : phAt (ps.drop k) i = phAt ps (k + i) := by simp [phAt]
theorem SmallPs.drop {ps : List Ph} (h : SmallPs ps) (k : Nat) : SmallPs (ps.drop k) := by
  obtain ⟨h1, h2⟩ := h
  refine ⟨by simp; omega, fun i hi => ?_⟩
  simp at hi
  rw [phAt_drop]
  exact h2 _ (by omega)

end Go.Proofs.Ytpogpehbkgjiaaa
