/- Words for regions that are walked by hand: the world is given a name. -/
import Derived.Deep.RegionHeld
import Derived.Below
import Derived.WalkKit
namespace Go.Proofs.Ytpmdjdlojbpcfaa
open Go.RowKit
set_option linter.unusedSimpArgs false
set_option linter.unusedVariables false

theorem wpAnyH_name {P : Program} {md : Region.Mode} {ops : Array Oper} {Q : Exit → Act → World → Prop} {S : World → Prop} {fuel : Nat} {listed : Array Bool} {a : Act} {w : World}
    (h : ∀ X, X = w → wpAnyH P md ops Q S fuel listed a X) : wpAnyH P md ops Q S fuel listed a w := h w rfl
theorem below_named {w x : World} (h : x = w.drew) : Below w.heap.size w x := by rw [h]; exact (Below.refl _ _).drew
theorem below_alloc {w x : World} {o : Obj} (h : x = w.alloc o) : Below w.heap.size w x := by rw [h]; exact (Below.refl _ _).alloc (Nat.le_refl _) _
theorem size_named {w x : World} {o : Obj} (h : x = w.alloc o) : x.heap.size = w.heap.size + 1 := by rw [h]; simp
theorem lt_named {w x : World} {o : Obj} (h : x = w.alloc o) : w.heap.size < x.heap.size := by rw [size_named h]; omega
/-- A cell of an older world. -/
theorem bcell {w x : World} (hb : Below w.heap.size w x) {b o : Nat} {v : Value} (h : w.cell? ⟨b, o, none⟩ = some v) : x.cell? ⟨b, o, none⟩ = some v := by
  rw [hb.cell (p := ⟨b, o, none⟩) (World.block_lt_of_cell? w _ h)]; exact h
end Go.Proofs.Ytpmdjdlojbpcfaa
