/- Chapter 6: what the laws' walks carry: a box of two cells. -/
import Derived.Test.YtfmmkiijohnbfaaDoorNe6
namespace Go.Proofs.YtfmmkiijohnbfaaDoor
open Go.RowKit
set_option linter.unusedSimpArgs false
set_option linter.unusedVariables false

/-- Two values lie in block b. -/
structure Box2 (W : World) (b : Nat) (q0 q1 : Value) : Prop where
  lt : b < W.heap.size
  c0 : W.cell? ⟨b, 0, none⟩ = some q0
  c1 : W.cell? ⟨b, 1, none⟩ = some q1
theorem Box2.new (w : World) (q0 q1 : Value) (t : TypeId) : Box2 (w.alloc (.cells #[q0, q1] t)) w.heap.size q0 q1 := ⟨by simp, by simp [go_sem], by simp [go_sem]⟩
theorem Box2.next {W W' : World} {b : Nat} {q0 q1 : Value} (h : Box2 W b q0 q1) (hb : Below W.heap.size W W') : Box2 W' b q0 q1 :=
  ⟨Nat.lt_of_lt_of_le h.lt hb.size, by rw [hb.cell (p := ⟨b, 0, none⟩) h.lt]; exact h.c0, by rw [hb.cell (p := ⟨b, 1, none⟩) h.lt]; exact h.c1⟩
theorem Box2.kp {W W' : World} {b B C : Nat} {q0 q1 : Value} (h : Box2 W b q0 q1) (hk : Kp B C W W') (hx : b < B ∨ C ≤ b) : Box2 W' b q0 q1 :=
  ⟨Nat.lt_of_lt_of_le h.lt hk.size, by rw [World.cell?_of_block (a := ⟨b, 0, none⟩) (hk.block b h.lt hx)]; exact h.c0, by rw [World.cell?_of_block (a := ⟨b, 1, none⟩) (hk.block b h.lt hx)]; exact h.c1⟩
theorem NB.nextB {w W W' : World} {a0 a1 : Option Addr} {n p0 m p1 : Nat} {ts ls : List T3} (h : NB w W a0 n p0 a1 m p1 ts ls) {B : Nat} (hb : Below B W W') (hB : w.heap.size < B) (hR : RdN w (.slice a0 n p0) (.slice a1 m p1) ts ls) : NB w W' a0 n p0 a1 m p1 ts ls :=
  have hb' := h.below.trans (hb.mono (Nat.le_of_lt hB))
  ⟨hb', Nat.lt_of_lt_of_le h.lt hb.size, by rw [hb.cell (p := ⟨w.heap.size, 0, none⟩) hB]; exact h.b0, by rw [hb.cell (p := ⟨w.heap.size, 1, none⟩) hB]; exact h.b1, hR.below hb' (Nat.le_refl _)⟩
end Go.Proofs.YtfmmkiijohnbfaaDoor
