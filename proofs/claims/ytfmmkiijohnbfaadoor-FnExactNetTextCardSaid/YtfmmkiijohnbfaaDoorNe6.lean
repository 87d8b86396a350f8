/- Chapter 6: the box that a net lies in; has it a tower? the number of a link. -/
import Derived.Test.YtfmmkiijohnbfaaDoorNe3
import Derived.Test.YtfmmkiijohnbfaaDoorNe4
import Derived.Test.YtfmmkiijohnbfaaDoorNe5
namespace Go.Proofs.YtfmmkiijohnbfaaDoor
open Go.RowKit Go.Sort
set_option linter.unusedSimpArgs false
set_option linter.unusedVariables false

/-- W follows w; the net that was handed over lies in w's first new block. -/
structure NB (w W : World) (a0 : Option Addr) (n p0 : Nat) (a1 : Option Addr) (m p1 : Nat) (ts ls : List T3) : Prop where
  below : Below w.heap.size w W
  lt : w.heap.size < W.heap.size
  b0 : W.cell? ⟨w.heap.size, 0, none⟩ = some (.slice a0 n p0)
  b1 : W.cell? ⟨w.heap.size, 1, none⟩ = some (.slice a1 m p1)
  rd : RdN W (.slice a0 n p0) (.slice a1 m p1) ts ls
theorem NB.start {w : World} {a0 a1 : Option Addr} {n p0 m p1 : Nat} {ts ls : List T3} (h : RdN w (.slice a0 n p0) (.slice a1 m p1) ts ls) (t : TypeId) : NB w (w.alloc (.cells #[.slice a0 n p0, .slice a1 m p1] t)) a0 n p0 a1 m p1 ts ls :=
  have hb := (Below.refl w.heap.size w).alloc (Nat.le_refl _) (.cells #[.slice a0 n p0, .slice a1 m p1] t)
  ⟨hb, by simp, by simp [go_sem], by simp [go_sem], h.later hb⟩
theorem NB.next {w W W' : World} {a0 a1 : Option Addr} {n p0 m p1 : Nat} {ts ls : List T3} (h : NB w W a0 n p0 a1 m p1 ts ls) (hb : Below W.heap.size W W') : NB w W' a0 n p0 a1 m p1 ts ls :=
  ⟨h.below.trans (hb.mono h.below.size), Nat.lt_of_lt_of_le h.lt hb.size, by rw [hb.cell (p := ⟨w.heap.size, 0, none⟩) h.lt]; exact h.b0, by rw [hb.cell (p := ⟨w.heap.size, 1, none⟩) h.lt]; exact h.b1, h.rd.later hb⟩
theorem NB.alloc {w W : World} {a0 a1 : Option Addr} {n p0 m p1 : Nat} {ts ls : List T3} (h : NB w W a0 n p0 a1 m p1 ts ls) (o : Obj) : NB w (W.alloc o) a0 n p0 a1 m p1 ts ls := h.next ((Below.refl _ _).alloc (Nat.le_refl _) o)
theorem NB.drew {w W : World} {a0 a1 : Option Addr} {n p0 m p1 : Nat} {ts ls : List T3} (h : NB w W a0 n p0 a1 m p1 ts ls) : NB w W.drew a0 n p0 a1 m p1 ts ls := h.next (Below.refl _ _).drew

theorem neGood_b {b : Bool} (c0 c1 : Value) (ts ls : List T3) (w : World) (hr : RdN w c0 c1 ts ls) (hb : netB ts ls = b) :
    Calls Tryd.prog 16 #[.agg #[c0, c1]] w fun e w' => e = .returned (.bool b) ∧ Below w.heap.size w w' := by subst hb; exact neGood_any _ _ _ _ _ hr
theorem isNet_b {b : Bool} (c0 c1 : Value) (ts ls : List T3) (w : World) (hr : RdN w c0 c1 ts ls) (hb : netB ts ls = b) :
    Calls Tryd.prog 20 #[.agg #[c0, c1]] w fun e w' => e = .returned (.bool b) ∧ Below w.heap.size w w' := by subst hb; exact isNet_any _ _ _ _ _ hr

end Go.Proofs.YtfmmkiijohnbfaaDoor
