/- Boxes that a function lays: what stays in them. -/
import Derived.Test.YteickcpmicifgaaRgn
import Derived.Test.YteickcpmicifgaaNeL
namespace Go.Proofs.Yteickcpmicifgaa
open Go.RowKit
set_option linter.unusedSimpArgs false
set_option linter.unusedVariables false

/-- Three values lie in block b. -/
structure Box3 (W : World) (b : Nat) (q0 q1 q2 : Value) : Prop where
  lt : b < W.heap.size
  c0 : W.cell? ⟨b, 0, none⟩ = some q0
  c1 : W.cell? ⟨b, 1, none⟩ = some q1
  c2 : W.cell? ⟨b, 2, none⟩ = some q2
theorem Box3.new (w : World) (q0 q1 q2 : Value) (t : TypeId) : Box3 (w.alloc (.cells #[q0, q1, q2] t)) w.heap.size q0 q1 q2 := ⟨by simp, by simp [go_sem], by simp [go_sem], by simp [go_sem]⟩
theorem Box3.next {W W' : World} {b : Nat} {q0 q1 q2 : Value} (h : Box3 W b q0 q1 q2) (hb : Below W.heap.size W W') : Box3 W' b q0 q1 q2 :=
  ⟨Nat.lt_of_lt_of_le h.lt hb.size, bcell hb h.c0, bcell hb h.c1, bcell hb h.c2⟩
theorem Box3.set {W : World} {b b' o : Nat} {q0 q1 q2 u : Value} (h : Box3 W b q0 q1 q2) (hne : b' ≠ b) : Box3 (W.setCell ⟨b', o, none⟩ u) b q0 q1 q2 :=
  ⟨by simpa [World.setCell] using h.lt, by rw [setc_far hne]; exact h.c0, by rw [setc_far hne]; exact h.c1, by rw [setc_far hne]; exact h.c2⟩
/-- A variable of two cells lies in block b. -/
structure Var2 (W : World) (b : Nat) (q0 q1 : Value) : Prop where
  lt : b < W.heap.size
  c0 : W.cell? ⟨b, 0, none⟩ = some q0
  c1 : W.cell? ⟨b, 1, none⟩ = some q1
  f0 : W.frozen? ⟨b, 0, none⟩ = false
  f1 : W.frozen? ⟨b, 1, none⟩ = false
theorem Var2.new (w : World) (q0 q1 : Value) (t : TypeId) : Var2 (w.alloc (.cells #[q0, q1] t)) w.heap.size q0 q1 := ⟨by simp, by simp [go_sem], by simp [go_sem], by simp [go_sem], by simp [go_sem]⟩
theorem Var2.next {W W' : World} {b : Nat} {q0 q1 : Value} (h : Var2 W b q0 q1) (hb : Below W.heap.size W W') : Var2 W' b q0 q1 :=
  ⟨Nat.lt_of_lt_of_le h.lt hb.size, bcell hb h.c0, bcell hb h.c1, by rw [hb.frozen (p := ⟨b, 0, none⟩) h.lt]; exact h.f0, by rw [hb.frozen (p := ⟨b, 1, none⟩) h.lt]; exact h.f1⟩
theorem setf (w : World) (b o b' o' : Nat) (u : Value) (h : ∃ v, w.cell? ⟨b, o, none⟩ = some v) : (w.setCell ⟨b, o, none⟩ u).frozen? ⟨b', o', none⟩ = w.frozen? ⟨b', o', none⟩ := by
  obtain ⟨v, h⟩ := h
  simp [go_sem, h]
theorem Var2.set {W : World} {b b' o : Nat} {q0 q1 u : Value} (h : Var2 W b q0 q1) (hne : b' ≠ b) (hc : ∃ v, W.cell? ⟨b', o, none⟩ = some v) : Var2 (W.setCell ⟨b', o, none⟩ u) b q0 q1 :=
  ⟨by simpa [World.setCell] using h.lt, by rw [setc_far hne]; exact h.c0, by rw [setc_far hne]; exact h.c1, by rw [setf _ _ _ _ _ _ hc]; exact h.f0, by rw [setf _ _ _ _ _ _ hc]; exact h.f1⟩
theorem Var2.put1 {W : World} {b : Nat} {q0 q1 u : Value} (h : Var2 W b q0 q1) : Var2 (W.setCell ⟨b, 1, none⟩ u) b q0 u :=
  ⟨by simpa [World.setCell] using h.lt, by have := h.c0; simpa [go_sem] using this, setc_same h.c1, by rw [setf _ _ _ _ _ _ ⟨_, h.c1⟩]; exact h.f0, by rw [setf _ _ _ _ _ _ ⟨_, h.c1⟩]; exact h.f1⟩
theorem NB.set {w W : World} {a0 a1 : Option Addr} {n p0 m p1 b o : Nat} {ts ls : List T3} {u : Value} (h : NB w W a0 n p0 a1 m p1 ts ls) (h0 : RdN w (.slice a0 n p0) (.slice a1 m p1) ts ls) (hb : w.heap.size < b) : NB w (W.setCell ⟨b, o, none⟩ u) a0 n p0 a1 m p1 ts ls :=
  have hB := h.below.setCell (p := ⟨b, o, none⟩) (by show w.heap.size ≤ b; omega) u
  ⟨hB, by simpa [World.setCell] using h.lt, by rw [setc_far (by omega)]; exact h.b0, by rw [setc_far (by omega)]; exact h.b1, h0.below hB (Nat.le_refl _)⟩
theorem OwnR.setFar {T : Type} {cl : T → Nat → Value} {k : Nat} {e : TypeId} {w : World} {B : Nat} {v : Value} {ts : List T} (h : OwnR e cl k w B v ts) {b o : Nat} {x : Value} (hb : v.ownBlock ≠ some b) : OwnR e cl k (w.setCell ⟨b, o, none⟩ x) B v ts :=
  row_at h fun j hj => Below.heap_setCell _ _ _ _ (by show j ≠ b; intro e; subst e; exact hb hj)
end Go.Proofs.Yteickcpmicifgaa
