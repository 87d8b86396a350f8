/- Records of 3 integers. Written by a generator of this claim's author. -/
import Derived.Test.YtfmmkiijohnbfaaDoorFl0
import Derived.Test.YtfmmkiijohnbfaaDoorApp
namespace Go.Proofs.YtfmmkiijohnbfaaDoor
open Go.RowKit
set_option linter.unusedSimpArgs false
set_option linter.unusedVariables false

/-- A record of 3 integers. -/
structure T3 where
  x0 : Int
  x1 : Int
  x2 : Int
instance : Inhabited T3 := ⟨⟨0, 0, 0⟩⟩
def c3 (t : T3) : Nat → Value
  | 0 => .int .i64 t.x0
  | 1 => .int .i64 t.x1
  | _ => .int .i64 t.x2
theorem RdR.at3 {w : World} {a : Option Addr} {n cap : Nat} {ts : List T3} (h : RdR c3 3 w (.slice a n cap) ts) (hn : n = ts.length) (i : Nat) (hi : i < n) :
    ∃ g off, a = some ⟨g, off, none⟩ ∧ g < w.heap.size ∧ w.cell? ⟨g, off + i * 3, none⟩ = some (.int .i64 (rAt ts i).x0) ∧ w.cell? ⟨g, off + i * 3 + 1, none⟩ = some (.int .i64 (rAt ts i).x1) ∧ w.cell? ⟨g, off + i * 3 + 2, none⟩ = some (.int .i64 (rAt ts i).x2) := by
  obtain ⟨g, off, ha, hg, hc⟩ := h.at_ hn i hi
  exact ⟨g, off, ha, hg, hc 0 (by omega), hc 1 (by omega), hc 2 (by omega)⟩
theorem OwnR.at3 {w : World} {B g n cap : Nat} {e : TypeId} {ts : List T3} (h : OwnR e c3 3 w B (.slice (some ⟨g, 0, none⟩) n cap) ts) (i : Nat) (hi : i < ts.length) :
    w.cell? ⟨g, i * 3, none⟩ = some (.int .i64 (rAt ts i).x0) ∧ w.cell? ⟨g, i * 3 + 1, none⟩ = some (.int .i64 (rAt ts i).x1) ∧ w.cell? ⟨g, i * 3 + 2, none⟩ = some (.int .i64 (rAt ts i).x2) :=
  ⟨h.cellAt i hi 0 (by omega), h.cellAt i hi 1 (by omega), h.cellAt i hi 2 (by omega)⟩
theorem OwnR.put3 {w : World} {B g n cap : Nat} {e : TypeId} {ts : List T3} (h : OwnR e c3 3 w B (.slice (some ⟨g, 0, none⟩) n cap) ts) (t : T3) {i : Nat} (hi : i < ts.length) :
    OwnR e c3 3 (((w.setCell ⟨g, i * 3, none⟩ (.int .i64 t.x0)).setCell ⟨g, i * 3 + 1, none⟩ (.int .i64 t.x1)).setCell ⟨g, i * 3 + 2, none⟩ (.int .i64 t.x2)) B (.slice (some ⟨g, 0, none⟩) n cap) (ts.set i t) ∧ w.grownBy (((w.setCell ⟨g, i * 3, none⟩ (.int .i64 t.x0)).setCell ⟨g, i * 3 + 1, none⟩ (.int .i64 t.x1)).setCell ⟨g, i * 3 + 2, none⟩ (.int .i64 t.x2)) (some g) := by
  have p1 := OwnR.put h (i := i) (f := 0) (t := ⟨t.x0, (rAt ts i).x1, (rAt ts i).x2⟩) (x := .int .i64 t.x0) (by exact hi) (by omega) rfl (by
    intro f' h1 h2
    match f', h1, h2 with
    | 0, _, h2 => exact absurd rfl h2
    | 1, _, _ => rfl
    | 2, _, _ => rfl
    | m + 3, h1, _ => omega)
  have p2 := OwnR.put p1.1 (i := i) (f := 1) (t := ⟨t.x0, t.x1, (rAt ts i).x2⟩) (x := .int .i64 t.x1) (by simpa using hi) (by omega) rfl (by
    intro f' h1 h2
    rw [rAt_set (by exact hi), if_pos rfl]
    match f', h1, h2 with
    | 0, _, _ => rfl
    | 1, _, h2 => exact absurd rfl h2
    | 2, _, _ => rfl
    | m + 3, h1, _ => omega)
  have p3 := OwnR.put p2.1 (i := i) (f := 2) (t := ⟨t.x0, t.x1, t.x2⟩) (x := .int .i64 t.x2) (by simpa using hi) (by omega) rfl (by
    intro f' h1 h2
    rw [rAt_set (by simpa using hi), if_pos rfl]
    match f', h1, h2 with
    | 0, _, _ => rfl
    | 1, _, _ => rfl
    | 2, _, h2 => exact absurd rfl h2
    | m + 3, h1, _ => omega)
  simp only [List.set_set] at p3
  exact ⟨p3.1, ((p1.2.trans p2.2).trans p3.2)⟩
theorem RdR.one3 {w : World} {h c : Nat} (t : T3) (hh : h < w.heap.size) (h1 : 1 ≤ c) (h2 : c ≤ maxLen) (q0 : w.cell? ⟨h, 0, none⟩ = some (.int .i64 t.x0)) (q1 : w.cell? ⟨h, 1, none⟩ = some (.int .i64 t.x1)) (q2 : w.cell? ⟨h, 2, none⟩ = some (.int .i64 t.x2)) : RdR c3 3 w (.slice (some ⟨h, 0, none⟩) 1 c) [t] := by
  refine .inr ⟨h, 0, c, rfl, hh, h1, h2, fun i hi f hf => ?_⟩
  obtain rfl : i = 0 := by simpa using hi
  match f, hf with
  | 0, _ => rw [show 0 + 0 * 3 + 0 = 0 by omega]; exact q0
  | 1, _ => rw [show 0 + 0 * 3 + 1 = 1 by omega]; exact q1
  | 2, _ => rw [show 0 + 0 * 3 + 2 = 2 by omega]; exact q2
  | n + 3, h => omega
/-- The marks k0, k0 + 1 .. in the fields of n records. -/
def markR3 (k0 : Int) (n : Nat) : List T3 := (List.range n).map fun i : Nat => ⟨k0 + 3 * (i : Int), k0 + 3 * (i : Int) + 1, k0 + 3 * (i : Int) + 1 + 1⟩
theorem markR3_len (k0 : Int) (n : Nat) : (markR3 k0 n).length = n := by simp [markR3]
theorem markR3_at (k0 : Int) (n i : Nat) (h : i < n) : rAt (markR3 k0 n) i = ⟨k0 + 3 * (i : Int), k0 + 3 * (i : Int) + 1, k0 + 3 * (i : Int) + 1 + 1⟩ := by
  rw [rAt_eq (by rw [markR3_len]; exact h)]; simp [markR3]
theorem markR3_step (k0 : Int) (ts : List T3) (i : Nat) (h : i < ts.length) : (markR3 k0 i ++ ts.drop i).set i ⟨k0 + 3 * (i : Int), k0 + 3 * (i : Int) + 1, k0 + 3 * (i : Int) + 1 + 1⟩ = markR3 k0 (i + 1) ++ ts.drop (i + 1) := by
  rw [drop_rAt h, List.set_append_right _ _ (by rw [markR3_len]; exact Nat.le_refl _), markR3_len, Nat.sub_self, List.set_cons_zero]
  simp [markR3, List.range_succ]
theorem markR3_cat (k0 : Int) (ts : List T3) (i : Nat) (h : i ≤ ts.length) : (markR3 k0 i ++ ts.drop i).length = ts.length := by simp [markR3_len]; omega
theorem markR3_zero (k0 : Int) (ts : List T3) : markR3 k0 0 ++ ts.drop 0 = ts := rfl
theorem markR3_all (k0 : Int) (ts : List T3) : markR3 k0 ts.length ++ ts.drop ts.length = markR3 k0 ts.length := by simp
/-- The first of the records, then zeros. -/
def padR3 (ts : List T3) (n i : Nat) : List T3 := ts.take i ++ List.replicate (n - i) default
theorem padR3_len {ts : List T3} {n i : Nat} (hn : ts.length = n) (hi : i ≤ n) : (padR3 ts n i).length = n := by simp [padR3]; omega
theorem padR3_step {ts : List T3} {n i : Nat} (hn : ts.length = n) (hi : i < n) : (padR3 ts n i).set i (rAt ts i) = padR3 ts n (i + 1) := by
  unfold padR3
  rw [List.set_append_right _ _ (by simp; omega), show i - (ts.take i).length = 0 by simp; omega, show n - i = (n - (i + 1)) + 1 by omega, List.replicate_succ, List.set_cons_zero, take_rAt (by omega), List.append_assoc]
  rfl
theorem padR3_all {ts : List T3} {n : Nat} (hn : ts.length = n) : padR3 ts n n = ts := by unfold padR3; rw [Nat.sub_self, List.take_of_length_le (by omega)]; simp
theorem made_3 (n : Nat) : (madeCells (Value.agg #[.int .i64 0, .int .i64 0, .int .i64 0]).cells (n * 3)).toList = flatR c3 3 (List.replicate n (default : T3)) := by
  refine flatR_ext (by simp [madeCells]) fun i f hi hf => ?_
  rw [List.length_replicate] at hi
  have hlt : i * 3 + f < n * 3 := by omega
  have e : rAt (List.replicate n (default : T3)) i = default := by rw [rAt_eq (by simpa using hi)]; simp
  rw [e]
  have hm : (i * 3 + f) % 3 = f := by omega
  rw [Array.getElem?_toList]
  match f, hf, hm, hlt with
  | 0, _, hm, hlt => simp only [Nat.add_zero] at hm hlt ⊢; simp [madeCells, hlt, hm, Value.cells, c3]; rfl
  | 1, _, hm, hlt => simp [madeCells, hlt, hm, Value.cells, c3]; rfl
  | 2, _, hm, hlt => simp [madeCells, hlt, hm, Value.cells, c3]; rfl
  | m + 3, h, _, _ => omega
theorem OwnR.made3 {e : TypeId} {w1 : World} {B n : Nat} {ts : List T3} (hn : ts.length = n) {v : Value} (h : w1.ownsRow B e 3 v n (madeCells (Value.agg #[.int .i64 0, .int .i64 0, .int .i64 0]).cells (n * 3)).toList) : OwnR e c3 3 w1 B v (padR3 ts n 0) := by
  unfold OwnR
  rw [padR3_len hn (Nat.zero_le _)]
  rw [made_3] at h
  exact h
end Go.Proofs.YtfmmkiijohnbfaaDoor
