/- Records of 2 integers. Written by a generator of this claim's author. -/
import Derived.Test.YtkdmjeonlghnjaaFl0
import Derived.Test.YtkdmjeonlghnjaaApp
namespace Go.Proofs.Ytkdmjeonlghnjaa
open Go.RowKit
set_option linter.unusedSimpArgs false
set_option linter.unusedVariables false

/-- A record of 2 integers. -/
structure T2 where
  x0 : Int
  x1 : Int
instance : Inhabited T2 := ⟨⟨0, 0⟩⟩
def c2 (t : T2) : Nat → Value
  | 0 => .int .i64 t.x0
  | _ => .int .i64 t.x1
theorem RdR.at2 {w : World} {a : Option Addr} {n cap : Nat} {ts : List T2} (h : RdR c2 2 w (.slice a n cap) ts) (hn : n = ts.length) (i : Nat) (hi : i < n) :
    ∃ g off, a = some ⟨g, off, none⟩ ∧ g < w.heap.size ∧ w.cell? ⟨g, off + i * 2, none⟩ = some (.int .i64 (rAt ts i).x0) ∧ w.cell? ⟨g, off + i * 2 + 1, none⟩ = some (.int .i64 (rAt ts i).x1) := by
  obtain ⟨g, off, ha, hg, hc⟩ := h.at_ hn i hi
  exact ⟨g, off, ha, hg, hc 0 (by omega), hc 1 (by omega)⟩
theorem OwnR.at2 {w : World} {B g n cap : Nat} {e : TypeId} {ts : List T2} (h : OwnR e c2 2 w B (.slice (some ⟨g, 0, none⟩) n cap) ts) (i : Nat) (hi : i < ts.length) :
    w.cell? ⟨g, i * 2, none⟩ = some (.int .i64 (rAt ts i).x0) ∧ w.cell? ⟨g, i * 2 + 1, none⟩ = some (.int .i64 (rAt ts i).x1) :=
  ⟨h.cellAt i hi 0 (by omega), h.cellAt i hi 1 (by omega)⟩
theorem OwnR.put2 {w : World} {B g n cap : Nat} {e : TypeId} {ts : List T2} (h : OwnR e c2 2 w B (.slice (some ⟨g, 0, none⟩) n cap) ts) (t : T2) {i : Nat} (hi : i < ts.length) :
    OwnR e c2 2 ((w.setCell ⟨g, i * 2, none⟩ (.int .i64 t.x0)).setCell ⟨g, i * 2 + 1, none⟩ (.int .i64 t.x1)) B (.slice (some ⟨g, 0, none⟩) n cap) (ts.set i t) ∧ w.grownBy ((w.setCell ⟨g, i * 2, none⟩ (.int .i64 t.x0)).setCell ⟨g, i * 2 + 1, none⟩ (.int .i64 t.x1)) (some g) := by
  have p1 := OwnR.put h (i := i) (f := 0) (t := ⟨t.x0, (rAt ts i).x1⟩) (x := .int .i64 t.x0) (by exact hi) (by omega) rfl (by
    intro f' h1 h2
    match f', h1, h2 with
    | 0, _, h2 => exact absurd rfl h2
    | 1, _, _ => rfl
    | m + 2, h1, _ => omega)
  have p2 := OwnR.put p1.1 (i := i) (f := 1) (t := ⟨t.x0, t.x1⟩) (x := .int .i64 t.x1) (by simpa using hi) (by omega) rfl (by
    intro f' h1 h2
    rw [rAt_set (by exact hi), if_pos rfl]
    match f', h1, h2 with
    | 0, _, _ => rfl
    | 1, _, h2 => exact absurd rfl h2
    | m + 2, h1, _ => omega)
  simp only [List.set_set] at p2
  exact ⟨p2.1, (p1.2.trans p2.2)⟩
theorem RdR.one2 {w : World} {h c : Nat} (t : T2) (hh : h < w.heap.size) (h1 : 1 ≤ c) (h2 : c ≤ maxLen) (q0 : w.cell? ⟨h, 0, none⟩ = some (.int .i64 t.x0)) (q1 : w.cell? ⟨h, 1, none⟩ = some (.int .i64 t.x1)) : RdR c2 2 w (.slice (some ⟨h, 0, none⟩) 1 c) [t] := by
  refine .inr ⟨h, 0, c, rfl, hh, h1, h2, fun i hi f hf => ?_⟩
  obtain rfl : i = 0 := by simpa using hi
  match f, hf with
  | 0, _ => rw [show 0 + 0 * 2 + 0 = 0 by omega]; exact q0
  | 1, _ => rw [show 0 + 0 * 2 + 1 = 1 by omega]; exact q1
  | n + 2, h => omega
/-- The marks k0, k0 + 1 .. in the fields of n records. -/
def markR2 (k0 : Int) (n : Nat) : List T2 := (List.range n).map fun i : Nat => ⟨k0 + 2 * (i : Int), k0 + 2 * (i : Int) + 1⟩
theorem markR2_len (k0 : Int) (n : Nat) : (markR2 k0 n).length = n := by simp [markR2]
theorem markR2_at (k0 : Int) (n i : Nat) (h : i < n) : rAt (markR2 k0 n) i = ⟨k0 + 2 * (i : Int), k0 + 2 * (i : Int) + 1⟩ := by
  rw [rAt_eq (by rw [markR2_len]; exact h)]; simp [markR2]
theorem markR2_step (k0 : Int) (ts : List T2) (i : Nat) (h : i < ts.length) : (markR2 k0 i ++ ts.drop i).set i ⟨k0 + 2 * (i : Int), k0 + 2 * (i : Int) + 1⟩ = markR2 k0 (i + 1) ++ ts.drop (i + 1) := by
  rw [drop_rAt h, List.set_append_right _ _ (by rw [markR2_len]; exact Nat.le_refl _), markR2_len, Nat.sub_self, List.set_cons_zero]
  simp [markR2, List.range_succ]
theorem markR2_cat (k0 : Int) (ts : List T2) (i : Nat) (h : i ≤ ts.length) : (markR2 k0 i ++ ts.drop i).length = ts.length := by simp [markR2_len]; omega
theorem markR2_zero (k0 : Int) (ts : List T2) : markR2 k0 0 ++ ts.drop 0 = ts := rfl
theorem markR2_all (k0 : Int) (ts : List T2) : markR2 k0 ts.length ++ ts.drop ts.length = markR2 k0 ts.length := by simp
/-- The first of the records, then zeros. -/
def padR2 (ts : List T2) (n i : Nat) : List T2 := ts.take i ++ List.replicate (n - i) default
theorem padR2_len {ts : List T2} {n i : Nat} (hn : ts.length = n) (hi : i ≤ n) : (padR2 ts n i).length = n := by simp [padR2]; omega
theorem padR2_step {ts : List T2} {n i : Nat} (hn : ts.length = n) (hi : i < n) : (padR2 ts n i).set i (rAt ts i) = padR2 ts n (i + 1) := by
  unfold padR2
  rw [List.set_append_right _ _ (by simp; omega), show i - (ts.take i).length = 0 by simp; omega, show n - i = (n - (i + 1)) + 1 by omega, List.replicate_succ, List.set_cons_zero, take_rAt (by omega), List.append_assoc]
  rfl
theorem padR2_all {ts : List T2} {n : Nat} (hn : ts.length = n) : padR2 ts n n = ts := by unfold padR2; rw [Nat.sub_self, List.take_of_length_le (by omega)]; simp
theorem made_2 (n : Nat) : (madeCells (Value.agg #[.int .i64 0, .int .i64 0]).cells (n * 2)).toList = flatR c2 2 (List.replicate n (default : T2)) := by
  refine flatR_ext (by simp [madeCells]) fun i f hi hf => ?_
  rw [List.length_replicate] at hi
  have hlt : i * 2 + f < n * 2 := by omega
  have e : rAt (List.replicate n (default : T2)) i = default := by rw [rAt_eq (by simpa using hi)]; simp
  rw [e]
  have hm : (i * 2 + f) % 2 = f := by omega
  rw [Array.getElem?_toList]
  match f, hf, hm, hlt with
  | 0, _, hm, hlt => simp only [Nat.add_zero] at hm hlt ⊢; simp [madeCells, hlt, hm, Value.cells, c2]; rfl
  | 1, _, hm, hlt => simp [madeCells, hlt, hm, Value.cells, c2]; rfl
  | m + 2, h, _, _ => omega
theorem OwnR.made2 {e : TypeId} {w1 : World} {B n : Nat} {ts : List T2} (hn : ts.length = n) {v : Value} (h : w1.ownsRow B e 2 v n (madeCells (Value.agg #[.int .i64 0, .int .i64 0]).cells (n * 2)).toList) : OwnR e c2 2 w1 B v (padR2 ts n 0) := by
  unfold OwnR
  rw [padR2_len hn (Nat.zero_le _)]
  rw [made_2] at h
  exact h
end Go.Proofs.Ytkdmjeonlghnjaa
