/- Chapter 2: read in one way: rows of lists that grow. -/
import Derived.Test.YtpogpehbkgjiaaaRw0
import Derived.Test.YtpogpehbkgjiaaaBkX1
import Derived.Test.YtpogpehbkgjiaaaBkX2
namespace Go.Proofs.Ytpogpehbkgjiaaa
open Go.RowKit
set_option linter.unusedSimpArgs false
set_option linter.unusedVariables false

theorem Try_info_ints : (Try.prog.info? 26).map (fun i => (i.zero, i.size, i.bytes)) = some (some (.slice none 0 0), 1, 24) := by kernel_rfl

/-- A slice of slices of the call's own; its slices are its own, or were there before. -/
def Rows (f : Bool) (w0 w : World) (B : Nat) (v : Value) (L : List (List Int)) : Prop :=
  w0.heap.size ≤ B ∧ Below w0.heap.size w0 w ∧ B ≤ w.heap.size ∧ ∃ us : Nat → Value, w.ownsRow B 26 1 v L.length ((List.range L.length).map us) ∧
    ∀ i, i < L.length → (f = true ∧ Own w B (us i) (L[i]?.getD [])) ∨ RdC w0 (us i) (L[i]?.getD [])
theorem Rows.below {f : Bool} {w0 w : World} {B : Nat} {v : Value} {L : List (List Int)} (h : Rows f w0 w B v L) : Below w0.heap.size w0 w := h.2.1
theorem Rows.size {f : Bool} {w0 w : World} {B : Nat} {v : Value} {L : List (List Int)} (h : Rows f w0 w B v L) : B ≤ w.heap.size := h.2.2.1
theorem Rows.later {f : Bool} {w0 w w' : World} {B : Nat} {v : Value} {L : List (List Int)} (h : Rows f w0 w B v L) (hb : Below w.heap.size w w') : Rows f w0 w' B v L := by
  obtain ⟨hB, hb0, hw, us, h1, h2⟩ := h
  exact ⟨hB, hb0.trans (hb.mono (by omega)), by have := hb.size; omega, us, row_below h1 hb (fun j hj => (h1.lt j hj).2), fun i hi => (h2 i hi).imp (fun h => ⟨h.1, h.2.later hb⟩) id⟩
theorem Rows.nil {f : Bool} {w0 w : World} {B : Nat} (hb : Below w0.heap.size w0 w) (hB : w0.heap.size ≤ B) (hw : B ≤ w.heap.size) : Rows f w0 w B (.slice none 0 0) [] :=
  ⟨hB, hb, hw, fun _ => .slice none 0 0, World.ownsRow_nil _ _ _ _, fun i hi => absurd hi (by simp)⟩
theorem Rows.len {f : Bool} {w0 w : World} {B : Nat} {v : Value} {L : List (List Int)} (h : Rows f w0 w B v L) : ∃ a cap, v = .slice a L.length cap ∧ L.length ≤ cap := by
  obtain ⟨hB, hb, hw, us, h1, h2⟩ := h
  rcases h1.2 with ⟨rfl, hn⟩ | ⟨g, cap, cur, rfl, hg, hh, hc, hm, hcs, ht⟩
  · exact ⟨none, 0, by rw [hn], by omega⟩
  · exact ⟨_, _, rfl, hc⟩
theorem Rows.at_ {f : Bool} {w0 w : World} {B n cap : Nat} {a : Option Addr} {L : List (List Int)} (h : Rows f w0 w B (.slice a n cap) L) (i : Nat) (hi : i < n) : ∃ g u, a = some ⟨g, 0, none⟩ ∧ w.cell? ⟨g, i, none⟩ = some u ∧ RdC w u (L[i]?.getD []) ∧ ((f = true ∧ Own w B u (L[i]?.getD [])) ∨ RdC w0 u (L[i]?.getD [])) := by
  obtain ⟨hB, hb, hw, us, h1, h2⟩ := h
  have h1' := h1
  rcases h1.2 with ⟨hv, hn⟩ | ⟨g, cap', cur, hv, hg, hh, hc, hm, hcs, ht⟩
  · simp only [Value.slice.injEq] at hv; omega
  · simp only [Value.slice.injEq] at hv
    obtain ⟨rfl, rfl, rfl⟩ := hv
    refine ⟨g, us i, rfl, ?_, ?_, h2 i hi⟩
    · rw [h1'.cellAt i (by omega)]; simp [hi]
    · rcases h2 i hi with h | h
      · exact h.2.rdc
      · exact h.later hb
theorem append_rows {f : Bool} {w0 w : World} {ops : Array Oper} {rest : List Oper} {o : Oper} {a : Act} {Q : Exit → Act → World → Prop} (hgd : o.guard = none) (s x : Operand)
    (ho : o.op = .call { callee := .builtin .append, args := #[s, x], argTypes := #[84, 84] })
    (B : Nat) (v : Value) (L : List (List Int)) (z : List Int) (u : Value) (h : Nat) (hs : a.eval s = v) (hx : a.eval x = .slice (some ⟨h, 0, none⟩) 1 1)
    (hr : Rows f w0 w B v L) (hcell : w.cell? ⟨h, 0, none⟩ = some u) (hu : (f = true ∧ Own w B u z) ∨ RdC w0 u z) (hlen : L.length ≤ 1048576)
    (hK : ∀ v' w', Rows f w0 w' B v' (L ++ [z]) → w.grownBy w' v.ownBlock → wpList Try.prog ops Q rest (a.put o.dst v') w') : wpList Try.prog ops Q (o :: rest) a w := by
  obtain ⟨i0, hi, hz0, hz1, hz2⟩ := info_parts Try_info_ints
  obtain ⟨hB, hb, hw, us, h1, h2⟩ := hr
  have hone : u.oneCell' = true := by
    rcases hu with h | h
    · exact h.2.rdc.one
    · exact h.one
  refine wpList_append_own w hgd s x 84 ho B 26 i0 (.slice none 0 0) 1 24 Try.underlying84 hi hz0 hz1 hz2 rfl (by decide) v L.length _ hs h1
    ⟨h, 0, none⟩ 1 1 [u] hx rfl ?_ ?_ (by unfold maxLen; omega) (by omega) hw ?_
  · intro j u' hj
    match j, hj with
    | 0, hj => simp at hj; subst hj; simpa [Addr.add] using hcell
  · intro u' hu'; simp at hu'; subst hu'; exact hone
  · intro v' w' hn hg _
    refine hK v' w' ?_ hg
    have hbl : Below w0.heap.size w0 w' := hb.grown hg hb.size (fun k hk => by have := (h1.lt k hk).1; omega)
    refine ⟨hB, hbl, by have := hg.size; omega, fun i => if i < L.length then us i else u, ?_, ?_⟩
    · have e : (List.range (L ++ [z]).length).map (fun i => if i < L.length then us i else u) = (List.range L.length).map us ++ [u] := by
        rw [List.length_append, List.length_singleton, List.range_succ, List.map_append]
        have e1 : (List.range L.length).map (fun i => if i < L.length then us i else u) = (List.range L.length).map us := by
          apply List.map_congr_left
          intro i hi
          rw [List.mem_range] at hi
          simp [hi]
        rw [e1]
        simp
      rw [e, List.length_append, List.length_singleton]
      exact hn
    · intro i hi
      rw [List.length_append, List.length_singleton] at hi
      by_cases he : i < L.length
      · rw [List.getElem?_append_left he]
        simp only [if_pos he]
        exact (h2 i he).imp (fun h => ⟨h.1, h.2.kept hg (rows_apart h.2 h1 (by decide))⟩) id
      · obtain rfl : i = L.length := by omega
        rw [List.getElem?_append_right (Nat.le_refl _)]
        simp only [Nat.lt_irrefl, if_false, Nat.sub_self]
        exact hu.imp (fun h => ⟨h.1, h.2.kept hg (rows_apart h.2 h1 (by decide))⟩) id
end Go.Proofs.Ytpogpehbkgjiaaa
