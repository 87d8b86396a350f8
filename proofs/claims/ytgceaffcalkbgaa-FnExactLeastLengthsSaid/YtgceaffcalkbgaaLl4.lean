/- Chapter 4: the model's table is made. -/
import Derived.Test.YtgceaffcalkbgaaLl3
import Derived.StillTailTactics
namespace Go.Proofs.Ytgceaffcalkbgaa
open Go.RowKit
set_option linter.unusedSimpArgs false
set_option linter.unusedVariables false

theorem Try_info_intss : (Try.prog.info? 42).map (fun i => (i.zero, i.size, i.bytes)) = some (some (.slice none 0 0), 1, 24) := by kernel_rfl
theorem OwnJ.kept_row {w w' : World} {B C B' s n : Nat} {v u : Value} {L : List (List Int)} {xs : List Value} (h : OwnJ w B C v L) (hu : w.ownsRow B' 42 s u n xs) (hg : w.grownBy w' u.ownBlock) : OwnJ w' B C v L := by
  obtain ⟨us, h1, h2, h3, h4⟩ := h
  exact ⟨us, h1.kept hg (row_apart h1 hu (by decide)), h2, fun i hi => ⟨(h3 i hi).1.kept hg (row_apart (h3 i hi).1 hu (by decide)), (h3 i hi).2⟩, h4⟩
theorem OwnJ.grow {w w' : World} {B C B' C' : Nat} {v v' u : Value} {L : List (List Int)} {z : List Int} {us : Nat → Value} (hB : B ≤ B') (hC : C ≤ B')
    (h1 : w.ownsRow B 23 1 v L.length ((List.range L.length).map us)) (h2 : ∀ k, v.ownBlock = some k → k < C) (h3 : ∀ i, i < L.length → OwnI w B C (us i) (rowAt L i))
    (h4 : ∀ i j, i < L.length → j < L.length → i ≠ j → (us i).ownBlock = none ∨ (us i).ownBlock ≠ (us j).ownBlock) (hu : OwnI w B' C' u z) (hC' : C' ≤ w'.heap.size) (hCw : C ≤ w'.heap.size)
    (hn : w'.ownsRow B 23 1 v' (L.length + 1) ((List.range L.length).map us ++ [u])) (hg : w.grownBy w' v.ownBlock) : OwnJ w' B w'.heap.size v' (L ++ [z]) := by
  have e : (List.range (L ++ [z]).length).map (fun i => if i < L.length then us i else u) = (List.range L.length).map us ++ [u] := by
    rw [List.length_append, List.length_singleton, List.range_succ, List.map_append]
    have e1 : (List.range L.length).map (fun i => if i < L.length then us i else u) = (List.range L.length).map us := by
      apply List.map_congr_left
      intro i hi
      rw [List.mem_range] at hi
      simp [hi]
    rw [e1]
    simp
  refine ⟨fun i => if i < L.length then us i else u, ?_, fun k hk => (hn.lt k hk).2, ?_, ?_⟩
  · rw [e, List.length_append, List.length_singleton]; exact hn
  · intro i hi
    rw [List.length_append, List.length_singleton] at hi
    by_cases he : i < L.length
    · simp only [if_pos he]
      rw [show rowAt (L ++ [z]) i = rowAt L i by simp [rowAt, List.getElem?_append_left he]]
      exact OwnI.wide ⟨(h3 i he).1.kept hg (row_apart (h3 i he).1 h1 (by decide)), (h3 i he).2⟩ (Nat.le_refl _) hCw
    · obtain rfl : i = L.length := by omega
      simp only [Nat.lt_irrefl, if_false]
      rw [show rowAt (L ++ [z]) L.length = z by simp [rowAt]]
      exact OwnI.wide ⟨hu.1.kept hg (row_apart hu.1 h1 (by decide)), hu.2⟩ hB hC'
  · intro i j hi hj hne
    rw [List.length_append, List.length_singleton] at hi hj
    show (if i < L.length then us i else u).ownBlock = none ∨ (if i < L.length then us i else u).ownBlock ≠ (if j < L.length then us j else u).ownBlock
    by_cases hi' : i < L.length
    · rw [if_pos hi']
      by_cases hj' : j < L.length
      · rw [if_pos hj']; exact h4 i j hi' hj' hne
      · rw [if_neg hj']
        cases hub : (us i).ownBlock with
        | none => exact .inl rfl
        | some b =>
          refine .inr fun e => ?_
          have a1 := (h3 i hi').2 b hub
          have a2 := (hu.1.lt b e.symm).1
          omega
    · rw [if_neg hi', if_pos (by omega)]
      cases hub : u.ownBlock with
      | none => exact .inl rfl
      | some b =>
        refine .inr fun e => ?_
        have a1 := (h3 j (by omega)).2 b e.symm
        have a2 := (hu.1.lt b hub).1
        omega
/-- A list is appended to the lists. -/
theorem append_lists {w : World} {ops : Array Oper} {rest : List Oper} {o : Oper} {a : Act} {Q : Exit → Act → World → Prop} (hgd : o.guard = none) (s x : Operand)
    (ho : o.op = .call { callee := .builtin .append, args := #[s, x], argTypes := #[42, 42] })
    (B C B' C' : Nat) (v : Value) (L : List (List Int)) (z : List Int) (u : Value) (h : Nat) (hs : a.eval s = v) (hx : a.eval x = .slice (some ⟨h, 0, none⟩) 1 1)
    (hr : OwnJ w B C v L) (hcell : w.cell? ⟨h, 0, none⟩ = some u) (hu : OwnI w B' C' u z) (hB : B ≤ B') (hC : C ≤ B') (hC' : C' ≤ w.heap.size) (hCw : C ≤ w.heap.size) (hBw : B ≤ w.heap.size) (hlen : L.length ≤ 1048576)
    (hK : ∀ v' w', OwnJ w' B w'.heap.size v' (L ++ [z]) → w.grownBy w' v.ownBlock → wpList Try.prog ops Q rest (a.put o.dst v') w') : wpList Try.prog ops Q (o :: rest) a w := by
  obtain ⟨i0, hi, hz0, hz1, hz2⟩ := info_parts Try_info_ints
  obtain ⟨us, h1, h2, h3, h4⟩ := hr
  refine wpList_append_own w hgd s x 42 ho B 23 i0 (.slice none 0 0) 1 24 Try.underlying42 hi hz0 hz1 hz2 rfl (by decide) v L.length _ hs h1
    ⟨h, 0, none⟩ 1 1 [u] hx rfl ?_ ?_ (by unfold maxLen; omega) (by omega) hBw ?_
  · intro j u' hj
    match j, hj with
    | 0, hj => simp at hj; subst hj; simpa [Addr.add] using hcell
  · intro u' hu'; simp at hu'; subst hu'; obtain ⟨a, c, rfl⟩ := hu.rd.len; rfl
  · intro v' w' hn hg _
    have := hg.size
    exact hK v' w' (OwnJ.grow hB hC h1 h2 h3 h4 hu (by omega) (by omega) hn hg) hg
/-- The lists are appended to the levels. -/
theorem append_level {w : World} {ops : Array Oper} {rest : List Oper} {o : Oper} {a : Act} {Q : Exit → Act → World → Prop} (hgd : o.guard = none) (s x : Operand)
    (ho : o.op = .call { callee := .builtin .append, args := #[s, x], argTypes := #[94, 94] })
    (B k : Nat) (v : Value) (vs : Nat → Value) (u : Value) (h : Nat) (hs : a.eval s = v) (hx : a.eval x = .slice (some ⟨h, 0, none⟩) 1 1)
    (hr : w.ownsRow B 42 1 v k ((List.range k).map vs)) (hcell : w.cell? ⟨h, 0, none⟩ = some u) (hu : u.oneCell' = true) (hB : B ≤ w.heap.size) (hk : k ≤ 1048576)
    (hK : ∀ v' w', w'.ownsRow B 42 1 v' (k + 1) ((List.range (k + 1)).map fun i => if i < k then vs i else u) → w.grownBy w' v.ownBlock → wpList Try.prog ops Q rest (a.put o.dst v') w') : wpList Try.prog ops Q (o :: rest) a w := by
  obtain ⟨i0, hi, hz0, hz1, hz2⟩ := info_parts Try_info_intss
  refine wpList_append_own w hgd s x 94 ho B 42 i0 (.slice none 0 0) 1 24 Try.underlying94 hi hz0 hz1 hz2 rfl (by decide) v k _ hs hr
    ⟨h, 0, none⟩ 1 1 [u] hx rfl ?_ ?_ (by unfold maxLen; omega) (by omega) (by omega) ?_
  · intro j u' hj
    match j, hj with
    | 0, hj => simp at hj; subst hj; simpa [Addr.add] using hcell
  · intro u' hu'; simp at hu'; subst hu'; exact hu
  · intro v' w' hn hg _
    refine hK v' w' ?_ hg
    have e : (List.range (k + 1)).map (fun i => if i < k then vs i else u) = (List.range k).map vs ++ [u] := by
      rw [List.range_succ, List.map_append]
      have e1 : (List.range k).map (fun i => if i < k then vs i else u) = (List.range k).map vs := by
        apply List.map_congr_left
        intro i hi
        rw [List.mem_range] at hi
        simp [hi]
      rw [e1]
      simp
    rw [e]; exact hn

/-- The sums from one on, as far as they are stored. -/
def restL (S : List Int) (k : Nat) : List Int := (List.range (S.length + 1)).map fun i => if k ≤ i then rest S i else 0
theorem restL_len (S : List Int) (k : Nat) : (restL S k).length = S.length + 1 := by simp [restL]
theorem restL_all (S : List Int) : restL S S.length = List.replicate (S.length + 1) 0 := by
  apply List.ext_getElem (by simp [restL])
  intro i h1 h2
  simp [restL] at h1 ⊢
  intro h
  obtain rfl : i = S.length := by omega
  exact rest_end S
theorem restL_at {S : List Int} {k i : Nat} (h : i ≤ S.length) (hk : k ≤ i) : (restL S k)[i]? = some (rest S i) := by
  simp [restL, show i < S.length + 1 by omega, hk]
theorem restL_step {S : List Int} {k : Nat} (hk : k ≤ S.length) : (restL S (k + 1)).set k (rest S k) = restL S k := by
  apply List.ext_getElem (by simp [restL])
  intro i h1 h2
  rw [List.getElem_set]
  by_cases e : k = i
  · subst e; simp [restL]
  · rw [if_neg e]
    simp only [restL, List.getElem_map, List.getElem_range]
    by_cases h : k ≤ i
    · rw [if_pos h, if_pos (by omega)]
    · rw [if_neg h, if_neg (by omega)]
end Go.Proofs.Ytgceaffcalkbgaa
