/- Chapter 3: the program's steps over signals. -/
import Derived.Test.YtpogpehbkgjiaaaSp2
import Derived.Deep.RegionLaw
namespace Go.Proofs.Ytpogpehbkgjiaaa
open Go.RowKit
set_option linter.unusedSimpArgs false
set_option linter.unusedVariables false

theorem step_append_st {w : World} {ops : Array Oper} {o : Oper} {a : Act} {K : Act → World → Prop} {Q : Exit → Act → World → Prop} {E : Prop} (hgd : o.guard = none) (s x : Operand)
    (ho : o.op = .call { callee := .builtin .append, args := #[s, x], argTypes := #[69, 69] })
    (B : Nat) (v : Value) (l : List St) (p : St) (h : Nat) (hs : a.eval s = v) (hx : a.eval x = .slice (some ⟨h, 0, none⟩) 1 1)
    (hown : OwnSt w B v l) (hc0 : w.cell? ⟨h, 0, none⟩ = some (.int .i64 p.1)) (hc1 : w.cell? ⟨h, 1, none⟩ = some (.int .i64 p.2)) (hlen : l.length ≤ 1048576) (hB : B ≤ w.heap.size)
    (hK : ∀ v' w', OwnSt w' B v' (l ++ [p]) → w.grownBy w' v.ownBlock → K (a.put o.dst v') w') : if Region.wanted o (yielded ops a.tmps) = true then Oper.wp Try.prog o a w K Q else E := by
  have hw : Region.wanted o (yielded ops a.tmps) = true := by simp [Region.wanted, hgd]
  rw [if_pos hw]
  obtain ⟨i0, hi, hz0, hz1, hz2⟩ := info_parts Try_info_step
  refine wp_append_own w s x 69 ho B 71 i0 _ 2 16 Try.underlying69 hi hz0 hz1 hz2 rfl (by decide) v l.length (cSt l) hs hown
    ⟨h, 0, none⟩ 1 1 [.int .i64 p.1, .int .i64 p.2] hx rfl ?_ ?_ (by unfold maxLen; omega) (by omega) hB ?_
  · intro j u hj
    match j, hj with
    | 0, hj => simp at hj; subst hj; simpa [Addr.add] using hc0
    | 1, hj => simp at hj; subst hj; simpa [Addr.add] using hc1
  · intro u hu
    simp at hu
    rcases hu with rfl | rfl <;> rfl
  · intro v' w' h1 h2 _
    refine hK v' w' ?_ h2
    unfold OwnSt
    rw [cSt_snoc, List.length_append, List.length_singleton]
    exact h1

theorem whichBegins_is (v1 v2 : Value) (xs ys : List Int) (k : Int) (w : World) (hk : kindOf xs ys = k) (h1 : RdC w v1 xs) (h2 : RdC w v2 ys) :
    Calls Try.prog 96 #[v1, v2] w fun e w' => ∃ v, e = .returned (.tuple #[.int .i64 k, v]) ∧ ∃ n, w' = w.drewN n := by
  refine (whichBegins_any v1 v2 xs ys w h1 h2).mono ?_
  rintro e w' ⟨v, h1, -, h2⟩
  exact ⟨v, by rw [h1, hk], h2⟩
theorem kind_cases (a b : List Int) : (begsB a b = true ∧ (kindOf a b = 1 ∨ kindOf a b = 3)) ∨ (begsB a b = false ∧ (kindOf a b = 2 ∨ kindOf a b = 0)) := by
  unfold kindOf
  cases begsB a b with
  | true => left; refine ⟨rfl, ?_⟩; rw [if_pos rfl]; split <;> simp
  | false => right; refine ⟨rfl, ?_⟩; rw [if_neg (by simp)]; split <;> simp
theorem made_slices (n : Nat) : (madeCells (Value.slice none 0 0).cells (n * 1)).toList = (List.range (n * 1)).map fun _ => Value.slice none 0 0 := by
  have := toList_madeCells_one (.slice none 0 0) n
  rw [Nat.mul_one]
  simpa [Value.cells, List.map_const'] using this
theorem Try_info_steps : (Try.prog.info? 69).map (fun i => (i.zero, i.size, i.bytes)) = some (some (.slice none 0 0), 1, 24) := by kernel_rfl
/-- The rows of steps while they are made: the first ones done, row a with part of its steps, none behind. -/
def SSat (w : World) (B : Nat) (n a : Nat) (ss : Nat → List St) (C : Nat) (u : Value) (part : List St) : Prop :=
  ∃ F : Nat → Value, RowF w B 69 1 (.slice (some ⟨B, 0, none⟩) n n) n (fun j => if j = a then u else F j) ∧ (∀ j, j < a → ∃ B', OwnSt w B' (F j) (ss j)) ∧ (∀ j, a < j → F j = .slice none 0 0) ∧ OwnSt w C u part ∧ B < C ∧ C ≤ w.heap.size ∧ ∀ j, j < a → ∀ k, (F j).ownBlock = some k → k < C
theorem SSat.later {w w' : World} {B n a : Nat} {ss : Nat → List St} {C : Nat} {u : Value} {part : List St} (h : SSat w B n a ss C u part) (hb : Below w.heap.size w w') : SSat w' B n a ss C u part := by
  obtain ⟨F, h1, h2, h3, h4, h5, h6, h7⟩ := h
  exact ⟨F, h1.later hb, fun j hj => by obtain ⟨B', h⟩ := h2 j hj; exact ⟨B', row_below h hb (fun k hk => (World.ownsRow.lt h k hk).2)⟩, h3, row_below h4 hb (fun k hk => (World.ownsRow.lt h4 k hk).2), h5, by have := hb.size; omega, h7⟩
/-- The next row is begun. -/
theorem SSat.next {w : World} {B n a : Nat} {ss : Nat → List St} {C : Nat} {u : Value} (h : SSat w B n a ss C u (ss a)) : SSat w B n (a + 1) ss w.heap.size (.slice none 0 0) [] := by
  obtain ⟨F, h1, h2, h3, h4, h5, h6, h7⟩ := h
  refine ⟨fun j => if j = a then u else F j, h1.congr fun j hj => ?_, fun j hj => ?_, fun j hj => ?_, OwnSt.nil _ _, ?_, Nat.le_refl _, fun j hj k hk => ?_⟩
  · by_cases e : j = a + 1
    · rw [if_pos e, if_neg (by omega), h3 j (by omega)]
    · rw [if_neg e]
  · by_cases e : j = a
    · subst e; exact ⟨C, by simpa using h4⟩
    · show ∃ B', OwnSt w B' (if j = a then u else F j) (ss j)
      rw [if_neg e]; exact h2 j (by omega)
  · show (if j = a then u else F j) = _
    rw [if_neg (by omega)]; exact h3 j (by omega)
  · exact Nat.lt_of_lt_of_le h5 h6
  · have hk' : (if j = a then u else F j).ownBlock = some k := hk
    by_cases e : j = a
    · rw [if_pos e] at hk'; exact (World.ownsRow.lt h4 k hk').2
    · rw [if_neg e] at hk'; have := h7 j (by omega) k hk'; omega
/-- One more step in row a. -/
theorem SSat.more {w w1 : World} {B n a : Nat} {ss : Nat → List St} {C : Nat} {u u1 : Value} {part part1 : List St} (h : SSat w B n a ss C u part) (ho : OwnSt w1 C u1 part1) (hg : w.grownBy w1 u.ownBlock) :
    SSat (w1.setCell ⟨B, a, none⟩ u1) B n a ss C u1 part1 ∧ Below B w (w1.setCell ⟨B, a, none⟩ u1) := by
  obtain ⟨F, h1, h2, h3, h4, h5, h6, h7⟩ := h
  have hBl := h1.lt.2
  have hne : ∀ k, u.ownBlock = some k → C ≤ k := fun k hk => (World.ownsRow.lt h4 k hk).1
  have h1' := h1.kept hg (by
    cases hu : u.ownBlock with
    | none => right; simp [Value.ownBlock]
    | some k => right; have := hne k hu; simp [Value.ownBlock]; omega)
  have hp := h1'.put a u1
  have hbl1 : Below C w w1 := (Below.refl _ _).grown hg h6 hne
  refine ⟨⟨F, hp.1.congr fun j hj => ?_, fun j hj => ?_, h3, ?_, h5, ?_, h7⟩, ?_⟩
  · show (if j = a then u1 else if j = a then u else F j) = _
    by_cases e : j = a
    · rw [if_pos e, if_pos e]
    · rw [if_neg e, if_neg e, if_neg e]
  · obtain ⟨B', h⟩ := h2 j hj
    refine ⟨B', row_block h fun k hk => ?_⟩
    have hkC := h7 j hj k hk
    have h8 : k ≠ B := fun e => by
      subst e
      have h9 := h1.at_ (w := w)
      rcases rows_apart h h1 (by decide) with hn | hn
      · rw [hk] at hn; cases hn
      · rw [hk] at hn; exact hn rfl
    rw [Below.heap_setCell _ _ _ _ (fun e => h8 e)]
    exact hbl1.block k hkC
  · refine row_block ho fun k hk => ?_
    have := (World.ownsRow.lt ho k hk).1
    rw [Below.heap_setCell _ _ _ _ (by show k ≠ B; omega)]
  · have := hbl1.size; simp; omega
  · exact (hbl1.mono (Nat.le_of_lt h5)).setCell (p := ⟨B, a, none⟩) (Nat.le_refl _) _
theorem SSat.cell {w : World} {B n a : Nat} {ss : Nat → List St} {C : Nat} {u : Value} {part : List St} (h : SSat w B n a ss C u part) (ha : a < n) : w.cell? ⟨B, a, none⟩ = some u ∧ w.frozen? ⟨B, a, none⟩ = false ∧ OwnSt w C u part ∧ B < C ∧ C ≤ w.heap.size ∧ B < w.heap.size := by
  obtain ⟨F, h1, h2, h3, h4, h5, h6, h7⟩ := h
  refine ⟨by have := h1.at_ a (by omega); rw [if_pos rfl] at this; exact this, h1.frozen a, h4, h5, h6, h1.lt.2⟩
theorem SSat.kept {w w1 : World} {B n a : Nat} {ss : Nat → List St} {C : Nat} {u : Value} {part : List St} (h : SSat w B n a ss C u part) (hg : w.grownBy w1 u.ownBlock) (ha : a < n) : w1.cell? ⟨B, a, none⟩ = some u ∧ w1.frozen? ⟨B, a, none⟩ = false := by
  obtain ⟨F, h1, h2, h3, h4, h5, h6, h7⟩ := h
  have h1' := h1.kept hg (by
    cases hu : u.ownBlock with
    | none => right; simp [Value.ownBlock]
    | some k => right; have := (World.ownsRow.lt h4 k hu).1; simp [Value.ownBlock]; omega)
  exact ⟨by have := h1'.at_ a (by omega); rw [if_pos rfl] at this; exact this, h1'.frozen a⟩
theorem SSat.done {w : World} {B n : Nat} {ss : Nat → List St} {C : Nat} {u : Value} {part : List St} (h : SSat w B n n ss C u part) : RdSS w (.slice (some ⟨B, 0, none⟩) n n) n ss := by
  obtain ⟨F, h1, h2, h3, h4, h5, h6, h7⟩ := h
  exact ⟨B, B, F, rfl, h1.congr fun j hj => by rw [if_neg (by omega)], fun i hi => h2 i hi⟩
theorem SSat.begun {w w1 : World} {n : Nat} {ss : Nat → List St} (h : w1.ownsRow w.heap.size 69 1 (.slice (some ⟨w.heap.size, 0, none⟩) n n) n (madeCells (Value.slice none 0 0).cells (n * 1)).toList) (hg : w.grownBy w1 none) :
    SSat w1 w.heap.size n 0 ss w1.heap.size (.slice none 0 0) [] ∧ Below w.heap.size w w1 := by
  have hr : RowF w1 w.heap.size 69 1 (.slice (some ⟨w.heap.size, 0, none⟩) n n) n (fun _ => .slice none 0 0) := by unfold RowF; rw [← made_slices]; exact h
  refine ⟨⟨fun _ => .slice none 0 0, hr.congr fun j hj => ?_, fun j hj => absurd hj (Nat.not_lt_zero _), fun _ _ => rfl, OwnSt.nil _ _, hr.lt.2, Nat.le_refl _, fun j hj => absurd hj (Nat.not_lt_zero _)⟩, (Below.refl _ _).grown hg (Nat.le_refl _) (fun k h => by cases h)⟩
  split <;> rfl
end Go.Proofs.Ytpogpehbkgjiaaa
