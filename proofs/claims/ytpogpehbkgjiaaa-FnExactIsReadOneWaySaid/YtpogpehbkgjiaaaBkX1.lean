/- Chapter 2: rows of phrases that grow; copies. -/
import Derived.Test.YtpogpehbkgjiaaaBkH
import Derived.Test.YtpogpehbkgjiaaaApp
import Derived.Deep.AppendLies
import Derived.Deep.RegionHeld3
namespace Go.Proofs.Ytpogpehbkgjiaaa
open Go.RowKit
set_option linter.unusedSimpArgs false
set_option linter.unusedVariables false

theorem flat2_append (n : Nat) (f g f' g' : Nat → Value) : ∀ m, flat2 n f g ++ flat2 m f' g' = flat2 (n + m) (fun i => if i < n then f i else f' (i - n)) (fun i => if i < n then g i else g' (i - n))
  | 0 => by
    rw [show flat2 0 f' g' = [] from rfl, List.append_nil]
    exact flat2_congr _ _ _ _ _ fun i hi => ⟨by rw [if_pos hi], by rw [if_pos hi]⟩
  | m + 1 => by
    rw [flat2_succ, ← List.append_assoc, flat2_append n f g f' g' m, ← Nat.add_assoc, flat2_succ]
    simp
    exact ⟨fun h => by omega, fun h => by omega⟩
theorem phAt_append (ps qs : List Ph) (i : Nat) : phAt (ps ++ qs) i = if i < ps.length then phAt ps i else phAt qs (i - ps.length) := by
  unfold phAt
  rw [List.getElem?_append]
  split <;> rfl

theorem wp_append_cells {w : World} {o : Oper} {a : Act} {K : Act → World → Prop} {Q : Exit → Act → World → Prop} (s x : Operand)
    (ho : o.op = .call { callee := .builtin .append, args := #[s, x], argTypes := #[29, 29] })
    (B : Nat) (v : Value) (n : Nat) (xs : List Value) (hs : a.eval s = v) (hown : w.ownsRow B 65 2 v n xs)
    (ad : Addr) (m c : Nat) (f us : Nat → Value) (hx : a.eval x = .slice (some ad) m c)
    (hc : ∀ i, i < m → w.cell? (ad.add (i * 2)) = some (f i) ∧ w.cell? (ad.add (i * 2 + 1)) = some (us i)) (h1 : ∀ i, i < m → (f i).oneCell' = true ∧ (us i).oneCell' = true)
    (hlen : n + m ≤ 4194304) (hB : B ≤ w.heap.size)
    (hK : ∀ v' w', w'.ownsRow B 65 2 v' (n + m) (xs ++ flat2 m f us) → w.grownBy w' v.ownBlock → K (a.put o.dst v') w') : o.wp Try.prog a w K Q := by
  obtain ⟨i0, hi, hz0, hz1, hz2⟩ := info_parts Try_info_phrase
  refine wp_append_own w s x 29 ho B 65 i0 _ 2 40 Try.underlying29 hi hz0 hz1 hz2 rfl (by decide) v n xs hs hown
    ad m c (flat2 m f us) hx (flat2_len _ _ _) ?_ ?_ (by unfold maxLen; omega) (by omega) hB (fun v' w' h1 h2 _ => hK v' w' h1 h2)
  · intro j u hj
    rw [flat2_get] at hj
    by_cases hlt : j < m * 2
    · rw [if_pos hlt] at hj
      have h := hc (j / 2) (by omega)
      by_cases he : j % 2 = 0
      · rw [if_pos he] at hj
        cases hj
        rw [show j / 2 * 2 = j by omega] at h
        exact h.1
      · rw [if_neg he] at hj
        cases hj
        rw [show j / 2 * 2 + 1 = j by omega] at h
        exact h.2
    · rw [if_neg hlt] at hj
      cases hj
  · intro u hu
    simp only [flat2, List.mem_flatMap, List.mem_range] at hu
    obtain ⟨i, hi, hm⟩ := hu
    simp at hm
    rcases hm with rfl | rfl
    · exact (h1 i hi).1
    · exact (h1 i hi).2

theorem add_none (g off j : Nat) : (⟨g, off, none⟩ : Addr).add j = ⟨g, off + j, none⟩ := by unfold Addr.add; split <;> simp_all
theorem RdC.one {w : World} {u : Value} {zs : List Int} (h : RdC w u zs) : u.oneCell' = true := by
  obtain ⟨-, a, c, rfl, -⟩ := h
  rfl

theorem wp_append_ps {w : World} {o : Oper} {a : Act} {K : Act → World → Prop} {Q : Exit → Act → World → Prop} (s x : Operand)
    (ho : o.op = .call { callee := .builtin .append, args := #[s, x], argTypes := #[29, 29] })
    (B : Nat) (v : Value) (n : Nat) (xs : List Value) (hs : a.eval s = v) (hown : w.ownsRow B 65 2 v n xs)
    (u : Value) (qs : List Ph) (hx : a.eval x = u) (hrd : RdPs w u qs) (hlen : n + qs.length ≤ 4194304) (hB : B ≤ w.heap.size)
    (hK : ∀ v' w' us, w'.ownsRow B 65 2 v' (n + qs.length) (xs ++ flat2 qs.length (fun i => .string (phAt qs i).txt) us) → (∀ i, i < qs.length → (phAt qs i).txt.size ≤ maxLen ∧ RdC w (us i) (phAt qs i).sig) → w.grownBy w' v.ownBlock → K (a.put o.dst v') w') : o.wp Try.prog a w K Q := by
  rcases hrd with ⟨rfl, ad, cap, rfl, hn⟩ | ⟨g, off, cap, rfl, hg, hl, hm, hc⟩
  · cases ad with
    | none =>
      obtain rfl := hn rfl
      obtain ⟨i0, hi, hz0, hz1, hz2⟩ := info_parts Try_info_phrase
      have hrun := run_append_owned_none (P := Try.prog) (w := w) B 29 o.type 65 i0 2 Try.underlying29 hi v n xs hown
      unfold Oper.wp
      simp [execOp, ho, resolve, invoke, builtin, hs, hx, hrun, Result.andThen]
      exact hK v w (fun _ => .slice none 0 0) (by simpa [flat2] using hown) (fun i hi => absurd hi (by simp)) (World.grownBy.refl _ _)
    | some ad => exact wp_append_cells s x ho B v n xs hs hown ad 0 cap (fun i => .string (phAt ([] : List Ph) i).txt) (fun _ => .slice none 0 0) hx (fun i hi => absurd hi (by simp)) (fun i hi => absurd hi (by simp)) (by simpa using hlen) hB (fun v' w' h1 h2 => hK v' w' _ h1 (fun i hi => absurd hi (by simp)) h2)
  · refine wp_append_cells s x ho B v n xs hs hown ⟨g, off, none⟩ qs.length cap (fun i => .string (phAt qs i).txt) (fun i => (w.cell? ⟨g, off + i * 2 + 1, none⟩).getD (.slice none 0 0)) hx ?_ ?_ hlen hB (fun v' w' h1 h2 => hK v' w' _ h1 ?_ h2)
    · intro i hi
      obtain ⟨-, h2, u, h3, h4⟩ := hc i hi
      rw [add_none, add_none, h2, ← Nat.add_assoc, h3]
      exact ⟨rfl, rfl⟩
    · intro i hi
      obtain ⟨-, h2, u, h3, h4⟩ := hc i hi
      simp only [h3, Option.getD_some]
      exact ⟨rfl, h4.one⟩
    · intro i hi
      obtain ⟨h1, h2, u, h3, h4⟩ := hc i hi
      simp only [h3, Option.getD_some]
      exact ⟨h1, h4⟩

/-! ### Own phrases, one more -/
theorem OwnPs.snoc {w0 w w1 : World} {B : Nat} {v v1 u : Value} {ps : List Ph} {p : Ph} {us : Nat → Value} (hB : B ≤ w0.heap.size) (hb : Below w0.heap.size w0 w)
    (h1 : w0.ownsRow B 65 2 v ps.length (flat2 ps.length (fun i => .string (phAt ps i).txt) us)) (h2 : ∀ i, i < ps.length → (phAt ps i).txt.size ≤ maxLen ∧ Own w0 B (us i) (phAt ps i).sig)
    (h3 : ∀ i j, i < ps.length → j < ps.length → i ≠ j → (us i).ownBlock = none ∨ (us i).ownBlock ≠ (us j).ownBlock)
    (hu : Own w w0.heap.size u p.sig) (hs : p.txt.size ≤ maxLen) (hn : w1.ownsRow B 65 2 v1 (ps.length + 1) (flat2 ps.length (fun i => .string (phAt ps i).txt) us ++ flat2 1 (fun _ => .string p.txt) (fun _ => u))) (hg : w.grownBy w1 v.ownBlock) :
    OwnPs w1 B v1 (ps ++ [p]) := by
  have h1' := row_below h1 hb (fun j hj => (h1.lt j hj).2)
  refine ⟨fun i => if i < ps.length then us i else u, ?_, ?_, ?_⟩
  · rw [flat2_append] at hn
    rw [List.length_append, List.length_singleton, flat2_congr _ _ _ (fun i => if i < ps.length then .string (phAt ps i).txt else .string p.txt) (fun i => if i < ps.length then us i else u)]
    · exact hn
    · intro i hi
      refine ⟨?_, rfl⟩
      rw [phAt_append]
      split
      · rfl
      · rw [show i - ps.length = 0 by omega]; rfl
  · intro i hi
    rw [List.length_append, List.length_singleton] at hi
    rw [phAt_append]
    by_cases he : i < ps.length
    · rw [if_pos he]
      simp only [if_pos he]
      have h2i := (h2 i he).2.below hb (fun j hj => ((h2 i he).2.lt j hj).2)
      exact ⟨(h2 i he).1, h2i.kept hg (rows_apart h2i h1' (by decide))⟩
    · rw [if_neg he, show i - ps.length = 0 by omega]
      simp only [if_neg he]
      exact ⟨hs, (hu.kept hg (rows_apart hu h1' (by decide))).base hB⟩
  · intro i j hi hj hne
    rw [List.length_append, List.length_singleton] at hi hj
    show (if i < ps.length then us i else u).ownBlock = none ∨ (if i < ps.length then us i else u).ownBlock ≠ (if j < ps.length then us j else u).ownBlock
    by_cases he : i < ps.length
    · rw [if_pos he]
      by_cases hf : j < ps.length
      · rw [if_pos hf]
        exact h3 i j he hf hne
      · rw [if_neg hf]
        cases hub : (us i).ownBlock with
        | none => exact .inl rfl
        | some b =>
          refine .inr fun e => ?_
          have a1 := (hu.lt b e.symm).1
          have a2 := ((h2 i he).2.lt b hub).2
          omega
    · rw [if_neg he, if_pos (by omega)]
      cases hub : u.ownBlock with
      | none => exact .inl rfl
      | some b =>
        refine .inr fun e => ?_
        have a1 := (hu.lt b hub).1
        have a2 := ((h2 j (by omega)).2.lt b e.symm).2
        omega

/-- 'append(out, Phrase{s, u})', u a new slice. -/
theorem step_append_own {w0 w : World} {ops : Array Oper} {o : Oper} {a : Act} {K : Act → World → Prop} {Q : Exit → Act → World → Prop} {E : Prop} (hgd : o.guard = none) (s x : Operand)
    (ho : o.op = .call { callee := .builtin .append, args := #[s, x], argTypes := #[29, 29] })
    (B : Nat) (v : Value) (ps : List Ph) (p : Ph) (u : Value) (h : Nat) (hs : a.eval s = v) (hx : a.eval x = .slice (some ⟨h, 0, none⟩) 1 1)
    (hown : OwnPs w0 B v ps) (hb : Below w0.heap.size w0 w) (hu : Own w w0.heap.size u p.sig) (hp : p.txt.size ≤ maxLen) (hB : B ≤ w0.heap.size)
    (hc0 : w.cell? ⟨h, 0, none⟩ = some (.string p.txt)) (hc1 : w.cell? ⟨h, 1, none⟩ = some u) (hlen : ps.length ≤ 1048576)
    (hK : ∀ v' w', OwnPs w' B v' (ps ++ [p]) → w.grownBy w' v.ownBlock → K (a.put o.dst v') w') : if Region.wanted o (yielded ops a.tmps) = true then Oper.wp Try.prog o a w K Q else E := by
  have hw : Region.wanted o (yielded ops a.tmps) = true := by simp [Region.wanted, hgd]
  rw [if_pos hw]
  obtain ⟨us, h1, h2, h3⟩ := hown
  refine wp_append_cells s x ho B v ps.length _ hs (row_below h1 hb (fun j hj => (h1.lt j hj).2)) ⟨h, 0, none⟩ 1 1 (fun _ => .string p.txt) (fun _ => u) hx ?_ ?_ (by omega) (by have := hb.size; omega) ?_
  · intro i hi
    obtain rfl : i = 0 := by omega
    rw [add_none, add_none]
    exact ⟨hc0, hc1⟩
  · intro i hi
    exact ⟨rfl, hu.rdc.one⟩
  · intro v' w' h4 h5
    exact hK v' w' (OwnPs.snoc hB hb h1 h2 h3 hu hp h4 h5) h5

/-! ### Rows whose phrases have slices of their own, or such as were there before -/
def RowG (w0 w : World) (B : Nat) (v : Value) (ps : List Ph) : Prop :=
  w0.heap.size ≤ B ∧ Below w0.heap.size w0 w ∧ B ≤ w.heap.size ∧ ∃ us : Nat → Value, w.ownsRow B 65 2 v ps.length (flat2 ps.length (fun i => .string (phAt ps i).txt) us) ∧
    ∀ i, i < ps.length → (phAt ps i).txt.size ≤ maxLen ∧ (Own w B (us i) (phAt ps i).sig ∨ RdC w0 (us i) (phAt ps i).sig)
theorem OwnPs.rowG {w0 w : World} {B : Nat} {v : Value} {ps : List Ph} (h : OwnPs w B v ps) (hb : Below w0.heap.size w0 w) (hB : w0.heap.size ≤ B) (hw : B ≤ w.heap.size) : RowG w0 w B v ps := by
  obtain ⟨us, h1, h2, -⟩ := h
  exact ⟨hB, hb, hw, us, h1, fun i hi => ⟨(h2 i hi).1, .inl (h2 i hi).2⟩⟩
theorem RowG.rd {w0 w : World} {B : Nat} {v : Value} {ps : List Ph} (h : RowG w0 w B v ps) : RdPs w v ps := by
  obtain ⟨hB, hb, hw, us, h1, h2⟩ := h
  have h1' := h1
  rcases h1.2 with ⟨rfl, hn⟩ | ⟨g, cap, cur, rfl, hg, hh, hc, hm, hcs, ht⟩
  · exact .inl ⟨List.eq_nil_of_length_eq_zero hn, _, _, by rfl, fun _ => rfl⟩
  · refine .inr ⟨g, 0, cap, rfl, (Array.getElem?_eq_some_iff.1 hh).1, hc, hm, fun i hi => ⟨(h2 i hi).1, ?_, us i, ?_, ?_⟩⟩
    · rw [Nat.zero_add, h1'.cellAt (i * 2) (by omega), flat2_even _ _ _ _ hi]
    · rw [Nat.zero_add, h1'.cellAt (i * 2 + 1) (by omega), flat2_odd _ _ _ _ hi]
    · rcases (h2 i hi).2 with h | h
      · exact h.rdc
      · exact h.later hb
theorem RowG.below {w0 w : World} {B : Nat} {v : Value} {ps : List Ph} (h : RowG w0 w B v ps) : Below w0.heap.size w0 w := h.2.1
theorem RowG.size {w0 w : World} {B : Nat} {v : Value} {ps : List Ph} (h : RowG w0 w B v ps) : B ≤ w.heap.size := h.2.2.1
theorem RowG.later {w0 w w' : World} {B : Nat} {v : Value} {ps : List Ph} (h : RowG w0 w B v ps) (hb : Below w.heap.size w w') : RowG w0 w' B v ps := by
  obtain ⟨hB, hb0, hw, us, h1, h2⟩ := h
  exact ⟨hB, hb0.trans (hb.mono (by omega)), by have := hb.size; omega, us, row_below h1 hb (fun j hj => (h1.lt j hj).2), fun i hi => ⟨(h2 i hi).1, (h2 i hi).2.imp (fun h => h.later hb) id⟩⟩
theorem RowG.nil {w0 w : World} {B : Nat} (hb : Below w0.heap.size w0 w) (hB : w0.heap.size ≤ B) (hw : B ≤ w.heap.size) : RowG w0 w B (.slice none 0 0) [] :=
  ⟨hB, hb, hw, fun _ => .slice none 0 0, World.ownsRow_nil _ _ _ _, fun i hi => absurd hi (by simp)⟩
theorem RowG.more {w0 w w1 : World} {B : Nat} {v v1 : Value} {ps qs : List Ph} {us us2 : Nat → Value} (hB : w0.heap.size ≤ B) (hb : Below w0.heap.size w0 w) (hw : B ≤ w.heap.size)
    (h1 : w.ownsRow B 65 2 v ps.length (flat2 ps.length (fun i => .string (phAt ps i).txt) us)) (h2 : ∀ i, i < ps.length → (phAt ps i).txt.size ≤ maxLen ∧ (Own w B (us i) (phAt ps i).sig ∨ RdC w0 (us i) (phAt ps i).sig))
    (hn : w1.ownsRow B 65 2 v1 (ps.length + qs.length) (flat2 ps.length (fun i => .string (phAt ps i).txt) us ++ flat2 qs.length (fun i => .string (phAt qs i).txt) us2))
    (hq : ∀ i, i < qs.length → (phAt qs i).txt.size ≤ maxLen ∧ RdC w0 (us2 i) (phAt qs i).sig) (hg : w.grownBy w1 v.ownBlock) : RowG w0 w1 B v1 (ps ++ qs) := by
  have hbl : Below w0.heap.size w0 w1 := hb.grown hg hb.size (fun k hk => by have := (h1.lt k hk).1; omega)
  refine ⟨hB, hbl, by have := hg.size; omega, fun i => if i < ps.length then us i else us2 (i - ps.length), ?_, ?_⟩
  · rw [flat2_append] at hn
    rw [List.length_append, flat2_congr _ _ _ (fun i => if i < ps.length then .string (phAt ps i).txt else .string (phAt qs (i - ps.length)).txt) (fun i => if i < ps.length then us i else us2 (i - ps.length))]
    · exact hn
    · intro i hi
      refine ⟨?_, rfl⟩
      rw [phAt_append]
      split <;> rfl
  · intro i hi
    rw [List.length_append] at hi
    rw [phAt_append]
    by_cases he : i < ps.length
    · rw [if_pos he]
      simp only [if_pos he]
      refine ⟨(h2 i he).1, (h2 i he).2.imp (fun h => h.kept hg (rows_apart h h1 (by decide))) id⟩
    · rw [if_neg he]
      simp only [if_neg he]
      exact ⟨(hq _ (by omega)).1, .inr (hq _ (by omega)).2⟩
/-- 'append(out, xs...)', xs a slice that was there before. -/
theorem wp_append_row {w0 w : World} {o : Oper} {a : Act} {K : Act → World → Prop} {Q : Exit → Act → World → Prop} (s x : Operand)
    (ho : o.op = .call { callee := .builtin .append, args := #[s, x], argTypes := #[29, 29] })
    (B : Nat) (v : Value) (ps qs : List Ph) (u : Value) (hs : a.eval s = v) (hx : a.eval x = u) (h : RowG w0 w B v ps) (hrd : RdPs w0 u qs) (hlen : ps.length + qs.length ≤ 4194304)
    (hK : ∀ v' w', RowG w0 w' B v' (ps ++ qs) → w.grownBy w' v.ownBlock → K (a.put o.dst v') w') : o.wp Try.prog a w K Q := by
  obtain ⟨hB, hb, hw, us, h1, h2⟩ := h
  rcases hrd with ⟨rfl, ad, cap, rfl, hn⟩ | ⟨g, off, cap, rfl, hg, hl, hm, hc⟩
  · refine wp_append_ps s x ho B v ps.length _ hs h1 _ [] hx (.inl ⟨rfl, ad, cap, rfl, hn⟩) (by simpa using hlen) hw fun v' w' us2 h4 h5 h6 => ?_
    exact hK v' w' (RowG.more hB hb hw h1 h2 h4 (fun i hi => absurd hi (by simp)) h6) h6
  · refine wp_append_cells s x ho B v ps.length _ hs h1 ⟨g, off, none⟩ qs.length cap (fun i => .string (phAt qs i).txt) (fun i => (w0.cell? ⟨g, off + i * 2 + 1, none⟩).getD (.slice none 0 0)) hx ?_ ?_ hlen hw (fun v' w' h4 h5 => hK v' w' (RowG.more hB hb hw h1 h2 h4 ?_ h5) h5)
    · intro i hi
      obtain ⟨-, h2, u, h3, h4⟩ := hc i hi
      rw [add_none, add_none, ← Nat.add_assoc, hb.cell (p := ⟨g, off + i * 2, none⟩) hg, hb.cell (p := ⟨g, off + i * 2 + 1, none⟩) hg, h2, h3]
      exact ⟨rfl, rfl⟩
    · intro i hi
      obtain ⟨-, h2, u, h3, h4⟩ := hc i hi
      simp only [h3, Option.getD_some]
      exact ⟨rfl, h4.one⟩
    · intro i hi
      obtain ⟨h1, h2, u, h3, h4⟩ := hc i hi
      simp only [h3, Option.getD_some]
      exact ⟨h1, h4⟩
theorem wpList_append_row {w0 w : World} {ops : Array Oper} {rest : List Oper} {o : Oper} {a : Act} {Q : Exit → Act → World → Prop} (hgd : o.guard = none) (s x : Operand)
    (ho : o.op = .call { callee := .builtin .append, args := #[s, x], argTypes := #[29, 29] })
    (B : Nat) (v : Value) (ps qs : List Ph) (u : Value) (hs : a.eval s = v) (hx : a.eval x = u) (h : RowG w0 w B v ps) (hrd : RdPs w0 u qs) (hlen : ps.length + qs.length ≤ 4194304)
    (hK : ∀ v' w', RowG w0 w' B v' (ps ++ qs) → w.grownBy w' v.ownBlock → wpList Try.prog ops Q rest (a.put o.dst v') w') : wpList Try.prog ops Q (o :: rest) a w :=
  wpList_plain hgd fun _ hK' => wp_append_row s x ho B v ps qs u hs hx h hrd hlen fun v' w' h1 h2 => hK' _ _ (hK v' w' h1 h2)
theorem step_append_row {w0 w : World} {ops : Array Oper} {o : Oper} {a : Act} {K : Act → World → Prop} {Q : Exit → Act → World → Prop} {E : Prop} (hgd : o.guard = none) (s x : Operand)
    (ho : o.op = .call { callee := .builtin .append, args := #[s, x], argTypes := #[29, 29] })
    (B : Nat) (v : Value) (ps qs : List Ph) (u : Value) (hs : a.eval s = v) (hx : a.eval x = u) (h : RowG w0 w B v ps) (hrd : RdPs w0 u qs) (hlen : ps.length + qs.length ≤ 4194304)
    (hK : ∀ v' w', RowG w0 w' B v' (ps ++ qs) → w.grownBy w' v.ownBlock → K (a.put o.dst v') w') : if Region.wanted o (yielded ops a.tmps) = true then Oper.wp Try.prog o a w K Q else E := by
  have hw : Region.wanted o (yielded ops a.tmps) = true := by simp [Region.wanted, hgd]
  rw [if_pos hw]
  exact wp_append_row s x ho B v ps qs u hs hx h hrd hlen hK
/-- 'append(out, x)', x a phrase whose slice was there before. -/
theorem step_append_rowOne {w0 w : World} {ops : Array Oper} {o : Oper} {a : Act} {K : Act → World → Prop} {Q : Exit → Act → World → Prop} {E : Prop} (hgd : o.guard = none) (s x : Operand)
    (ho : o.op = .call { callee := .builtin .append, args := #[s, x], argTypes := #[29, 29] })
    (B : Nat) (v : Value) (ps : List Ph) (p : Ph) (u : Value) (hh : Nat) (hs : a.eval s = v) (hx : a.eval x = .slice (some ⟨hh, 0, none⟩) 1 1) (h : RowG w0 w B v ps)
    (hc0 : w.cell? ⟨hh, 0, none⟩ = some (.string p.txt)) (hc1 : w.cell? ⟨hh, 1, none⟩ = some u) (hu : RdC w0 u p.sig) (hp : p.txt.size ≤ maxLen) (hlen : ps.length ≤ 1048576)
    (hK : ∀ v' w', RowG w0 w' B v' (ps ++ [p]) → w.grownBy w' v.ownBlock → K (a.put o.dst v') w') : if Region.wanted o (yielded ops a.tmps) = true then Oper.wp Try.prog o a w K Q else E := by
  have hw : Region.wanted o (yielded ops a.tmps) = true := by simp [Region.wanted, hgd]
  rw [if_pos hw]
  obtain ⟨hB, hb, hw, us, h1, h2⟩ := h
  refine wp_append_cells s x ho B v ps.length _ hs h1 ⟨hh, 0, none⟩ 1 1 (fun i => .string (phAt [p] i).txt) (fun _ => u) hx ?_ ?_ (by omega) hw ?_
  · intro i hi
    obtain rfl : i = 0 := by omega
    rw [add_none, add_none]
    exact ⟨hc0, hc1⟩
  · intro i hi
    exact ⟨rfl, hu.one⟩
  · intro v' w' h4 h5
    refine hK v' w' (RowG.more hB hb hw h1 h2 h4 (fun i hi => ?_) h5) h5
    obtain rfl : i = 0 := by simpa using hi
    exact ⟨hp, hu⟩
end Go.Proofs.Ytpogpehbkgjiaaa
