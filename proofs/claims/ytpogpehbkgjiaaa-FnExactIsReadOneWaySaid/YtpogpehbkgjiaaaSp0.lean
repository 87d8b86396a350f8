/- Chapter 3: rows whose cells go by a function; lists of steps; what is reckoned from the end. No program in sight but the types' numbers. -/
import Derived.Test.YtpogpehbkgjiaaaBkP
import Derived.Test.YtpogpehbkgjiaaaBkX1
import Derived.Laws.MakeOwn
namespace Go.Proofs.Ytpogpehbkgjiaaa
open Go.RowKit
set_option linter.unusedSimpArgs false
set_option linter.unusedVariables false

/-! ### What is reckoned from the end -/
theorem back_exists {α : Type} (n : Nat) (z : α) (F : (Nat → α) → Nat → α) (hF : ∀ f g a, a < n → (∀ j, a < j → f j = g j) → F f a = F g a) :
    ∃ f : Nat → α, f n = z ∧ ∀ a, a < n → f a = F f a := by
  suffices h : ∀ k, k ≤ n → ∃ f : Nat → α, f n = z ∧ ∀ a, n - k ≤ a → a < n → f a = F f a by
    obtain ⟨f, h1, h2⟩ := h n (Nat.le_refl _)
    exact ⟨f, h1, fun a ha => h2 a (by omega) ha⟩
  intro k
  induction k with
  | zero => exact fun _ => ⟨fun _ => z, rfl, fun a h1 h2 => by omega⟩
  | succ k ih =>
    intro hk
    obtain ⟨f, h1, h2⟩ := ih (by omega)
    refine ⟨fun j => if j = n - (k + 1) then F f (n - (k + 1)) else f j, ?_, ?_⟩
    · show (if n = n - (k + 1) then _ else _) = z
      rw [if_neg (by omega)]; exact h1
    · intro a ha hn
      by_cases e : a = n - (k + 1)
      · subst e
        show (if n - (k + 1) = n - (k + 1) then _ else _) = _
        rw [if_pos rfl]
        refine hF _ _ _ (by omega) fun j hj => ?_
        show _ = if j = n - (k + 1) then _ else _
        rw [if_neg (by omega)]
      · show (if a = n - (k + 1) then _ else _) = _
        rw [if_neg e, h2 a (by omega) hn]
        refine hF _ _ _ hn fun j hj => ?_
        show _ = if j = n - (k + 1) then _ else _
        rw [if_neg (by omega)]

/-! ### Rows whose cells go by a function -/
def RowF (w : World) (B : Nat) (e : TypeId) (sz : Nat) (v : Value) (n : Nat) (F : Nat → Value) : Prop := w.ownsRow B e sz v n ((List.range (n * sz)).map F)
theorem RowF.congr {w : World} {B : Nat} {e : TypeId} {sz n : Nat} {v : Value} {F G : Nat → Value} (h : RowF w B e sz v n F) (hFG : ∀ i, i < n * sz → F i = G i) : RowF w B e sz v n G := by
  unfold RowF at *
  rw [List.map_congr_left (g := F)]
  · exact h
  · intro i hi; exact (hFG i (by simpa using hi)).symm
theorem RowF.at_ {w : World} {B : Nat} {e : TypeId} {sz n g c : Nat} {F : Nat → Value} (h : RowF w B e sz (.slice (some ⟨g, 0, none⟩) n c) n F) (i : Nat) (hi : i < n * sz) : w.cell? ⟨g, i, none⟩ = some (F i) := by
  have h' := World.ownsRow.cellAt h i (by omega)
  rw [h']
  simp [hi]
theorem RowF.frozen {w : World} {B : Nat} {e : TypeId} {sz n g c : Nat} {F : Nat → Value} (h : RowF w B e sz (.slice (some ⟨g, 0, none⟩) n c) n F) (i : Nat) : w.frozen? ⟨g, i, none⟩ = false := World.ownsRow.frozenAt h i
theorem RowF.lt {w : World} {B : Nat} {e : TypeId} {sz n g c : Nat} {F : Nat → Value} (h : RowF w B e sz (.slice (some ⟨g, 0, none⟩) n c) n F) : B ≤ g ∧ g < w.heap.size := World.ownsRow.lt h g rfl
theorem RowF.put {w : World} {B : Nat} {e : TypeId} {sz n g c : Nat} {F : Nat → Value} (h : RowF w B e sz (.slice (some ⟨g, 0, none⟩) n c) n F) (k : Nat) (x : Value) :
    RowF (w.setCell ⟨g, k, none⟩ x) B e sz (.slice (some ⟨g, 0, none⟩) n c) n (fun j => if j = k then x else F j) ∧ w.grownBy (w.setCell ⟨g, k, none⟩ x) (some g) := by
  obtain ⟨s1, g1⟩ := World.ownsRow.stored h k x
  refine ⟨?_, g1⟩
  unfold RowF
  rw [show (List.range (n * sz)).map (fun j => if j = k then x else F j) = ((List.range (n * sz)).map F).set k x from ?_]
  · exact s1
  · apply List.ext_getElem?
    intro j
    rw [List.getElem?_set]
    by_cases e1 : k = j
    · subst e1
      by_cases hk : k < n * sz <;> simp [hk]
    · rw [if_neg e1]
      by_cases hk : j < n * sz
      · simp [hk, Ne.symm e1]
      · simp [hk]
theorem RowF.below {w w' : World} {B C : Nat} {e : TypeId} {sz n : Nat} {v : Value} {F : Nat → Value} (h : RowF w B e sz v n F) (hb : Below C w w') (hC : ∀ k, v.ownBlock = some k → k < C) : RowF w' B e sz v n F := row_below h hb hC
theorem RowF.later {w w' : World} {B : Nat} {e : TypeId} {sz n : Nat} {v : Value} {F : Nat → Value} (h : RowF w B e sz v n F) (hb : Below w.heap.size w w') : RowF w' B e sz v n F := row_below h hb (fun k hk => (World.ownsRow.lt h k hk).2)
theorem RowF.kept {w w' : World} {B : Nat} {e : TypeId} {sz n : Nat} {v : Value} {F : Nat → Value} {row : Option Nat} (h : RowF w B e sz v n F) (hg : w.grownBy w' row) (hne : v.ownBlock = none ∨ v.ownBlock ≠ row) : RowF w' B e sz v n F := World.ownsRow.kept h hg hne
theorem row_block {w w' : World} {B : Nat} {e : TypeId} {s n : Nat} {v : Value} {xs : List Value} (h : w.ownsRow B e s v n xs) (hs : ∀ k, v.ownBlock = some k → w'.heap[k]? = w.heap[k]?) : w'.ownsRow B e s v n xs := by
  obtain ⟨h1, h2⟩ := h
  refine ⟨h1, ?_⟩
  rcases h2 with h2 | ⟨g, cap, cur, hv, hg, hh, r⟩
  · exact .inl h2
  · exact .inr ⟨g, cap, cur, hv, hg, by rw [hs g (by rw [hv]; rfl)]; exact hh, r⟩

theorem row_base {w : World} {B B' : Nat} {e : TypeId} {sz n : Nat} {v : Value} {F : Nat → Value} (h : RowF w B e sz v n F) (hB : B' ≤ B) : RowF w B' e sz v n F := by
  obtain ⟨h1, h2⟩ := h
  refine ⟨h1, ?_⟩
  rcases h2 with h2 | ⟨g, cap, cur, hv, hg, r⟩
  · exact .inl h2
  · exact .inr ⟨g, cap, cur, hv, Nat.le_trans hB hg, r⟩

/-! ### Steps -/
abbrev St := Nat × Nat
def stAt (l : List St) (i : Nat) : St := l[i]?.getD (0, 0)
def cSt (l : List St) : List Value := flat2 l.length (fun i => .int .i64 (stAt l i).1) (fun i => .int .i64 (stAt l i).2)
/-- v owns, among the blocks from B on, the steps l. -/
def OwnSt (w : World) (B : Nat) (v : Value) (l : List St) : Prop := w.ownsRow B 71 2 v l.length (cSt l)
theorem stAt_snoc (l : List St) (p : St) (i : Nat) : stAt (l ++ [p]) i = if i < l.length then stAt l i else if i = l.length then p else (0, 0) := by
  unfold stAt
  rw [List.getElem?_append]
  by_cases h : i < l.length
  · rw [if_pos h, if_pos h]
  · rw [if_neg h, if_neg h]
    by_cases e : i = l.length
    · subst e; simp
    · rw [if_neg e]
      rw [List.getElem?_eq_none (by simp; omega)]; rfl
theorem cSt_snoc (l : List St) (p : St) : cSt (l ++ [p]) = cSt l ++ [.int .i64 p.1, .int .i64 p.2] := by
  unfold cSt
  rw [List.length_append, List.length_singleton, flat2_succ]
  congr 1
  · refine flat2_congr _ _ _ _ _ fun i hi => ?_
    simp only [stAt_snoc, if_pos hi, and_self]
  · simp [stAt_snoc]
theorem OwnSt.nil (w : World) (B : Nat) : OwnSt w B (.slice none 0 0) [] := World.ownsRow_nil _ _ _ _
theorem OwnSt.at_ {w : World} {B n c : Nat} {a : Option Addr} {l : List St} (h : OwnSt w B (.slice a n c) l) (hn : n = l.length) (i : Nat) (hi : i < n) :
    ∃ g, a = some ⟨g, 0, none⟩ ∧ B ≤ g ∧ g < w.heap.size ∧ w.cell? ⟨g, i * 2, none⟩ = some (.int .i64 (stAt l i).1) ∧ w.cell? ⟨g, i * 2 + 1, none⟩ = some (.int .i64 (stAt l i).2) := by
  subst hn
  have h' := h
  rcases h.2 with ⟨h2, h3⟩ | ⟨g, cap, cur, hv, hg, hh, r⟩
  · omega
  · simp only [Value.slice.injEq] at hv
    obtain ⟨rfl, -, rfl⟩ := hv
    refine ⟨g, rfl, hg, (Array.getElem?_eq_some_iff.1 hh).1, ?_, ?_⟩
    · rw [World.ownsRow.cellAt h' (i * 2) (by omega), cSt, flat2_even _ _ _ _ (by omega)]
    · rw [World.ownsRow.cellAt h' (i * 2 + 1) (by omega), cSt, flat2_odd _ _ _ _ (by omega)]
theorem OwnSt.len {w : World} {B : Nat} {v : Value} {l : List St} (h : OwnSt w B v l) : ∃ a c, v = .slice a l.length c ∧ l.length ≤ c := by
  rcases h.2 with ⟨h2, h3⟩ | ⟨g, cap, cur, hv, hg, hh, hc, r⟩
  · exact ⟨_, _, by rw [h2, h3], by omega⟩
  · exact ⟨_, _, hv, hc⟩
theorem Try_info_step : (Try.prog.info? 71).map (fun i => (i.zero, i.size, i.bytes)) = some (some (.agg #[.int .i64 0, .int .i64 0]), 2, 16) := by kernel_rfl
theorem append_st {w : World} {ops : Array Oper} {rest : List Oper} {o : Oper} {a : Act} {Q : Exit → Act → World → Prop} (hgd : o.guard = none) (s x : Operand)
    (ho : o.op = .call { callee := .builtin .append, args := #[s, x], argTypes := #[69, 69] })
    (B : Nat) (v : Value) (l : List St) (p : St) (h : Nat) (hs : a.eval s = v) (hx : a.eval x = .slice (some ⟨h, 0, none⟩) 1 1)
    (hown : OwnSt w B v l) (hc0 : w.cell? ⟨h, 0, none⟩ = some (.int .i64 p.1)) (hc1 : w.cell? ⟨h, 1, none⟩ = some (.int .i64 p.2)) (hlen : l.length ≤ 1048576) (hB : B ≤ w.heap.size)
    (hK : ∀ v' w', OwnSt w' B v' (l ++ [p]) → w.grownBy w' v.ownBlock → wpList Try.prog ops Q rest (a.put o.dst v') w') : wpList Try.prog ops Q (o :: rest) a w := by
  obtain ⟨i0, hi, hz0, hz1, hz2⟩ := info_parts Try_info_step
  refine wpList_append_own w hgd s x 69 ho B 71 i0 _ 2 16 Try.underlying69 hi hz0 hz1 hz2 rfl (by decide) v l.length (cSt l) hs hown
    ⟨h, 0, none⟩ 1 1 [.int .i64 p.1, .int .i64 p.2] hx rfl ?_ ?_ (by unfold maxLen; omega) (by omega) hB ?_
  · intro j u hj
    match j, hj with
    | 0, hj => simp at hj; subst hj; simpa [Addr.add] using hc0
    | 1, hj => simp at hj; subst hj; simpa [Addr.add] using hc1
  · intro u hu
    simp at hu
    rcases hu with rfl | rfl <;> rfl
  · intro v' w' h1 h2 _
    refine hK v' w' ?_ h2
    unfold OwnSt
    rw [cSt_snoc, List.length_append, List.length_singleton]
    exact h1
/-- A list of lists of steps, read: n rows. -/
def RdSS (w : World) (v : Value) (n : Nat) (ss : Nat → List St) : Prop :=
  ∃ B g F, v = .slice (some ⟨g, 0, none⟩) n n ∧ RowF w B 69 1 (.slice (some ⟨g, 0, none⟩) n n) n F ∧ ∀ i, i < n → ∃ B', OwnSt w B' (F i) (ss i)
theorem RdSS.later {w w' : World} {v : Value} {n : Nat} {ss : Nat → List St} (h : RdSS w v n ss) (hb : Below w.heap.size w w') : RdSS w' v n ss := by
  obtain ⟨B, g, F, hv, h1, h2⟩ := h
  exact ⟨B, g, F, hv, h1.later hb, fun i hi => by obtain ⟨B', h⟩ := h2 i hi; exact ⟨B', row_below h hb (fun k hk => (World.ownsRow.lt h k hk).2)⟩⟩
theorem RdSS.below {w w' : World} {C : Nat} {v : Value} {n : Nat} {ss : Nat → List St} (h : RdSS w v n ss) (hb : Below C w w') (hC : w.heap.size ≤ C) : RdSS w' v n ss := by
  obtain ⟨B, g, F, hv, h1, h2⟩ := h
  exact ⟨B, g, F, hv, h1.below hb (fun k hk => by have := (World.ownsRow.lt h1 k hk).2; omega), fun i hi => by obtain ⟨B', h⟩ := h2 i hi; exact ⟨B', row_below h hb (fun k hk => by have := (World.ownsRow.lt h k hk).2; omega)⟩⟩
theorem RdSS.at_ {w : World} {g n m c : Nat} {ss : Nat → List St} (h : RdSS w (.slice (some ⟨g, 0, none⟩) m c) n ss) (i : Nat) (hi : i < n) :
    g < w.heap.size ∧ ∃ B a k, w.cell? ⟨g, i, none⟩ = some (.slice a (ss i).length k) ∧ OwnSt w B (.slice a (ss i).length k) (ss i) ∧ (ss i).length ≤ k := by
  obtain ⟨B, g', F, hv, h1, h2⟩ := h
  simp only [Value.slice.injEq, Option.some.injEq, Addr.mk.injEq, and_true] at hv
  obtain ⟨rfl, rfl, rfl⟩ := hv
  obtain ⟨B', h3⟩ := h2 i hi
  obtain ⟨a, k, hF, hk⟩ := h3.len
  rw [hF] at h3
  exact ⟨h1.lt.2, B', a, k, by rw [h1.at_ i (by omega), hF], h3, hk⟩
theorem RdSS.v {w : World} {v : Value} {n : Nat} {ss : Nat → List St} (h : RdSS w v n ss) : ∃ g, v = .slice (some ⟨g, 0, none⟩) n n ∧ g < w.heap.size := by
  obtain ⟨B, g, F, rfl, h1, h2⟩ := h
  exact ⟨g, rfl, h1.lt.2⟩

/-- Steps by a test and an end for each phrase. -/
def stepsOf (fits : Nat → Bool) (en : Nat → Nat) (m : Nat) : List St := (List.range m).filterMap fun i => if fits i then some (i, en i) else none
theorem stepsOf_yes {fits : Nat → Bool} {en : Nat → Nat} {m : Nat} (h : fits m = true) : stepsOf fits en (m + 1) = stepsOf fits en m ++ [(m, en m)] := by
  simp [stepsOf, List.range_succ, List.filterMap_append, h]
theorem stepsOf_no {fits : Nat → Bool} {en : Nat → Nat} {m : Nat} (h : fits m = false) : stepsOf fits en (m + 1) = stepsOf fits en m := by
  simp [stepsOf, List.range_succ, List.filterMap_append, h]
theorem stepsOf_mem {fits : Nat → Bool} {en : Nat → Nat} {m : Nat} {x : St} (h : x ∈ stepsOf fits en m) : x.1 < m ∧ fits x.1 = true ∧ x.2 = en x.1 := by
  simp only [stepsOf, List.mem_filterMap, List.mem_range] at h
  obtain ⟨i, hi, hx⟩ := h
  split at hx
  · next hf => cases hx; exact ⟨hi, hf, rfl⟩
  · cases hx
theorem mem_stepsOf {fits : Nat → Bool} {en : Nat → Nat} {m i : Nat} (hi : i < m) (h : fits i = true) : (i, en i) ∈ stepsOf fits en m := by
  simp only [stepsOf, List.mem_filterMap, List.mem_range]
  exact ⟨i, hi, by rw [if_pos h]⟩
theorem stepsOf_len (fits : Nat → Bool) (en : Nat → Nat) (m : Nat) : (stepsOf fits en m).length ≤ m := by
  have := List.length_filterMap_le (fun i => if fits i then some (i, en i) else none) (List.range m)
  simpa [stepsOf] using this
theorem stAt_mem {l : List St} {i : Nat} (h : i < l.length) : stAt l i ∈ l := by simp [stAt, h]
theorem take_snoc {l : List St} {i : Nat} (h : i < l.length) : l.take (i + 1) = l.take i ++ [stAt l i] := by
  rw [List.take_succ_eq_append_getElem h]; simp [stAt, h]

/-! ### Counting -/
def foldW (f : Nat → Int) (l : List St) : Int := l.foldl (fun a x => wrap64 (a + f x.2)) 0
theorem foldW_snoc (f : Nat → Int) (l : List St) (p : St) : foldW f (l ++ [p]) = wrap64 (foldW f l + f p.2) := by simp [foldW]
theorem foldW_congr {f g : Nat → Int} {l : List St} (h : ∀ x ∈ l, f x.2 = g x.2) : foldW f l = foldW g l := by
  unfold foldW
  generalize (0 : Int) = z
  induction l generalizing z with
  | nil => rfl
  | cons x l ih =>
    simp only [List.foldl_cons]
    rw [h x (by simp)]
    exact ih (fun y hy => h y (by simp [hy])) _
/-- f counts the lists of steps from each place to the end. -/
def Counts (n : Nat) (ss : Nat → List St) (f : Nat → Int) : Prop := f n = 1 ∧ ∀ a, a < n → f a = foldW f (ss a)
def Ahead (n : Nat) (ss : Nat → List St) : Prop := ∀ a, a < n → ∀ x ∈ ss a, a < x.2 ∧ x.2 ≤ n
theorem counts_exists {n : Nat} {ss : Nat → List St} (h : Ahead n ss) : ∃ f, Counts n ss f :=
  back_exists n 1 (fun f a => foldW f (ss a)) fun f g a ha hj => foldW_congr fun x hx => hj _ (h a ha x hx).1
end Go.Proofs.Ytpogpehbkgjiaaa
