/- Own memory in intervals of blocks: slices of integers and slices of such slices; what a call that writes there leaves alone; the laws' helpers on them. -/
import Derived.Test.YtpmdjdlojbpcfaaBk4
namespace Go.Proofs.Ytpmdjdlojbpcfaa
open Go.RowKit
set_option linter.unusedSimpArgs false
set_option linter.unusedVariables false

/-- From a to b nothing is written but blocks of the interval from B to C, and new ones. -/
structure Kp (B C : Nat) (w w' : World) : Prop where
  os : w'.os = w.os
  tape : w'.tape = w.tape
  output : w'.output = w.output
  size : w.heap.size ≤ w'.heap.size
  block : ∀ k, k < w.heap.size → (k < B ∨ C ≤ k) → w'.heap[k]? = w.heap[k]?
theorem Kp.refl (B C : Nat) (w : World) : Kp B C w w := ⟨rfl, rfl, rfl, Nat.le_refl _, fun _ _ _ => rfl⟩
theorem Kp.trans {B C : Nat} {a b c : World} (h : Kp B C a b) (k : Kp B C b c) : Kp B C a c :=
  ⟨k.os.trans h.os, k.tape.trans h.tape, k.output.trans h.output, Nat.le_trans h.size k.size, fun i hi hx => (k.block i (Nat.lt_of_lt_of_le hi h.size) hx).trans (h.block i hi hx)⟩
theorem Kp.of_below {B C : Nat} {a b : World} (h : Below a.heap.size a b) : Kp B C a b := ⟨h.os, h.tape, h.output, h.size, fun i hi _ => h.block i hi⟩
theorem Kp.of_grown {B C : Nat} {a b : World} {row : Option Nat} (h : a.grownBy b row) (hr : ∀ k, row = some k → B ≤ k ∧ k < C) : Kp B C a b :=
  have hb : ∀ x, (∀ k, row = some k → x = k → False) → True := fun _ _ => trivial
  ⟨h.os, h.tape, h.output, h.size, fun i hi hx => h.block i hi (fun e => by have := hr i e.symm; omega)⟩
theorem Kp.below {B C : Nat} {a b : World} (h : Kp B C a b) (hB : B ≤ a.heap.size) : Below B a b := ⟨h.os, h.tape, h.output, h.size, fun k hk => h.block k (by omega) (.inl hk)⟩

theorem row_at {w w' : World} {B : Nat} {e : TypeId} {s n : Nat} {v : Value} {xs : List Value} (h : w.ownsRow B e s v n xs) (hs : ∀ k, v.ownBlock = some k → w'.heap[k]? = w.heap[k]?) : w'.ownsRow B e s v n xs := by
  obtain ⟨h1, h2⟩ := h
  refine ⟨h1, ?_⟩
  rcases h2 with h2 | ⟨g, cap, cur, hv, hg, hh, r⟩
  · exact .inl h2
  · exact .inr ⟨g, cap, cur, hv, hg, by rw [hs g (by rw [hv]; rfl)]; exact hh, r⟩
theorem row_apart {w : World} {B B' : Nat} {e e' : TypeId} {s s' : Nat} {v v' : Value} {n n' : Nat} {xs xs' : List Value} (h : w.ownsRow B e s v n xs) (h' : w.ownsRow B' e' s' v' n' xs') (hne : e ≠ e') : v.ownBlock = none ∨ v.ownBlock ≠ v'.ownBlock := by
  rcases h.2 with ⟨rfl, -⟩ | ⟨g, cap, cur, rfl, -, hg, -⟩
  · exact .inl rfl
  · rcases h'.2 with ⟨rfl, -⟩ | ⟨g', cap', cur', rfl, -, hg', -⟩
    · exact .inr (by simp [Value.ownBlock])
    · refine .inr fun e1 => ?_
      have : g = g' := by simpa [Value.ownBlock] using e1
      subst this
      rw [hg] at hg'
      simp at hg'
      exact hne hg'.2
theorem row_down {w : World} {B B' : Nat} {e : TypeId} {s n : Nat} {v : Value} {xs : List Value} (h : w.ownsRow B e s v n xs) (hB : B' ≤ B) : w.ownsRow B' e s v n xs := by
  obtain ⟨h1, h2⟩ := h
  refine ⟨h1, ?_⟩
  rcases h2 with h2 | ⟨g, cap, cur, hv, hg, r⟩
  · exact .inl h2
  · exact .inr ⟨g, cap, cur, hv, by omega, r⟩

/-- v owns, among the blocks from B up to C, the integers zs. -/
def OwnI (w : World) (B C : Nat) (v : Value) (zs : List Int) : Prop := Own w B v zs ∧ ∀ k, v.ownBlock = some k → k < C
theorem Own.iv {w : World} {B : Nat} {v : Value} {zs : List Int} (h : Own w B v zs) : OwnI w B w.heap.size v zs := ⟨h, fun k hk => (h.lt k hk).2⟩
theorem OwnI.own {w : World} {B C : Nat} {v : Value} {zs : List Int} (h : OwnI w B C v zs) : Own w B v zs := h.1
theorem OwnI.rd {w : World} {B C : Nat} {v : Value} {zs : List Int} (h : OwnI w B C v zs) : Rd w v zs := h.1.rd
theorem OwnI.rdc {w : World} {B C : Nat} {v : Value} {zs : List Int} (h : OwnI w B C v zs) : RdC w v zs := h.1.rdc
theorem OwnI.later {w w' : World} {B C : Nat} {v : Value} {zs : List Int} (h : OwnI w B C v zs) (hb : Below w.heap.size w w') : OwnI w' B C v zs := ⟨h.1.later hb, h.2⟩
theorem OwnI.kept {w w' : World} {B C B' C' : Nat} {v : Value} {zs : List Int} (h : OwnI w B C v zs) (hk : Kp B' C' w w') (hx : C ≤ B' ∨ C' ≤ B) : OwnI w' B C v zs :=
  ⟨row_at h.1 fun k hk' => hk.block k (h.1.lt k hk').2 (by have := (h.1.lt k hk').1; have := h.2 k hk'; omega), h.2⟩
theorem OwnI.wide {w : World} {B C B' C' : Nat} {v : Value} {zs : List Int} (h : OwnI w B C v zs) (hB : B' ≤ B) (hC : C ≤ C') : OwnI w B' C' v zs := ⟨h.1.base hB, fun k hk => Nat.lt_of_lt_of_le (h.2 k hk) hC⟩
theorem OwnI.nil (w : World) (B C : Nat) : OwnI w B C (.slice none 0 0) [] := ⟨Own.nil _ _, fun k hk => by cases hk⟩

/-! ### Slices of slices -/
def rowAt (L : List (List Int)) (i : Nat) : List Int := L[i]?.getD []
theorem rowAt_set {L : List (List Int)} {k : Nat} {p : List Int} (hk : k < L.length) (i : Nat) : rowAt (L.set k p) i = if i = k then p else rowAt L i := by
  unfold rowAt
  rw [List.getElem?_set]
  by_cases h : k = i
  · subst h; simp [hk]
  · rw [if_neg h, if_neg (Ne.symm h)]
theorem rowAt_take {L : List (List Int)} {k i : Nat} (h : i < k) : rowAt (L.take k) i = rowAt L i := by
  unfold rowAt; rw [List.getElem?_take, if_pos h]
theorem rowAt_ge {L : List (List Int)} {i : Nat} (h : L.length ≤ i) : rowAt L i = [] := by
  unfold rowAt; rw [List.getElem?_eq_none h]; rfl
theorem rows_ext {L M : List (List Int)} (hl : L.length = M.length) (h : ∀ i, i < L.length → rowAt L i = rowAt M i) : L = M := by
  apply List.ext_getElem hl
  intro i h1 h2
  have := h i h1
  simpa [rowAt, h1, h2] using this
/-- The slice value v reads, in w, as the lists L. -/
def RdJ (w : World) (v : Value) (L : List (List Int)) : Prop :=
  (L = [] ∧ ∃ a cap, v = .slice a 0 cap ∧ (a = none → cap = 0)) ∨
  ∃ g off cap, v = .slice (some ⟨g, off, none⟩) L.length cap ∧ g < w.heap.size ∧ L.length ≤ cap ∧ cap ≤ maxLen ∧
    ∀ i, i < L.length → ∃ u, w.cell? ⟨g, off + i, none⟩ = some u ∧ RdC w u (rowAt L i)
theorem RdJ.below {w w' : World} {C : Nat} {v : Value} {L : List (List Int)} (h : RdJ w v L) (hb : Below C w w') (hC : w.heap.size ≤ C) : RdJ w' v L := by
  rcases h with h | ⟨g, off, cap, hv, hg, hl, hm, hc⟩
  · exact .inl h
  · refine .inr ⟨g, off, cap, hv, by have := hb.size; omega, hl, hm, fun i hi => ?_⟩
    obtain ⟨u, h3, h4⟩ := hc i hi
    exact ⟨u, by rw [hb.cell (p := ⟨g, off + i, none⟩) (by show g < C; omega)]; exact h3, h4.below hb hC⟩
theorem RdJ.later {w w' : World} {v : Value} {L : List (List Int)} (h : RdJ w v L) (hb : Below w.heap.size w w') : RdJ w' v L := h.below hb (Nat.le_refl _)
theorem RdJ.len {w : World} {v : Value} {L : List (List Int)} (h : RdJ w v L) : ∃ a cap, v = .slice a L.length cap ∧ L.length ≤ cap := by
  rcases h with ⟨rfl, a, cap, hv, -⟩ | ⟨g, off, cap, hv, _, hl, _⟩
  · exact ⟨_, _, hv, by simp⟩
  · exact ⟨_, _, hv, hl⟩
theorem RdJ.max {w : World} {v : Value} {L : List (List Int)} (h : RdJ w v L) : (L.length : Int) ≤ 9223372036854775807 := by
  rcases h with ⟨rfl, -⟩ | ⟨g, off, cap, -, -, hl, hm, -⟩
  · simp
  · unfold maxLen at hm; omega
/-- What a round reads. -/
theorem RdJ.at_ {w : World} {a : Option Addr} {n cap : Nat} {L : List (List Int)} (h : RdJ w (.slice a n cap) L) (hn : n = L.length) (i : Nat) (hi : i < n) :
    ∃ g off u, a = some ⟨g, off, none⟩ ∧ g < w.heap.size ∧ w.cell? ⟨g, off + i, none⟩ = some u ∧ RdC w u (rowAt L i) := by
  rcases h with ⟨rfl, -⟩ | ⟨g, off, cap', hv, hg, hl, hm, hc⟩
  · simp at hn; omega
  · simp only [Value.slice.injEq] at hv
    obtain ⟨rfl, -, -⟩ := hv
    obtain ⟨u, h3, h4⟩ := hc i (by omega)
    exact ⟨g, off, u, rfl, hg, h3, h4⟩
theorem RdJ.take {w : World} {a : Option Addr} {n cap : Nat} {L : List (List Int)} (h : RdJ w (.slice a n cap) L) (k : Nat) (hk : k ≤ n) : RdJ w (.slice a k cap) (L.take k) := by
  obtain ⟨a', cap', hv, hlc⟩ := h.len
  simp only [Value.slice.injEq] at hv
  obtain ⟨rfl, rfl, rfl⟩ := hv
  rcases h with ⟨rfl, a', cap', hv, hn⟩ | ⟨g, off, cap', hv, hg, hl, hm, hc⟩
  · obtain rfl : k = 0 := by simpa using hk
    simp only [Value.slice.injEq] at hv
    obtain ⟨rfl, -, rfl⟩ := hv
    exact .inl ⟨by simp, _, _, rfl, hn⟩
  · simp only [Value.slice.injEq] at hv
    obtain ⟨rfl, -, rfl⟩ := hv
    have hlen : (L.take k).length = k := by simp; omega
    refine .inr ⟨g, off, cap, by rw [hlen], hg, by omega, hm, fun i hi => ?_⟩
    rw [hlen] at hi
    rw [rowAt_take hi]
    exact hc i (by omega)

/-- v owns, among the blocks from B up to C, the lists L, each a slice of its own. -/
def OwnJ (w : World) (B C : Nat) (v : Value) (L : List (List Int)) : Prop :=
  ∃ us : Nat → Value, w.ownsRow B 26 1 v L.length ((List.range L.length).map us) ∧ (∀ k, v.ownBlock = some k → k < C) ∧
    (∀ i, i < L.length → OwnI w B C (us i) (rowAt L i)) ∧ ∀ i j, i < L.length → j < L.length → i ≠ j → (us i).ownBlock = none ∨ (us i).ownBlock ≠ (us j).ownBlock
theorem OwnJ.nil (w : World) (B C : Nat) : OwnJ w B C (.slice none 0 0) [] :=
  ⟨fun _ => .slice none 0 0, World.ownsRow_nil _ _ _ _, fun k hk => (by cases hk), fun i hi => absurd hi (by simp), fun i j hi => absurd hi (by simp)⟩
theorem OwnJ.later {w w' : World} {B C : Nat} {v : Value} {L : List (List Int)} (h : OwnJ w B C v L) (hb : Below w.heap.size w w') : OwnJ w' B C v L := by
  obtain ⟨us, h1, h2, h3, h4⟩ := h
  exact ⟨us, row_at h1 fun k hk => hb.block k (h1.lt k hk).2, h2, fun i hi => (h3 i hi).later hb, h4⟩
theorem OwnJ.kept {w w' : World} {B C B' C' : Nat} {v : Value} {L : List (List Int)} (h : OwnJ w B C v L) (hk : Kp B' C' w w') (hx : C ≤ B' ∨ C' ≤ B) : OwnJ w' B C v L := by
  obtain ⟨us, h1, h2, h3, h4⟩ := h
  exact ⟨us, row_at h1 fun k hk' => hk.block k (h1.lt k hk').2 (by have := (h1.lt k hk').1; have := h2 k hk'; omega), h2, fun i hi => (h3 i hi).kept hk hx, h4⟩
theorem OwnJ.wide {w : World} {B C B' C' : Nat} {v : Value} {L : List (List Int)} (h : OwnJ w B C v L) (hB : B' ≤ B) (hC : C ≤ C') : OwnJ w B' C' v L := by
  obtain ⟨us, h1, h2, h3, h4⟩ := h
  exact ⟨us, row_down h1 hB, fun k hk => Nat.lt_of_lt_of_le (h2 k hk) hC, fun i hi => (h3 i hi).wide hB hC, h4⟩
theorem OwnJ.lt {w : World} {B C : Nat} {v : Value} {L : List (List Int)} (h : OwnJ w B C v L) : ∀ k, v.ownBlock = some k → B ≤ k ∧ k < w.heap.size := by
  obtain ⟨us, h1, -⟩ := h
  exact h1.lt
theorem OwnJ.rd {w : World} {B C : Nat} {v : Value} {L : List (List Int)} (h : OwnJ w B C v L) : RdJ w v L := by
  obtain ⟨us, h1, h2, h3, h4⟩ := h
  have h1' := h1
  rcases h1.2 with ⟨rfl, hn⟩ | ⟨g, cap, cur, rfl, hg, hh, hc, hm, hcs, ht⟩
  · exact .inl ⟨List.eq_nil_of_length_eq_zero hn, _, _, by rfl, fun _ => rfl⟩
  · refine .inr ⟨g, 0, cap, rfl, (Array.getElem?_eq_some_iff.1 hh).1, hc, hm, fun i hi => ⟨us i, ?_, (h3 i hi).rdc⟩⟩
    rw [Nat.zero_add, h1'.cellAt i (by omega)]
    simp [hi]
theorem OwnJ.len {w : World} {B C : Nat} {v : Value} {L : List (List Int)} (h : OwnJ w B C v L) : ∃ a cap, v = .slice a L.length cap := by
  obtain ⟨a, cap, hv, -⟩ := h.rd.len
  exact ⟨a, cap, hv⟩
theorem map_set {n k : Nat} (us : Nat → Value) (u : Value) (hk : k < n) : ((List.range n).map us).set k u = (List.range n).map fun i => if i = k then u else us i := by
  apply List.ext_getElem?
  intro j
  rw [List.getElem?_set, List.getElem?_map]
  by_cases h : k = j
  · subst h; simp [hk]
  · by_cases hj : j < n
    · simp [h, hj, Ne.symm h]
    · simp [h, hj]
/-- A new slice of its own is stored in its place. -/
theorem OwnJ.put {w : World} {B C B' C' g n cap k : Nat} {L : List (List Int)} {zs : List Int} {u : Value} (h : OwnJ w B C (.slice (some ⟨g, 0, none⟩) n cap) L) (hn : L.length = n) (hk : k < n)
    (hu : OwnI w B' C' u zs) (hB : B ≤ B') (hC : C ≤ B') :
    OwnJ (w.setCell ⟨g, k, none⟩ u) B (max C C') (.slice (some ⟨g, 0, none⟩) n cap) (L.set k zs) ∧ w.grownBy (w.setCell ⟨g, k, none⟩ u) (some g) := by
  obtain ⟨us, h1, h2, h3, h4⟩ := h
  have hgl := h1.lt g rfl
  rw [hn] at h1
  obtain ⟨s1, g1⟩ := h1.stored k u
  rw [map_set us u hk] at s1
  refine ⟨⟨fun i => if i = k then u else us i, ?_, ?_, ?_, ?_⟩, g1⟩
  · rw [List.length_set, hn]; exact s1
  · intro j hj; have := h2 j hj; omega
  · intro i hi
    rw [List.length_set] at hi
    rw [rowAt_set (by omega)]
    by_cases he : i = k
    · rw [if_pos he]
      simp only [if_pos he]
      exact OwnI.wide ⟨hu.1.kept g1 (row_apart hu.1 h1 (by decide)), hu.2⟩ hB (by omega)
    · rw [if_neg he]
      simp only [if_neg he]
      exact OwnI.wide ⟨(h3 i hi).1.kept g1 (row_apart (h3 i hi).1 h1 (by decide)), (h3 i hi).2⟩ (Nat.le_refl _) (by omega)
  · intro i j hi hj hne
    rw [List.length_set] at hi hj
    show (if i = k then u else us i).ownBlock = none ∨ (if i = k then u else us i).ownBlock ≠ (if j = k then u else us j).ownBlock
    by_cases he : i = k
    · rw [if_pos he, if_neg (by omega)]
      cases hub : u.ownBlock with
      | none => exact .inl rfl
      | some b =>
        refine .inr fun e => ?_
        have a1 := (hu.1.lt b hub).1
        have a2 := (h3 j hj).2 b e.symm
        omega
    · rw [if_neg he]
      by_cases hf : j = k
      · rw [if_pos hf]
        cases hub : (us i).ownBlock with
        | none => exact .inl rfl
        | some b =>
          refine .inr fun e => ?_
          have a1 := (hu.1.lt b e.symm).1
          have a2 := (h3 i hi).2 b hub
          omega
      · rw [if_neg hf]
        exact h4 i j hi hj hne
theorem OwnJ.cellAt {w : World} {B C g n cap : Nat} {L : List (List Int)} (h : OwnJ w B C (.slice (some ⟨g, 0, none⟩) n cap) L) (hn : L.length = n) (k : Nat) (hk : k < n) :
    (∃ x, w.cell? ⟨g, k, none⟩ = some x) ∧ w.frozen? ⟨g, k, none⟩ = false := by
  obtain ⟨us, h1, -⟩ := h
  rw [hn] at h1
  exact ⟨⟨_, by rw [h1.cellAt k (by omega)]; simp [hk]; rfl⟩, h1.frozenAt _⟩

theorem Try_info_ints : (Try.prog.info? 26).map (fun i => (i.zero, i.size, i.bytes)) = some (some (.slice none 0 0), 1, 24) := by kernel_rfl
theorem made_slices (n : Nat) : (madeCells (Value.slice none 0 0).cells (n * 1)).toList = (List.range n).map fun _ => Value.slice none 0 0 := by
  rw [Nat.mul_one]
  have := toList_madeCells_one (.slice none 0 0) n
  simp only [Value.cells] at *
  rw [this]
  apply List.ext_getElem?
  intro j
  by_cases hj : j < n
  · simp [hj]
  · simp [hj]
/-- The first k lists, and empty ones behind. -/
def padJ (L : List (List Int)) (n k : Nat) : List (List Int) := L.take k ++ List.replicate (n - k) []
theorem padJ_len {L : List (List Int)} {n k : Nat} (hn : L.length = n) (hk : k ≤ n) : (padJ L n k).length = n := by simp [padJ]; omega
theorem padJ_all {L : List (List Int)} {n : Nat} (hn : L.length = n) : padJ L n n = L := by simp [padJ, ← hn]
theorem padJ_step {L : List (List Int)} {n k : Nat} (hn : L.length = n) (hk : k < n) : (padJ L n k).set k (rowAt L k) = padJ L n (k + 1) := by
  unfold padJ
  rw [List.set_append_right _ _ (by simp; omega), show k - (L.take k).length = 0 by simp; omega, show n - k = (n - (k + 1)) + 1 by omega, List.replicate_succ, List.set_cons_zero]
  rw [show L.take (k + 1) = L.take k ++ [L[k]] from List.take_succ_eq_append_getElem (by omega), List.append_assoc]
  have : rowAt L k = L[k] := by simp [rowAt, show k < L.length by omega]
  rw [this]
  rfl
theorem OwnJ.made {w w1 : World} {n : Nat} (h : w1.ownsRow w.heap.size 26 1 (.slice (some ⟨w.heap.size, 0, none⟩) n n) n (madeCells (Value.slice none 0 0).cells (n * 1)).toList) :
    OwnJ w1 w.heap.size w1.heap.size (.slice (some ⟨w.heap.size, 0, none⟩) n n) (List.replicate n []) := by
  have e : ∀ i, rowAt (List.replicate n []) i = [] := by
    intro i
    simp only [rowAt, List.getElem?_replicate]
    split <;> rfl
  refine ⟨fun _ => .slice none 0 0, ?_, ?_, ?_, ?_⟩
  · rw [List.length_replicate]
    rw [made_slices] at h
    exact h
  · intro k hk; exact (h.lt k hk).2
  · intro i hi
    rw [e]
    exact OwnI.nil _ _ _
  · intro i j _ _ _
    exact .inl rfl

/-! ### The laws' helpers -/
theorem eqIntS_b (v1 v2 : Value) (zs : List Int) (w : World) (h1 : Rd w v1 zs) (h2 : Rd w v2 zs) :
    Calls Try.prog 48 #[v1, v2] w fun e w' => e = .returned (.bool true) ∧ Below w.heap.size w w' :=
  (eqIntS_true v1 v2 zs w h1 h2).mono fun e w' ⟨he, n, hn⟩ => ⟨he, by rw [hn]; exact below_drewN (Below.refl _ _) n⟩
theorem toIntS_i (v : Value) (zs : List Int) (w : World) (hz : zs.length ≤ 1099511627776) (hr : Rd w v zs) :
    Calls Try.prog 47 #[v] w fun e w' => ∃ v', e = .returned v' ∧ OwnI w' w.heap.size w'.heap.size v' zs ∧ Below w.heap.size w w' :=
  (toIntS_any v zs w hz hr).mono fun e w' ⟨v', he, ho, hb⟩ => ⟨v', he, ho.iv, hb⟩
theorem markIntS_i (B C : Nat) (v : Value) (zs : List Int) (k0 : Int) (w : World) (h0 : 0 ≤ k0) (h1 : k0 ≤ 1099511627776) (hz : zs.length ≤ 1099511627776) (ho : OwnI w B C v zs) :
    Calls Try.prog 50 #[v, .int .i64 k0] w fun e w' => e = .returned (.int .i64 (k0 + zs.length)) ∧ OwnI w' B C v (markZ k0 zs.length) ∧ Kp B C w w' ∧ w.grownBy w' v.ownBlock :=
  (markIntS_any B v zs k0 w h0 h1 hz ho.1).mono fun e w' ⟨he, ho', hg⟩ => ⟨he, ⟨ho', ho.2⟩, Kp.of_grown hg (fun k hk => ⟨(ho.1.lt k hk).1, ho.2 k hk⟩), hg⟩
theorem szIntS_e (v : Value) (zs : List Int) (left : Int) (w : World) (h0 : 0 ≤ left) (h1 : left ≤ 1048576) (hr : RdC w v zs) :
    Calls Try.prog 86 #[v, .int .i64 left] w fun e w' => w = w' ∧ ∃ r : Int, e = .returned (.int .i64 r) ∧ (r = -1 ∨ (0 ≤ r ∧ r = left - zs.length)) := by
  have hm : (zs.length : Int) ≤ 9223372036854775807 := by
    rcases hr.1 with ⟨rfl, -⟩ | ⟨g, off, cap, -, -, hm, -⟩
    · simp
    · unfold maxLen at hm; omega
  obtain ⟨-, a, cap, rfl, -⟩ := hr
  by_cases h : (zs.length : Int) ≤ left
  · go_enter Try.func86, Try.ntmps86
    go_wp2
    go_ret
    exact ⟨rfl, _, rfl, .inr ⟨by omega, rfl⟩⟩
  · go_enter Try.func86, Try.ntmps86
    go_wp2
    go_ret
    exact ⟨rfl, _, rfl, .inl rfl⟩

/-- The sum of the first lengths. -/
def sumTo (L : List (List Int)) : Nat → Nat
  | 0 => 0
  | i + 1 => sumTo L i + (rowAt L i).length
theorem sumTo_mono (L : List (List Int)) {i j : Nat} (h : i ≤ j) : sumTo L i ≤ sumTo L j := by
  induction j with
  | zero => obtain rfl : i = 0 := by omega
            exact Nat.le_refl _
  | succ j ih =>
    by_cases e : i = j + 1
    · rw [e]; exact Nat.le_refl _
    · have := ih (by omega); simp only [sumTo]; omega
def SmallJ (L : List (List Int)) : Prop := L.length ≤ 1048576 ∧ sumTo L L.length ≤ 1048576
theorem SmallJ.at_ {L : List (List Int)} (h : SmallJ L) {i : Nat} (hi : i < L.length) : (rowAt L i).length ≤ 1048576 := by
  have := sumTo_mono L (show i + 1 ≤ L.length by omega)
  simp only [sumTo] at this
  have := h.2
  omega

set_option maxHeartbeats 400000 in
theorem szIntSS_any (v : Value) (L : List (List Int)) (left : Int) (w : World) (h0 : 0 ≤ left) (h1 : left ≤ 1048576) (hr : RdJ w v L) :
    Calls Try.prog 43 #[v, .int .i64 left] w fun e w' => w = w' ∧ ∃ r : Int, e = .returned (.int .i64 r) ∧ (r = -1 ∨ (0 ≤ r ∧ SmallJ L)) := by
  have hm := hr.max
  obtain ⟨a, cap, rfl, -⟩ := hr.len
  obtain ⟨n, hn⟩ : ∃ n, n = L.length := ⟨_, rfl⟩
  have HN := Lib.hid hn
  have HR := Lib.hid hr
  rw [← hn] at hm ⊢
  clear hn hr
  by_cases h : (n : Int) ≤ left
  · go_enter Try.func43, Try.ntmps43
    go_wp2
    go_loopw [1, 5] (fun l i wr => ∃ (k : Nat) (z : Int), k ≤ n ∧ i = .int .i64 k ∧ l = .int .i64 z ∧ 0 ≤ z ∧ z ≤ 1048576 ∧ wr = w ∧ Hid (z + sumTo L k + n = left)) (fun _ i _ => n - (intOf i).toNat)
    case atStart => exact ⟨0, _, Nat.zero_le _, rfl, rfl, by omega, by omega, rfl, Lib.hid (by simp [sumTo])⟩
    case round =>
      obtain ⟨k, z, hk, rfl, rfl, z0, z1, rfl, hall⟩ := hrel
      by_cases hlt : k < n
      · obtain ⟨g, off, u, rfl, hg, hc0, hru⟩ := HR.out.at_ rfl k (by rw [← HN.out]; exact hlt)
        go_wp2_with fail
        refine (szIntS_e _ _ _ _ z0 z1 hru).mono ?_
        rintro e w1 ⟨rfl, r, rfl, hr'⟩
        rcases hr' with rfl | ⟨r0, hr1⟩
        · go_wp2
          go_ret
          exact ⟨rfl, _, rfl, .inl rfl⟩
        · have hall' : Hid (r + sumTo L (k + 1) + n = left) := Lib.hid (by have := hall.out; simp only [sumTo]; omega)
          have r1 : r ≤ 1048576 := by omega
          clear hr1
          go_wp2
          go_roundw
          case rel => exact ⟨k + 1, r, by omega, by go_num, rfl, r0, r1, by first | rfl | trivial, hall'⟩
          case measure => simp [intOf]; omega
      · have : k = n := by omega
        subst this
        go_wp2
        go_ret
        exact ⟨rfl, _, rfl, .inr ⟨z0, by have := HN.out; omega, by have := HN.out; have := hall.out; rw [← HN.out]; omega⟩⟩
  · go_enter Try.func43, Try.ntmps43
    go_wp2
    go_ret
    exact ⟨rfl, _, rfl, .inl rfl⟩

set_option maxHeartbeats 400000 in
theorem toIntSS_any (v : Value) (L : List (List Int)) (w : World) (hz : SmallJ L) (hr : RdJ w v L) :
    Calls Try.prog 45 #[v] w fun e w' => ∃ v', e = .returned v' ∧ OwnJ w' w.heap.size w'.heap.size v' L ∧ Below w.heap.size w w' := by
  obtain ⟨i0, hi, hz0, hz1, hz2⟩ := info_parts Try_info_ints
  have hz3 := hz.1
  obtain ⟨a, cap, hv, -⟩ := hr.len
  obtain ⟨n, hn⟩ : ∃ n, L.length = n := ⟨_, rfl⟩
  have HR := Lib.hid hr
  have HZ := Lib.hid hz
  clear hr hz
  rw [hn] at hv hz3
  subst hv
  have HN := Lib.hid hn
  clear hn
  go_enter Try.func45, Try.ntmps45
  go_wp2_with (refine wpList_make_full _ rfl _ _ 23 rfl w.heap.size 26 i0 (.slice none 0 0) 1 Try.underlying23 hi hz0 hz1 .i64 .i64 _ _ n rfl rfl rfl rfl (by rw [hz2]; omega) (by unfold maxLen; omega) (Nat.le_refl _) ?_; intro w1 hown1 hgrow1)
  have ho0 : OwnJ w1 w.heap.size w1.heap.size (.slice (some ⟨w.heap.size, 0, none⟩) n n) (padJ L n 0) := OwnJ.made hown1
  have hb0 : Below w.heap.size w w1 := (Below.refl _ _).grown hgrow1 (Nat.le_refl _) (fun k h => by cases h)
  clear hown1 hgrow1
  go_loopw [4] (fun i wr => ∃ k : Nat, k ≤ n ∧ i = .int .i64 k ∧ OwnJ wr w.heap.size wr.heap.size (.slice (some ⟨w.heap.size, 0, none⟩) n n) (padJ L n k) ∧ Below w.heap.size w wr ∧ w.heap.size < wr.heap.size) (fun i wr => n - (intOf i).toNat)
  case atStart => exact ⟨0, Nat.zero_le _, rfl, ho0, hb0, (ho0.lt _ rfl).2⟩
  case round =>
    obtain ⟨k, hk, rfl, hown, hbel, hsz⟩ := hrel
    by_cases hlt : k < n
    · obtain ⟨g, off, u, rfl, hg, hc0, hru⟩ := (HR.out.below hbel (Nat.le_refl _)).at_ HN.out.symm k hlt
      have hzk := HZ.out.at_ (i := k) (by rw [HN.out]; exact hlt)
      have HRU := Lib.hid hru
      clear hru
      go_wp2_with fail
      refine (toIntS_i _ _ _ (by omega) HRU.out.rd).mono ?_
      rintro e w1 ⟨u', rfl, ho, hb⟩
      obtain ⟨ad, cap', rfl⟩ := ho.rd.len
      have hsz1 := hb.size
      have hown1 := hown.later hb
      have hP := hown1.put (padJ_len HN.out hk) hlt ho hbel.size (Nat.le_refl _)
      rw [padJ_step HN.out hlt, Nat.max_eq_right hsz1] at hP
      obtain ⟨⟨x0, q0⟩, f0⟩ := hown1.cellAt (padJ_len HN.out hk) k hlt
      have HP := Lib.hid hP
      have hb2 := hbel.trans (hb.mono hbel.size)
      clear hP hown1
      go_wp2
      go_roundw
      case rel => exact ⟨k + 1, by omega, by go_num, by simpa using HP.out.1, hb2.grown HP.out.2 (by omega) (fun j hj => by cases hj; exact Nat.le_refl _), by simp; omega⟩
      case measure => simp [intOf]; omega
    · have : k = n := by omega
      subst this
      go_wp2
      go_ret
      exact ⟨_, rfl, by rw [← padJ_all HN.out]; exact hown, hbel⟩

set_option maxHeartbeats 400000 in
theorem eqIntSS_b (v1 v2 : Value) (L : List (List Int)) (w : World) (h1 : RdJ w v1 L) (h2 : RdJ w v2 L) :
    Calls Try.prog 46 #[v1, v2] w fun e w' => e = .returned (.bool true) ∧ Below w.heap.size w w' := by
  have hm := h1.max
  obtain ⟨a1, c1, rfl, -⟩ := h1.len
  obtain ⟨a2, c2, rfl, -⟩ := h2.len
  obtain ⟨n, hn⟩ : ∃ n, n = L.length := ⟨_, rfl⟩
  have HN := Lib.hid hn
  have H1 := Lib.hid h1
  have H2 := Lib.hid h2
  rw [← hn] at hm ⊢
  clear hn h1 h2
  go_enter Try.func46, Try.ntmps46
  go_wp2
  go_loopw [5] (fun i wr => ∃ k : Nat, k ≤ n ∧ i = .int .i64 k ∧ Below w.heap.size w wr) (fun i wr => n - (intOf i).toNat)
  case atStart => exact ⟨0, Nat.zero_le _, rfl, Below.refl _ _⟩
  case round =>
    obtain ⟨k, hk, rfl, hb⟩ := hrel
    by_cases hlt : k < n
    · obtain ⟨g1, o1, u1, rfl, hg1, p1, hr1⟩ := (H1.out.below hb (Nat.le_refl _)).at_ (by rw [← HN.out]) k (by rw [← HN.out]; exact hlt)
      obtain ⟨g2, o2, u2, rfl, hg2, q1, hr2⟩ := (H2.out.below hb (Nat.le_refl _)).at_ (by rw [← HN.out]) k (by rw [← HN.out]; exact hlt)
      have hr1 := hr1.later (Below.refl _ wr).drew
      have hr2 := hr2.later (Below.refl _ wr).drew
      have hbd := hb.drew
      go_wp2
      go_region_with ((go_at_call 48; refine (eqIntS_b _ _ (rowAt L k) wr.drew hr1.rd hr2.rd).mono ?_; rintro e w' ⟨rfl, hb'⟩))
      all_goals
        go_wp2
        go_roundw
        case rel => exact ⟨k + 1, by omega, by go_num, hbd.trans (hb'.mono hbd.size)⟩
        case measure => simp [intOf]; omega
    · go_wp2
      go_ret
      exact ⟨rfl, hb⟩

/-- The lists with the marks k0, k0 + 1 .. in the first j of them. -/
def midJ (k0 : Int) (L : List (List Int)) (j : Nat) : List (List Int) := (List.range L.length).map fun i => if i < j then markZ (k0 + sumTo L i) (rowAt L i).length else rowAt L i
def markJ (k0 : Int) (L : List (List Int)) : List (List Int) := midJ k0 L L.length
theorem midJ_len (k0 : Int) (L : List (List Int)) (j : Nat) : (midJ k0 L j).length = L.length := by simp [midJ]
theorem rowAt_midJ (k0 : Int) (L : List (List Int)) (j i : Nat) (h : i < L.length) : rowAt (midJ k0 L j) i = if i < j then markZ (k0 + sumTo L i) (rowAt L i).length else rowAt L i := by
  simp [midJ, rowAt, h]
theorem midJ_zero (k0 : Int) (L : List (List Int)) : midJ k0 L 0 = L :=
  rows_ext (midJ_len _ _ _) fun i hi => by rw [rowAt_midJ _ _ _ _ (by rwa [midJ_len] at hi), if_neg (by omega)]

set_option maxHeartbeats 400000 in
theorem markIntSS_any (B C : Nat) (v : Value) (L : List (List Int)) (k0 : Int) (w : World) (h0 : 0 ≤ k0) (h1 : k0 ≤ 1048577) (hz : SmallJ L) (hC : C ≤ w.heap.size) (ho : OwnJ w B C v L) :
    Calls Try.prog 49 #[v, .int .i64 k0] w fun e w' => e = .returned (.int .i64 (k0 + sumTo L L.length)) ∧ OwnJ w' B C v (markJ k0 L) ∧ Kp B C w w' := by
  have hm := ho.rd.max
  obtain ⟨a, cap, rfl⟩ := ho.len
  obtain ⟨n, hn⟩ : ∃ n, n = L.length := ⟨_, rfl⟩
  have HN := Lib.hid hn
  have HO : Hid (OwnJ w B C (.slice a n cap) (midJ k0 L 0)) := Lib.hid (by rw [midJ_zero, hn]; exact ho)
  have HZ := Lib.hid hz
  have hzn : sumTo L n ≤ 1048576 := by rw [hn]; exact hz.2
  unfold markJ
  rw [← hn] at hm ⊢
  clear hn ho hz
  go_enter Try.func49, Try.ntmps49
  go_wp2
  go_loopw [1, 5] (fun t i wr => ∃ j : Nat, j ≤ n ∧ i = .int .i64 j ∧ t = .int .i64 (k0 + sumTo L j) ∧ OwnJ wr B C (.slice a n cap) (midJ k0 L j) ∧ Kp B C w wr) (fun t i wr => n - (intOf i).toNat)
  case atStart => exact ⟨0, Nat.zero_le _, rfl, by simp [sumTo], HO.out, Kp.refl _ _ _⟩
  case round =>
    obtain ⟨j, hj, rfl, rfl, hown, hkp⟩ := hrel
    by_cases hlt : j < n
    · have hsj := sumTo_mono L (show j + 1 ≤ n by omega)
      simp only [sumTo] at hsj
      have hlen : (midJ k0 L j).length = n := by rw [midJ_len, HN.out]
      obtain ⟨us, o1, o2, o3, o4⟩ := hown
      rw [hlen] at o1 o3 o4
      have hrow : rowAt (midJ k0 L j) j = rowAt L j := by rw [rowAt_midJ _ _ _ _ (by rw [← HN.out]; exact hlt), if_neg (by omega)]
      have o3j := o3 j hlt
      rw [hrow] at o3j
      obtain ⟨g, cap', rfl⟩ : ∃ g cap', a = some ⟨g, 0, none⟩ := by
        rcases o1.2 with ⟨hv, hn0⟩ | ⟨g, cap', cur, hv, -⟩
        · omega
        · simp only [Value.slice.injEq] at hv; exact ⟨g, 0, hv.1⟩
      have hcell : wr.cell? ⟨g, j, none⟩ = some (us j) := by rw [o1.cellAt j (by omega)]; simp [hlt]
      have O1 := Lib.hid o1
      have O2 := Lib.hid o2
      have O3 := Lib.hid o3
      have O4 := Lib.hid o4
      have HR := Lib.hid hrow
      have HL := Lib.hid hlen
      clear o1 o2 o3 o4 hrow hlen
      go_wp2_with fail
      refine (markIntS_i B C _ (rowAt L j) _ _ (by omega) (by omega) (by omega) o3j).mono ?_
      rintro e w1 ⟨rfl, ho', hk', hg'⟩
      have hown' : Hid (OwnJ w1 B C (.slice (some ⟨g, 0, none⟩) n cap) (midJ k0 L (j + 1))) := Lib.hid (by
        have hl1 : (midJ k0 L (j + 1)).length = n := by rw [midJ_len, HN.out]
        refine ⟨us, ?_, O2.out, ?_, ?_⟩
        · rw [hl1]
          exact O1.out.kept hg' (row_apart O1.out o3j.1 (by decide))
        · rw [hl1]
          intro i hi
          rw [rowAt_midJ _ _ _ _ (by rw [← HN.out]; exact hi)]
          by_cases he : i = j
          · subst he
            rw [if_pos (by omega)]
            exact ho'
          · have hi3 := O3.out i hi
            rw [rowAt_midJ _ _ _ _ (by rw [← HN.out]; exact hi)] at hi3
            have e1 : (i < j + 1) = (i < j) := by apply propext; omega
            simp only [e1]
            exact ⟨hi3.1.kept hg' (O4.out i j hi hlt he), hi3.2⟩
        · rw [hl1]
          exact O4.out)
      have hkp' := hkp.trans hk'
      clear ho' hk' hg' o3j
      go_wp2
      go_roundw
      case rel => exact ⟨j + 1, by omega, by go_num, by simp only [sumTo]; go_num, hown'.out, hkp'⟩
      case measure => simp [intOf]; omega
    · have : j = n := by omega
      subst this
      go_wp2
      go_ret
      exact ⟨rfl, hown, hkp⟩

end Go.Proofs.Ytpmdjdlojbpcfaa
