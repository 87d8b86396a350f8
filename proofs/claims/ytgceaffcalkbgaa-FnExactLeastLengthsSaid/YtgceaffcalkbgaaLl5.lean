/- Chapter 4: the model's new table. -/
import Derived.Test.YtgceaffcalkbgaaLl4
namespace Go.Proofs.Ytgceaffcalkbgaa
open Go.RowKit
set_option linter.unusedSimpArgs false
set_option linter.unusedVariables false

def zrow (n : Nat) : List Int := List.replicate (n + 1) 0
def zlev (n k : Nat) : List (List Int) := List.replicate k (zrow n)
theorem rowAt_zlev {n k i : Nat} (h : i < k) : rowAt (zlev n k) i = zrow n := by simp [rowAt, zlev, h]
theorem zlev_more (n k : Nat) : zlev n k ++ [zrow n] = zlev n (k + 1) := by simp [zlev, List.replicate_succ']
theorem Own.zeros {w w1 : World} {B n : Nat} (h : w1.ownsRow B 3 1 (.slice (some ⟨w.heap.size, 0, none⟩) n n) n (madeCells (Value.int .i64 0).cells (n * 1)).toList) :
    Own w1 B (.slice (some ⟨w.heap.size, 0, none⟩) n n) (List.replicate n 0) := by
  unfold Own
  rw [List.length_replicate]
  have e : (madeCells (Value.int IntKind.i64 0).cells (n * 1)).toList = (List.replicate n (0 : Int)).map (Value.int .i64) := by
    rw [Nat.mul_one]
    have := toList_madeCells_one (.int .i64 0) n
    simpa [Value.cells] using this
  rw [← e]; exact h
/-- The levels so far. -/
structure Lv (w : World) (b t : Nat) (S : List Int) (R lim k : Nat) (kv : Value) (vs : Nat → Value) (Bl : Nat → Nat) : Prop where
  bt : b < t
  c0 : w.cell? ⟨t, 0, none⟩ = some (.slice (some ⟨b, 0, none⟩) (S.length + 1) (S.length + 1))
  c1 : w.cell? ⟨t, 1, none⟩ = some (.int .i64 (R : Int))
  c2 : w.cell? ⟨t, 2, none⟩ = some (.int .i64 (lim : Int))
  c3 : w.cell? ⟨t, 3, none⟩ = some kv
  fz : w.frozen? ⟨t, 3, none⟩ = false
  rs : ∀ i, i ≤ S.length → w.cell? ⟨b, i, none⟩ = some (.int .i64 (rest S i))
  kr : w.ownsRow (t + 1) 42 1 kv k ((List.range k).map vs)
  lo : ∀ l, t + 1 ≤ Bl l
  mo : ∀ l l', l < l' → l' ≤ k → Bl (l + 1) ≤ Bl l'
  hi : ∀ l, l ≤ k → Bl l ≤ w.heap.size
  lv : ∀ l, l < k → OwnJ w (Bl l) (Bl (l + 1)) (vs l) (zlev S.length (S.length + 1))
theorem Lv.later {w w' : World} {b t : Nat} {S : List Int} {R lim k : Nat} {kv : Value} {vs : Nat → Value} {Bl : Nat → Nat} (h : Lv w b t S R lim k kv vs Bl) (hb : Below w.heap.size w w') : Lv w' b t S R lim k kv vs Bl := by
  have hh : ∀ (p : Addr) (v : Value), w.cell? p = some v → w'.cell? p = some v := fun p v hp => by rw [hb.cell (p := p) (World.block_lt_of_cell? w _ hp)]; exact hp
  exact ⟨h.bt, hh _ _ h.c0, hh _ _ h.c1, hh _ _ h.c2, hh _ _ h.c3, by rw [hb.frozen (p := ⟨t, 3, none⟩) (World.block_lt_of_cell? w _ h.c3)]; exact h.fz, fun i hi => hh _ _ (h.rs i hi), row_at h.kr fun k hk => hb.block k (h.kr.lt k hk).2,
    h.lo, h.mo, fun l hl => Nat.le_trans (h.hi l hl) hb.size, fun l hl => (h.lv l hl).later hb⟩
theorem Lv.kept {w w' : World} {b t : Nat} {S : List Int} {R lim k : Nat} {kv : Value} {vs : Nat → Value} {Bl : Nat → Nat} (h : Lv w b t S R lim k kv vs Bl) {kv' : Value} {Bk : Nat} {u : Value}
    (hn : w'.ownsRow (t + 1) 42 1 kv' (k + 1) ((List.range (k + 1)).map fun i => if i < k then vs i else u)) (hg : w.grownBy w' kv.ownBlock)
    (hu : OwnJ w Bk w.heap.size u (zlev S.length (S.length + 1))) (hB : t + 1 ≤ Bk) (hB2 : ∀ l, l ≤ k → Bl l ≤ Bk) :
    Lv (w'.setCell ⟨t, 3, none⟩ kv') b t S R lim (k + 1) kv' (fun i => if i < k then vs i else u) (fun l => if l < k then Bl l else if l = k then Bk else w.heap.size) := by
  have hne : ∀ x, x ≤ t → some x ≠ kv.ownBlock := fun x hx e => by have := (h.kr.lt x e.symm).1; omega
  have hc : ∀ (x i : Nat) (v : Value), x ≤ t → w.cell? ⟨x, i, none⟩ = some v → w'.cell? ⟨x, i, none⟩ = some v := fun x i v hx hv => hg.cell hv (hne x hx)
  have hKp : Kp t (t + 1) w' (w'.setCell ⟨t, 3, none⟩ kv') := (Kp.refl _ _ _).setCell (by constructor <;> show _ <;> simp) _
  have hset : ∀ (i : Nat) (v : Value), i ≠ 3 → w'.cell? ⟨t, i, none⟩ = some v → (w'.setCell ⟨t, 3, none⟩ kv').cell? ⟨t, i, none⟩ = some v := fun i v hi hv => by
    rw [World.cell?_setCell_other (h := fun he => hi (by injection he with _ e _; exact e.symm))]; exact hv
  have hbk : Bk ≤ w.heap.size := by
    obtain ⟨us, r1, -⟩ := hu
    rcases r1.2 with ⟨-, hz⟩ | ⟨g, _, _, hv, hgB, hgh, -⟩
    · simp [zlev] at hz
    · have := (Array.getElem?_eq_some_iff.1 hgh).1; omega
  have hs := hg.size
  refine ⟨h.bt, hset 0 _ (by decide) (hc _ _ _ (Nat.le_refl _) h.c0), hset 1 _ (by decide) (hc _ _ _ (Nat.le_refl _) h.c1), hset 2 _ (by decide) (hc _ _ _ (Nat.le_refl _) h.c2), setc_same (hc _ _ _ (Nat.le_refl _) h.c3), ?_, ?_, ?_, ?_, ?_, ?_, ?_⟩
  · rw [World.frozen?_setCell, World.frozen?_of_block (hg.block t (World.block_lt_of_cell? w _ h.c3) (hne t (Nat.le_refl _)))]; exact h.fz
  · intro i hi
    have hbt := h.bt
    rw [setc_far (by omega)]
    exact hc b i _ (by omega) (h.rs i hi)
  · exact row_at hn fun k' hk' => hKp.block k' (hn.lt k' hk').2 (by have := (hn.lt k' hk').1; omega)
  · intro l
    have := h.lo l
    show t + 1 ≤ if l < k then Bl l else if l = k then Bk else w.heap.size
    split
    · omega
    · split <;> omega
  · intro l l' hl hl'
    show (if l + 1 < k then Bl (l + 1) else if l + 1 = k then Bk else w.heap.size) ≤ if l' < k then Bl l' else if l' = k then Bk else w.heap.size
    by_cases e1 : l' < k
    · rw [if_pos (by omega), if_pos e1]; exact h.mo l l' hl (by omega)
    · rw [if_neg e1]
      by_cases e2 : l' = k
      · rw [if_pos e2]
        by_cases e3 : l + 1 < k
        · rw [if_pos e3]; exact hB2 _ (by omega)
        · rw [if_neg e3, if_pos (by omega)]; exact Nat.le_refl _
      · rw [if_neg e2]
        by_cases e3 : l + 1 < k
        · rw [if_pos e3]; exact h.hi _ (by omega)
        · rw [if_neg e3]
          split <;> omega
  · intro l hl
    show (if l < k then Bl l else if l = k then Bk else w.heap.size) ≤ _
    rw [World.size_setCell]
    have := h.hi l
    split
    · have := this (by omega); omega
    · split <;> omega
  · intro l hl
    show OwnJ _ (if l < k then Bl l else if l = k then Bk else w.heap.size) (if l + 1 < k then Bl (l + 1) else if l + 1 = k then Bk else w.heap.size) (if l < k then vs l else u) _
    by_cases e : l < k
    · rw [if_pos e, if_pos e]
      have h1 := ((h.lv l e).kept_row h.kr hg).kept hKp (.inr (h.lo l))
      refine h1.wide (Nat.le_refl _) ?_
      by_cases e3 : l + 1 < k
      · rw [if_pos e3]; exact Nat.le_refl _
      · rw [if_neg e3, if_pos (by omega)]; exact hB2 _ (by omega)
    · obtain rfl : l = k := by omega
      rw [if_neg e, if_neg e, if_pos rfl, if_neg (by omega), if_neg (by omega)]
      exact (hu.kept_row h.kr hg).kept hKp (.inr hB)

theorem Lv.start {w : World} {b t : Nat} {S : List Int} {R lim : Nat} (hbt : b < t) (ht : t < w.heap.size) (c0 : w.cell? ⟨t, 0, none⟩ = some (.slice (some ⟨b, 0, none⟩) (S.length + 1) (S.length + 1)))
    (c1 : w.cell? ⟨t, 1, none⟩ = some (.int .i64 (R : Int))) (c2 : w.cell? ⟨t, 2, none⟩ = some (.int .i64 (lim : Int))) (c3 : w.cell? ⟨t, 3, none⟩ = some (.slice none 0 0)) (fz : w.frozen? ⟨t, 3, none⟩ = false)
    (rs : Own w 0 (.slice (some ⟨b, 0, none⟩) (S.length + 1) (S.length + 1)) (restL S 0)) : Lv w b t S R lim 0 (.slice none 0 0) (fun _ => .slice none 0 0) (fun _ => w.heap.size) := by
  refine ⟨hbt, c0, c1, c2, c3, fz, ?_, World.ownsRow_nil _ _ _ _, fun l => ht, fun l l' hl hl' => Nat.le_refl _, fun l hl => Nat.le_refl _, fun l hl => absurd hl (by omega)⟩
  intro i hi
  have h' : w.ownsRow 0 3 1 (.slice (some ⟨b, 0, none⟩) (S.length + 1) (S.length + 1)) (S.length + 1) ((restL S 0).map (Value.int .i64)) := by
    have := rs; unfold Own at this; rw [restL_len] at this; exact this
  rw [h'.cellAt i (by omega), List.getElem?_map, restL_at hi (Nat.zero_le _)]
  rfl
theorem own_some {w : World} {B : Nat} {v : Value} {n : Nat} (h : Own w B v (zrow n)) : ∃ g cap, v = .slice (some ⟨g, 0, none⟩) (n + 1) cap := by
  have h' := h
  unfold Own at h'
  rcases h'.2 with ⟨-, hz⟩ | ⟨g, cap, _, hv, _⟩
  · simp [zrow] at hz
  · exact ⟨g, cap, by rw [hv]; simp [zrow]⟩
/-- What a level has. -/
theorem lev_parts {w : World} {B C : Nat} {v : Value} {n : Nat} (h : OwnJ w B C v (zlev n (n + 1))) :
    ∃ (L cl : Nat) (G cG : Nat → Nat), v = .slice (some ⟨L, 0, none⟩) (n + 1) cl ∧ w.ownsRow B 23 1 v (n + 1) ((List.range (n + 1)).map fun i => .slice (some ⟨G i, 0, none⟩) (n + 1) (cG i)) ∧
      (∀ i, i ≤ n → Own w B (.slice (some ⟨G i, 0, none⟩) (n + 1) (cG i)) (zrow n) ∧ B ≤ G i ∧ G i < C) ∧ ∀ i j, i ≤ n → j ≤ n → G i = G j → i = j := by
  obtain ⟨us, h1, h2, h3, h4⟩ := h
  have hl : (zlev n (n + 1)).length = n + 1 := by simp [zlev]
  rw [hl] at h1 h3 h4
  have hv : ∃ L cl, v = .slice (some ⟨L, 0, none⟩) (n + 1) cl := by
    rcases h1.2 with ⟨-, hz⟩ | ⟨g, cap, _, hv, _⟩
    · omega
    · exact ⟨g, cap, hv⟩
  obtain ⟨L, cl, hv⟩ := hv
  have hu : ∀ i, ∃ p : Nat × Nat, i ≤ n → us i = .slice (some ⟨p.1, 0, none⟩) (n + 1) p.2 := fun i => by
    by_cases e : i ≤ n
    · have h5 := (h3 i (by omega)).1
      rw [rowAt_zlev (by omega)] at h5
      obtain ⟨g, cap, h6⟩ := own_some h5
      exact ⟨(g, cap), fun _ => h6⟩
    · exact ⟨(0, 0), fun h => absurd h e⟩
  obtain ⟨f, hf⟩ := Classical.axiomOfChoice hu
  refine ⟨L, cl, fun i => (f i).1, fun i => (f i).2, hv, ?_, ?_, ?_⟩
  · have e : (List.range (n + 1)).map us = (List.range (n + 1)).map fun i => .slice (some ⟨(f i).1, 0, none⟩) (n + 1) (f i).2 := by
      apply List.map_congr_left
      intro i hi
      rw [List.mem_range] at hi
      exact hf i (by omega)
    rw [← e]; exact h1
  · intro i hi
    have h5 := h3 i (by omega)
    rw [rowAt_zlev (by omega), hf i hi] at h5
    exact ⟨h5.1, (h5.1.lt _ rfl).1, h5.2 _ rfl⟩
  · intro i j hi hj e
    by_cases hne : i = j
    · exact hne
    · exfalso
      have := h4 i j (by omega) (by omega) hne
      rw [hf i hi, hf j hj] at this
      simp [Value.ownBlock] at this
      exact this e
theorem rows_ne {w : World} {B B' : Nat} {e e' : TypeId} {s s' : Nat} {v v' : Value} {n n' b b' : Nat} {xs xs' : List Value} (h : w.ownsRow B e s v n xs) (h' : w.ownsRow B' e' s' v' n' xs') (hne : e ≠ e') (hb : v.ownBlock = some b) (hb' : v'.ownBlock = some b') : b ≠ b' := by
  intro he
  rcases row_apart h h' hne with h0 | h0
  · rw [hb] at h0; cases h0
  · rw [hb, hb', he] at h0; exact h0 rfl
theorem Lv.done {w : World} {b t : Nat} {S : List Int} {R lim : Nat} {kv : Value} {vs : Nat → Value} {Bl : Nat → Nat} {B : Nat} (h : Lv w b t S R lim (lim + 1) kv vs Bl) (hB : B ≤ t) : ∃ A, Tb w t S R lim B w.heap.size A := by
  have hk : ∃ gk ck, kv = .slice (some ⟨gk, 0, none⟩) (lim + 1) ck := by
    rcases h.kr.2 with ⟨-, hz⟩ | ⟨g, cap, _, hv, _⟩
    · omega
    · exact ⟨g, cap, hv⟩
  obtain ⟨gk, ck, hkv⟩ := hk
  have hp : ∀ l, ∃ p : (Nat × Nat) × ((Nat → Nat) × (Nat → Nat)), l ≤ lim → (vs l = .slice (some ⟨p.1.1, 0, none⟩) (S.length + 1) p.1.2 ∧ w.ownsRow (Bl l) 23 1 (vs l) (S.length + 1) ((List.range (S.length + 1)).map fun i => .slice (some ⟨p.2.1 i, 0, none⟩) (S.length + 1) (p.2.2 i)) ∧
      (∀ i, i ≤ S.length → Own w (Bl l) (.slice (some ⟨p.2.1 i, 0, none⟩) (S.length + 1) (p.2.2 i)) (zrow S.length) ∧ Bl l ≤ p.2.1 i ∧ p.2.1 i < Bl (l + 1)) ∧ ∀ i j, i ≤ S.length → j ≤ S.length → p.2.1 i = p.2.1 j → i = j) := fun l => by
    by_cases e : l ≤ lim
    · obtain ⟨L, cl, G, cG, h1⟩ := lev_parts (h.lv l (by omega))
      exact ⟨((L, cl), (G, cG)), fun _ => h1⟩
    · exact ⟨((0, 0), (fun _ => 0, fun _ => 0)), fun h => absurd h e⟩
  obtain ⟨f, hf⟩ := Classical.axiomOfChoice hp
  have kr := h.kr
  rw [hkv] at kr
  refine ⟨⟨b, gk, ck, fun l => (f l).1.1, fun l => (f l).1.2, fun l i => (f l).2.1 i, fun l i => (f l).2.2 i⟩, ⟨h.c0, h.c1, h.c2, by rw [h.c3, hkv], h.rs, ?_, ?_, ?_, ?_, ?_, ?_⟩, ?_⟩
  · intro l hl
    show w.cell? ⟨gk, l, none⟩ = some (.slice (some ⟨(f l).1.1, 0, none⟩) (S.length + 1) (f l).1.2)
    rw [kr.cellAt l (by omega), List.getElem?_map, List.getElem?_range (by omega), ← (hf l hl).1]
    rfl
  · intro l i hl hi
    show w.cell? ⟨(f l).1.1, i, none⟩ = some (.slice (some ⟨(f l).2.1 i, 0, none⟩) (S.length + 1) ((f l).2.2 i))
    have h1 := (hf l hl).2.1
    rw [(hf l hl).1] at h1
    rw [h1.cellAt i (by omega), List.getElem?_map, List.getElem?_range (by omega)]
    rfl
  · intro l i l' i' hl hi hl' hi' e
    have a1 := ((hf l hl).2.2.1 i hi).2
    have a2 := ((hf l' hl').2.2.1 i' hi').2
    simp only at e
    by_cases e1 : l = l'
    · subst e1
      exact ⟨rfl, (hf l hl).2.2.2 i i' hi hi' e⟩
    · exfalso
      rcases Nat.lt_or_gt_of_ne e1 with h1 | h1
      · have := h.mo l l' h1 (by omega); omega
      · have := h.mo l' l h1 (by omega); omega
  · intro l i hl hi
    obtain ⟨o1, a1, a2⟩ := (hf l hl).2.2.1 i hi
    have hlo := h.lo l
    have hbt := h.bt
    simp only
    refine ⟨by omega, by omega, rows_ne o1 kr (by decide) rfl rfl, fun l' hl' => ?_⟩
    have h1 := (hf l' hl').2.1
    rw [(hf l' hl').1] at h1
    exact rows_ne o1 h1 (by decide) rfl rfl
  · intro l i hl hi
    obtain ⟨o1, a1, a2⟩ := (hf l hl).2.2.1 i hi
    have hlo := h.lo l
    simp only
    exact ⟨by omega, (o1.lt _ rfl).2⟩
  · refine ⟨World.block_lt_of_cell? w _ h.c0, World.block_lt_of_cell? w _ (h.rs 0 (Nat.zero_le _)), (kr.lt _ rfl).2, fun l hl => ?_⟩
    have h1 := (hf l hl).2.1
    rw [(hf l hl).1] at h1
    exact (h1.lt _ rfl).2
  · intro l i f' hl hi hf'
    obtain ⟨o1, a1, a2⟩ := (hf l hl).2.2.1 i hi
    have o2 := o1
    unfold Own at o2
    rw [show (zrow S.length).length = S.length + 1 by simp [zrow]] at o2
    refine ⟨0, ?_, o2.frozenAt f', .inl rfl⟩
    show w.cell? ⟨(f l).2.1 i, f', none⟩ = _
    rw [o2.cellAt f' (by omega), List.getElem?_map]
    simp [zrow, show f' < S.length + 1 by omega]
end Go.Proofs.Ytgceaffcalkbgaa
