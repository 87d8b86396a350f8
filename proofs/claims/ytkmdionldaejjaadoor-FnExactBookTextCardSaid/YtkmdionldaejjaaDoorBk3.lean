/- Slices of phrases that the call itself made, with slices of its own inside; the laws' copies of phrases and books, and their look whether two are alike. -/
import Derived.Test.YtkmdionldaejjaaDoorBk2
import Derived.Deep.RegionWith
namespace Go.Proofs.YtkmdionldaejjaaDoor
open Go.RowKit
set_option linter.unusedSimpArgs false
set_option linter.unusedVariables false

def flat2 (n : Nat) (f g : Nat → Value) : List Value := (List.range n).flatMap fun i => [f i, g i]
theorem flat2_succ (n : Nat) (f g : Nat → Value) : flat2 (n + 1) f g = flat2 n f g ++ [f n, g n] := by simp [flat2, List.range_succ]
theorem flat2_len (n : Nat) (f g : Nat → Value) : (flat2 n f g).length = n * 2 := by
  induction n with
  | zero => rfl
  | succ n ih => rw [flat2_succ, List.length_append, ih]; simp; omega
theorem flat2_get (n : Nat) (f g : Nat → Value) (j : Nat) : (flat2 n f g)[j]? = if j < n * 2 then some (if j % 2 = 0 then f (j / 2) else g (j / 2)) else none := by
  induction n with
  | zero => simp [flat2]
  | succ n ih =>
    rw [flat2_succ, List.getElem?_append, flat2_len]
    by_cases h : j < n * 2
    · rw [if_pos h, ih, if_pos h, if_pos (show j < (n + 1) * 2 by omega)]
    · rw [if_neg h]
      by_cases h0 : j = n * 2
      · subst h0
        rw [if_pos (by omega), Nat.sub_self, if_pos (by omega), show n * 2 / 2 = n by omega]
        rfl
      · by_cases h1 : j = n * 2 + 1
        · subst h1
          rw [if_pos (by omega), show n * 2 + 1 - n * 2 = 1 by omega, if_neg (by omega), show (n * 2 + 1) / 2 = n by omega]
          rfl
        · rw [if_neg (by omega)]
          apply List.getElem?_eq_none
          simp; omega
theorem flat2_even (n : Nat) (f g : Nat → Value) (i : Nat) (h : i < n) : (flat2 n f g)[i * 2]? = some (f i) := by
  rw [flat2_get, if_pos (by omega), if_pos (by omega), show i * 2 / 2 = i by omega]
theorem flat2_odd (n : Nat) (f g : Nat → Value) (i : Nat) (h : i < n) : (flat2 n f g)[i * 2 + 1]? = some (g i) := by
  rw [flat2_get, if_pos (by omega), if_neg (by omega), show (i * 2 + 1) / 2 = i by omega]
theorem flat2_congr (n : Nat) (f g f' g' : Nat → Value) (h : ∀ i, i < n → f i = f' i ∧ g i = g' i) : flat2 n f g = flat2 n f' g' := by
  apply List.ext_getElem?
  intro j
  rw [flat2_get, flat2_get]
  by_cases hj : j < n * 2
  · rw [if_pos hj, if_pos hj, (h (j / 2) (by omega)).1, (h (j / 2) (by omega)).2]
  · rw [if_neg hj, if_neg hj]
theorem flat2_set (n : Nat) (f g : Nat → Value) (k : Nat) (a b : Value) (hk : k < n) :
    ((flat2 n f g).set (k * 2) a).set (k * 2 + 1) b = flat2 n (fun i => if i = k then a else f i) (fun i => if i = k then b else g i) := by
  apply List.ext_getElem?
  intro j
  simp only [List.getElem?_set, List.length_set, flat2_len, flat2_get]
  by_cases h1 : k * 2 + 1 = j
  · subst h1
    rw [if_pos rfl, if_pos (by omega), if_pos (by omega), if_neg (by omega), if_pos (by omega)]
  · by_cases h0 : k * 2 = j
    · subst h0
      rw [if_neg h1, if_pos rfl, if_pos (by omega), if_pos (by omega), if_pos (by omega), if_pos (by omega)]
    · rw [if_neg h1, if_neg h0]
      by_cases hj : j < n * 2
      · rw [if_pos hj, if_pos hj]
        by_cases he : j % 2 = 0
        · rw [if_pos he, if_pos he, if_neg (by omega)]
        · rw [if_neg he, if_neg he, if_neg (by omega)]
      · rw [if_neg hj, if_neg hj]

/-- v owns, among the blocks from B on, the phrases ps, and each phrase a slice of its own. -/
def OwnPs (w : World) (B : Nat) (v : Value) (ps : List Ph) : Prop :=
  ∃ us : Nat → Value, w.ownsRow B 58 2 v ps.length (flat2 ps.length (fun i => .string (phAt ps i).txt) us) ∧
    (∀ i, i < ps.length → (phAt ps i).txt.size ≤ maxLen ∧ Own w B (us i) (phAt ps i).sig) ∧
    ∀ i j, i < ps.length → j < ps.length → i ≠ j → (us i).ownBlock = none ∨ (us i).ownBlock ≠ (us j).ownBlock

theorem rows_apart {w : World} {B B' : Nat} {e e' : TypeId} {s s' : Nat} {v v' : Value} {n n' : Nat} {xs xs' : List Value} (h : w.ownsRow B e s v n xs) (h' : w.ownsRow B' e' s' v' n' xs') (hne : e ≠ e') : v.ownBlock = none ∨ v.ownBlock ≠ v'.ownBlock := by
  rcases h.2 with ⟨rfl, -⟩ | ⟨g, cap, cur, rfl, -, hg, -⟩
  · exact .inl rfl
  · rcases h'.2 with ⟨rfl, -⟩ | ⟨g', cap', cur', rfl, -, hg', -⟩
    · exact .inr (by simp [Value.ownBlock])
    · refine .inr fun e1 => ?_
      have : g = g' := by simpa [Value.ownBlock] using e1
      subst this
      rw [hg] at hg'
      simp at hg'
      exact hne hg'.2
theorem row_below {w w' : World} {B C : Nat} {e : TypeId} {s n : Nat} {v : Value} {xs : List Value} (h : w.ownsRow B e s v n xs) (hb : Below C w w') (hC : ∀ k, v.ownBlock = some k → k < C) : w'.ownsRow B e s v n xs := by
  obtain ⟨h1, h2⟩ := h
  refine ⟨h1, ?_⟩
  rcases h2 with h2 | ⟨g, cap, cur, hv, hg, hh, r⟩
  · exact .inl h2
  · exact .inr ⟨g, cap, cur, hv, hg, by rw [hb.block g (hC g (by rw [hv]; rfl))]; exact hh, r⟩
theorem OwnPs.below {w w' : World} {B C : Nat} {v : Value} {ps : List Ph} (h : OwnPs w B v ps) (hb : Below C w w') (hC : w.heap.size ≤ C) : OwnPs w' B v ps := by
  obtain ⟨us, h1, h2, h3⟩ := h
  exact ⟨us, row_below h1 hb (fun k hk => by have := (h1.lt k hk).2; omega), fun i hi => ⟨(h2 i hi).1, (h2 i hi).2.below hb (fun k hk => by have := ((h2 i hi).2.lt k hk).2; omega)⟩, h3⟩
theorem OwnPs.later {w w' : World} {B : Nat} {v : Value} {ps : List Ph} (h : OwnPs w B v ps) (hb : Below w.heap.size w w') : OwnPs w' B v ps := h.below hb (Nat.le_refl _)
theorem OwnPs.nil (w : World) (B : Nat) : OwnPs w B (.slice none 0 0) [] :=
  ⟨fun _ => .slice none 0 0, World.ownsRow_nil _ _ _ _, fun i hi => absurd hi (by simp), fun i j hi => absurd hi (by simp)⟩
theorem OwnPs.base {w : World} {B B' : Nat} {v : Value} {ps : List Ph} (h : OwnPs w B v ps) (hB : B' ≤ B) : OwnPs w B' v ps := by
  obtain ⟨us, ⟨h1, h1'⟩, h2, h3⟩ := h
  refine ⟨us, ⟨h1, ?_⟩, fun i hi => ⟨(h2 i hi).1, (h2 i hi).2.base hB⟩, h3⟩
  rcases h1' with h1' | ⟨g, cap, cur, hv, hg, r⟩
  · exact .inl h1'
  · exact .inr ⟨g, cap, cur, hv, by omega, r⟩
theorem OwnPs.lt {w : World} {B : Nat} {v : Value} {ps : List Ph} (h : OwnPs w B v ps) : ∀ k, v.ownBlock = some k → B ≤ k ∧ k < w.heap.size := by
  obtain ⟨us, h1, -⟩ := h
  exact h1.lt
theorem OwnPs.rd {w : World} {B : Nat} {v : Value} {ps : List Ph} (h : OwnPs w B v ps) : RdPs w v ps := by
  obtain ⟨us, h1, h2, h3⟩ := h
  have h1' := h1
  rcases h1.2 with ⟨rfl, hn⟩ | ⟨g, cap, cur, rfl, hg, hh, hc, hm, hcs, ht⟩
  · exact .inl ⟨List.eq_nil_of_length_eq_zero hn, _, _, by rfl, fun _ => rfl⟩
  · refine .inr ⟨g, 0, cap, rfl, (Array.getElem?_eq_some_iff.1 hh).1, hc, hm, fun i hi => ⟨(h2 i hi).1, ?_, us i, ?_, (h2 i hi).2.rdc⟩⟩
    · rw [Nat.zero_add, h1'.cellAt (i * 2) (by omega), flat2_even _ _ _ _ hi]
    · rw [Nat.zero_add, h1'.cellAt (i * 2 + 1) (by omega), flat2_odd _ _ _ _ hi]
theorem phAt_set {ps : List Ph} {k : Nat} {p : Ph} (hk : k < ps.length) (i : Nat) : phAt (ps.set k p) i = if i = k then p else phAt ps i := by
  unfold phAt
  rw [List.getElem?_set]
  by_cases h : k = i
  · subst h; simp [hk]
  · rw [if_neg h, if_neg (Ne.symm h)]
/-- A phrase with a new slice of its own is stored in its place. -/
theorem OwnPs.put {w0 w : World} {B g n cap k : Nat} {ps : List Ph} {p : Ph} {u : Value} (h : OwnPs w0 B (.slice (some ⟨g, 0, none⟩) n cap) ps) (hn : ps.length = n) (hk : k < n) (hb : Below w0.heap.size w0 w)
    (hu : Own w w0.heap.size u p.sig) (hs : p.txt.size ≤ maxLen) (hB : B ≤ w0.heap.size) :
    OwnPs ((w.setCell ⟨g, k * 2, none⟩ (.string p.txt)).setCell ⟨g, k * 2 + 1, none⟩ u) B (.slice (some ⟨g, 0, none⟩) n cap) (ps.set k p) ∧
      w.grownBy ((w.setCell ⟨g, k * 2, none⟩ (.string p.txt)).setCell ⟨g, k * 2 + 1, none⟩ u) (some g) := by
  obtain ⟨us, h1, h2, h3⟩ := h
  have hgl := h1.lt g rfl
  have h1 := row_below h1 hb (fun j hj => (h1.lt j hj).2)
  rw [hn] at h1
  obtain ⟨s1, g1⟩ := h1.stored (k * 2) (.string p.txt)
  obtain ⟨s2, g2⟩ := s1.stored (k * 2 + 1) u
  have gg := g1.trans g2
  rw [flat2_set _ _ _ _ _ _ hk] at s2
  refine ⟨⟨fun i => if i = k then u else us i, ?_, ?_, ?_⟩, gg⟩
  · rw [List.length_set, hn]
    rw [flat2_congr n _ _ (fun i => if i = k then .string p.txt else .string (phAt ps i).txt) (fun i => if i = k then u else us i)]
    · exact s2
    · intro i hi
      refine ⟨?_, rfl⟩
      show Value.string (phAt (ps.set k p) i).txt = _
      rw [phAt_set (by omega)]
      split <;> rfl
  · intro i hi
    rw [List.length_set] at hi
    rw [phAt_set (by omega)]
    by_cases he : i = k
    · rw [if_pos he]
      simp only [if_pos he]
      exact ⟨hs, (hu.kept gg (rows_apart hu h1 (by decide))).base hB⟩
    · rw [if_neg he]
      simp only [if_neg he]
      have h2i := (h2 i hi).2.below hb (fun j hj => ((h2 i hi).2.lt j hj).2)
      exact ⟨(h2 i hi).1, h2i.kept gg (rows_apart h2i h1 (by decide))⟩
  · intro i j hi hj hne
    rw [List.length_set] at hi hj
    show (if i = k then u else us i).ownBlock = none ∨ (if i = k then u else us i).ownBlock ≠ (if j = k then u else us j).ownBlock
    by_cases he : i = k
    · rw [if_pos he, if_neg (by omega)]
      cases hub : u.ownBlock with
      | none => exact .inl rfl
      | some b =>
        refine .inr fun e => ?_
        have a1 := (hu.lt b hub).1
        have a2 := ((h2 j hj).2.lt b e.symm).2
        omega
    · rw [if_neg he]
      by_cases hf : j = k
      · rw [if_pos hf]
        cases hub : (us i).ownBlock with
        | none => exact .inl rfl
        | some b =>
          refine .inr fun e => ?_
          have a1 := (hu.lt b e.symm).1
          have a2 := ((h2 i hi).2.lt b hub).2
          omega
      · rw [if_neg hf]
        exact h3 i j hi hj hne

theorem Tryd_info_phrase : (Tryd.prog.info? 58).map (fun i => (i.zero, i.size, i.bytes)) = some (some (.agg #[.string ByteArray.empty, .slice none 0 0]), 2, 40) := by kernel_rfl

theorem made_phrases (n : Nat) : (madeCells (Value.agg #[.string ByteArray.empty, .slice none 0 0]).cells (n * 2)).toList = flat2 n (fun _ => .string ByteArray.empty) (fun _ => .slice none 0 0) := by
  apply List.ext_getElem?
  intro j
  rw [flat2_get]
  by_cases hj : j < n * 2
  · rw [if_pos hj]
    by_cases he : j % 2 = 0
    · simp [madeCells, hj, he, Value.cells]
    · have h1 : j % 2 = 1 := by omega
      simp [madeCells, hj, h1, Value.cells]
  · rw [if_neg hj]
    simp [madeCells, hj]
/-- The first k phrases, and empty ones behind. -/
def padPs (ps : List Ph) (n k : Nat) : List Ph := ps.take k ++ List.replicate (n - k) default
theorem padPs_len {ps : List Ph} {n k : Nat} (hn : ps.length = n) (hk : k ≤ n) : (padPs ps n k).length = n := by simp [padPs]; omega
theorem padPs_all {ps : List Ph} {n : Nat} (hn : ps.length = n) : padPs ps n n = ps := by simp [padPs, ← hn]
theorem padPs_step {ps : List Ph} {n k : Nat} (hn : ps.length = n) (hk : k < n) : (padPs ps n k).set k (phAt ps k) = padPs ps n (k + 1) := by
  unfold padPs
  rw [List.set_append_right _ _ (by simp; omega), show k - (ps.take k).length = 0 by simp; omega, show n - k = (n - (k + 1)) + 1 by omega, List.replicate_succ, List.set_cons_zero, phAt_eq (by omega)]
  rw [show ps.take (k + 1) = ps.take k ++ [ps[k]] from List.take_succ_eq_append_getElem (by omega), List.append_assoc]
  rfl
theorem OwnPs.made {w w1 : World} {n : Nat} {ps : List Ph} (hn : ps.length = n) (h : w1.ownsRow w.heap.size 58 2 (.slice (some ⟨w.heap.size, 0, none⟩) n n) n (madeCells (Value.agg #[.string ByteArray.empty, .slice none 0 0]).cells (n * 2)).toList) :
    OwnPs w1 w.heap.size (.slice (some ⟨w.heap.size, 0, none⟩) n n) (padPs ps n 0) := by
  have e : ∀ i, phAt (padPs ps n 0) i = default := by
    intro i
    simp only [padPs, phAt, List.take_zero, List.nil_append, Nat.sub_zero, List.getElem?_replicate]
    split <;> rfl
  refine ⟨fun _ => .slice none 0 0, ?_, ?_, ?_⟩
  · rw [padPs_len hn (Nat.zero_le _)]
    rw [made_phrases] at h
    rw [flat2_congr n _ _ (fun _ => .string ByteArray.empty) (fun _ => .slice none 0 0)]
    · exact h
    · intro i hi
      exact ⟨by rw [e]; rfl, rfl⟩
  · intro i hi
    rw [e]
    exact ⟨by show ByteArray.empty.size ≤ maxLen; decide, Own.nil _ _⟩
  · intro i j _ _ _
    exact .inl rfl

/-! ### The laws' copies -/
theorem Own.apart_lt {w : World} {B : Nat} {v : Value} {zs : List Int} (h : Own w B v zs) {b : Nat} (hb : b < B) : v.ownBlock ≠ some b := fun e => by have := (h.lt b e).1; omega
theorem Own.setFar {w : World} {B : Nat} {v : Value} {zs : List Int} (h : Own w B v zs) {b o : Nat} {x : Value} (hne : v.ownBlock ≠ some b) : Own (w.setCell ⟨b, o, none⟩ x) B v zs := by
  obtain ⟨h1, h2⟩ := h
  refine ⟨h1, ?_⟩
  rcases h2 with h2 | ⟨g, cap, cur, hv, hg, hh, r⟩
  · exact .inl h2
  · refine .inr ⟨g, cap, cur, hv, hg, ?_, r⟩
    rw [Below.heap_setCell _ _ _ _ (fun e => hne (by rw [hv, e]; rfl))]
    exact hh
theorem toPhrase_any (s : ByteArray) (u : Value) (zs : List Int) (w : World) (hz : zs.length ≤ 1048576) (hr : Rd w u zs) :
    Calls Tryd.prog 56 #[.agg #[.string s, u]] w fun e w' => ∃ u', e = .returned (.agg #[.string s, u']) ∧ Own w' w.heap.size u' zs ∧ Below w.heap.size w w' := by
  go_enter Tryd.func56, Tryd.ntmps56
  go_wp2_with fail
  refine (toIntS_any _ zs _ (by omega) (hr.later ((((Below.refl _ _).alloc (Nat.le_refl _) _).alloc (by simp) _).alloc (by simp; omega) _))).mono ?_
  rintro e w1 ⟨u', rfl, ho, hb⟩
  obtain ⟨ad, cap, rfl⟩ := ho.rd.len
  have c0 := hb.cell (p := ⟨w.heap.size + 1 + 1, 0, none⟩) (by simp)
  have c1 := hb.cell (p := ⟨w.heap.size + 1 + 1, 1, none⟩) (by simp)
  have f0 := hb.frozen (p := ⟨w.heap.size + 1 + 1, 0, none⟩) (by simp)
  have f1 := hb.frozen (p := ⟨w.heap.size + 1 + 1, 1, none⟩) (by simp)
  have d0 := hb.cell (p := ⟨w.heap.size + 1, 0, none⟩) (by simp)
  have d1 := hb.cell (p := ⟨w.heap.size + 1, 1, none⟩) (by simp)
  have e0 := hb.frozen (p := ⟨w.heap.size + 1, 0, none⟩) (by simp)
  have e1 := hb.frozen (p := ⟨w.heap.size + 1, 1, none⟩) (by simp)
  have hz := hb.size
  simp [go_sem] at c0 c1 f0 f1 d0 d1 e0 e1 hz
  go_wp2
  refine bodyPost_ret (v := .agg #[.string s, .slice ad zs.length cap]) (by simp [results, Tryd.results56, go_sem, c0, c1, d0, d1, f0, f1, e0, e1, hz]) rfl ⟨_, rfl, ?_, ?_⟩
  · have a1 := ho.apart_lt (b := w.heap.size + 1) (by simp <;> omega)
    have a2 := ho.apart_lt (b := w.heap.size + 1 + 1) (by simp)
    exact (((ho.setFar a2).setFar a1).setFar a1).base (by simp; omega)
  · have hb' := ((((Below.refl w.heap.size w).alloc (Nat.le_refl _) (.cells #[.string s, u] 82)).alloc (by simp) (.cells #[.string ⟨#[]⟩, .slice none 0 0] 58)).alloc (by simp; omega) (.cells #[.string s, .slice none 0 0] 58)).trans (hb.mono (by simp; omega))
    exact ((hb'.setCell (p := ⟨w.heap.size + 1 + 1, 1, none⟩) (by show w.heap.size ≤ w.heap.size + 1 + 1; omega) _).setCell (p := ⟨w.heap.size + 1, 0, none⟩) (by show w.heap.size ≤ w.heap.size + 1; omega) _).setCell (p := ⟨w.heap.size + 1, 1, none⟩) (by show w.heap.size ≤ w.heap.size + 1; omega) _

theorem OwnPs.cellsAt {w : World} {B g n cap : Nat} {ps : List Ph} (h : OwnPs w B (.slice (some ⟨g, 0, none⟩) n cap) ps) (hn : ps.length = n) (k : Nat) (hk : k < n) :
    (∃ x, w.cell? ⟨g, k * 2, none⟩ = some x) ∧ (∃ x, w.cell? ⟨g, k * 2 + 1, none⟩ = some x) ∧ w.frozen? ⟨g, k * 2, none⟩ = false ∧ w.frozen? ⟨g, k * 2 + 1, none⟩ = false := by
  obtain ⟨us, h1, -⟩ := h
  rw [hn] at h1
  exact ⟨⟨_, by rw [h1.cellAt (k * 2) (by omega), flat2_even _ _ _ _ hk]⟩, ⟨_, by rw [h1.cellAt (k * 2 + 1) (by omega), flat2_odd _ _ _ _ hk]⟩, h1.frozenAt _, h1.frozenAt _⟩

set_option maxHeartbeats 400000 in
theorem toPhraseS_any (v : Value) (ps : List Ph) (w : World) (hz : SmallPs ps) (hr : RdPs w v ps) :
    Calls Tryd.prog 33 #[v] w fun e w' => ∃ v', e = .returned v' ∧ OwnPs w' w.heap.size v' ps ∧ Below w.heap.size w w' := by
  obtain ⟨i0, hi, hz0, hz1, hz2⟩ := info_parts Tryd_info_phrase
  obtain ⟨hz3, hz4⟩ := hz
  obtain ⟨a, cap, hv, -⟩ := hr.len
  obtain ⟨n, hn⟩ : ∃ n, ps.length = n := ⟨_, rfl⟩
  have HR : Hid (RdPs w v ps) := Lib.hid hr
  have HZ := Lib.hid hz4
  clear hr hz4
  rw [hn] at hv hz3
  subst hv
  have HN := Lib.hid hn
  clear hn
  go_enter Tryd.func33, Tryd.ntmps33
  go_wp2_with (refine wpList_make_full _ rfl _ _ 37 rfl w.heap.size 58 i0 (.agg #[.string ByteArray.empty, .slice none 0 0]) 2 Tryd.underlying37 hi hz0 hz1 .i64 .i64 _ _ n rfl rfl rfl rfl (by rw [hz2]; omega) (by unfold maxLen; omega) (Nat.le_refl _) ?_; intro w1 hown1 hgrow1)
  have ho0 : OwnPs w1 w.heap.size (.slice (some ⟨w.heap.size, 0, none⟩) n n) (padPs ps n 0) := OwnPs.made HN.out hown1
  have hb0 : Below w.heap.size w w1 := (Below.refl _ _).grown hgrow1 (Nat.le_refl _) (fun k h => by cases h)
  clear hown1 hgrow1
  go_loopw [4] (fun i wr => ∃ k : Nat, k ≤ n ∧ i = .int .i64 k ∧ OwnPs wr w.heap.size (.slice (some ⟨w.heap.size, 0, none⟩) n n) (padPs ps n k) ∧ Below w.heap.size w wr ∧ w.heap.size < wr.heap.size) (fun i wr => n - (intOf i).toNat)
  case atStart => exact ⟨0, Nat.zero_le _, rfl, ho0, hb0, (ho0.lt _ rfl).2⟩
  case round =>
    obtain ⟨k, hk, rfl, hown, hbel, hsz⟩ := hrel
    by_cases hlt : k < n
    · obtain ⟨g, off, u, rfl, hg, hts, hc0, hc1, hru⟩ := (HR.out.below hbel (Nat.le_refl _)).at_ HN.out.symm k hlt
      have hzk := HZ.out k (by rw [HN.out]; exact hlt)
      have HRU := Lib.hid hru
      clear hru
      go_wp2_with fail
      refine (toPhrase_any _ _ _ _ hzk.2 HRU.out.rd).mono ?_
      rintro e w1 ⟨u', rfl, ho, hb⟩
      obtain ⟨ad, cap', rfl⟩ := ho.rd.len
      have hP := hown.put (padPs_len HN.out hk) hlt hb ho hts hbel.size
      rw [padPs_step HN.out hlt] at hP
      obtain ⟨⟨x0, q0⟩, ⟨x1, q1⟩, f0, f1⟩ := (hown.later hb).cellsAt (padPs_len HN.out hk) k hlt
      have HP := Lib.hid hP
      have hb2 := hbel.trans (hb.mono hbel.size)
      have hsz1 := hb.size
      clear hP
      go_wp2
      go_roundw
      case rel => exact ⟨k + 1, by omega, by go_num, HP.out.1, hb2.grown HP.out.2 (by omega) (fun j hj => by cases hj; exact Nat.le_refl _), by simp; omega⟩
      case measure => simp [intOf]; omega
    · have : k = n := by omega
      subst this
      go_wp2
      go_ret
      exact ⟨_, rfl, by rw [← padPs_all HN.out]; exact hown, hbel⟩

theorem row_same {w w' : World} {B : Nat} {e : TypeId} {s n : Nat} {v : Value} {xs : List Value} (h : w.ownsRow B e s v n xs) (hs : ∀ k, B ≤ k → k < w.heap.size → w'.heap[k]? = w.heap[k]?) : w'.ownsRow B e s v n xs := by
  have hl := h.lt
  obtain ⟨h1, h2⟩ := h
  refine ⟨h1, ?_⟩
  rcases h2 with h2 | ⟨g, cap, cur, hv, hg, hh, r⟩
  · exact .inl h2
  · exact .inr ⟨g, cap, cur, hv, hg, by rw [hs g hg (hl g (by rw [hv]; rfl)).2]; exact hh, r⟩
theorem Own.same {w w' : World} {B : Nat} {v : Value} {zs : List Int} (h : Own w B v zs) (hs : ∀ k, B ≤ k → k < w.heap.size → w'.heap[k]? = w.heap[k]?) : Own w' B v zs := row_same h hs
theorem OwnPs.same {w w' : World} {B : Nat} {v : Value} {ps : List Ph} (h : OwnPs w B v ps) (hs : ∀ k, B ≤ k → k < w.heap.size → w'.heap[k]? = w.heap[k]?) : OwnPs w' B v ps := by
  obtain ⟨us, h1, h2, h3⟩ := h
  exact ⟨us, row_same h1 hs, fun i hi => ⟨(h2 i hi).1, (h2 i hi).2.same hs⟩, h3⟩
theorem OwnPs.setLow {w : World} {B : Nat} {v : Value} {ps : List Ph} (h : OwnPs w B v ps) {b o : Nat} {x : Value} (hb : b < B) : OwnPs (w.setCell ⟨b, o, none⟩ x) B v ps :=
  h.same fun k hk _ => Below.heap_setCell _ _ _ _ (by show k ≠ b; omega)

theorem toBook_any (v : Value) (ps : List Ph) (w : World) (hz : SmallPs ps) (hr : RdPs w v ps) :
    Calls Tryd.prog 17 #[.agg #[v]] w fun e w' => ∃ v', e = .returned (.agg #[v']) ∧ OwnPs w' w.heap.size v' ps ∧ Below w.heap.size w w' := by
  go_enter Tryd.func17, Tryd.ntmps17
  go_wp2_with fail
  refine (toPhraseS_any _ ps _ hz (hr.later ((((Below.refl _ _).alloc (Nat.le_refl _) _).alloc (by simp) _).alloc (by simp; omega) _))).mono ?_
  rintro e w1 ⟨v', rfl, ho, hb⟩
  obtain ⟨ad, cap, rfl, -⟩ := ho.rd.len
  have c0 := hb.cell (p := ⟨w.heap.size + 1 + 1, 0, none⟩) (by simp)
  have f0 := hb.frozen (p := ⟨w.heap.size + 1 + 1, 0, none⟩) (by simp)
  have d0 := hb.cell (p := ⟨w.heap.size + 1, 0, none⟩) (by simp)
  have e0 := hb.frozen (p := ⟨w.heap.size + 1, 0, none⟩) (by simp)
  have hz := hb.size
  simp [go_sem] at c0 f0 d0 e0 hz
  go_wp2
  refine bodyPost_ret (v := .agg #[.slice ad ps.length cap]) (by simp [results, Tryd.results17, go_sem, c0, d0, f0, e0, hz]) rfl ⟨_, rfl, ?_, ?_⟩
  · exact ((ho.setLow (b := w.heap.size + 1 + 1) (by simp)).setLow (b := w.heap.size + 1) (by simp <;> omega)).base (by simp; omega)
  · have hb' := ((((Below.refl w.heap.size w).alloc (Nat.le_refl _) (.cells #[v] 34)).alloc (by simp) (.cells #[.slice none 0 0] 39)).alloc (by simp; omega) (.cells #[.slice none 0 0] 39)).trans (hb.mono (by simp; omega))
    exact (hb'.setCell (p := ⟨w.heap.size + 1 + 1, 0, none⟩) (by show w.heap.size ≤ w.heap.size + 1 + 1; omega) _).setCell (p := ⟨w.heap.size + 1, 0, none⟩) (by show w.heap.size ≤ w.heap.size + 1; omega) _

/-! ### Two that read alike are alike -/
theorem eqPhrase_true (s : ByteArray) (u1 u2 : Value) (zs : List Int) (w : World) (h1 : Rd w u1 zs) (h2 : Rd w u2 zs) :
    Calls Tryd.prog 60 #[.agg #[.string s, u1], .agg #[.string s, u2]] w fun e w' => e = .returned (.bool true) ∧ Below w.heap.size w w' := by
  have hb0 := fun o1 o2 => ((Below.refl w.heap.size w).alloc (Nat.le_refl _) o1).alloc (by simp) o2
  go_enter Tryd.func60, Tryd.ntmps60
  go_wp2_with fail
  refine (eqIntS_true _ _ zs _ (h1.later (hb0 _ _)) (h2.later (hb0 _ _))).mono ?_
  rintro e w1 ⟨rfl, n, rfl⟩
  go_wp2
  go_ret
  exact ⟨rfl, below_drewN (hb0 _ _) n⟩

set_option maxHeartbeats 400000 in
theorem eqPhraseS_true (v1 v2 : Value) (ps : List Ph) (w : World) (h1 : RdPs w v1 ps) (h2 : RdPs w v2 ps) :
    Calls Tryd.prog 37 #[v1, v2] w fun e w' => e = .returned (.bool true) ∧ Below w.heap.size w w' := by
  have hm : (ps.length : Int) ≤ 9223372036854775807 := by
    rcases h1 with ⟨rfl, -⟩ | ⟨g, off, cap, -, -, hl, hm, -⟩
    · simp
    · unfold maxLen at hm; omega
  obtain ⟨a1, c1, rfl, -⟩ := h1.len
  obtain ⟨a2, c2, rfl, -⟩ := h2.len
  obtain ⟨n, hn⟩ : ∃ n, n = ps.length := ⟨_, rfl⟩
  have HN := Lib.hid hn
  have H1 := Lib.hid h1
  have H2 := Lib.hid h2
  rw [← hn] at hm ⊢
  clear hn h1 h2
  go_enter Tryd.func37, Tryd.ntmps37
  go_wp2
  go_loopw [5] (fun i wr => ∃ k : Nat, k ≤ n ∧ i = .int .i64 k ∧ Below w.heap.size w wr) (fun i wr => n - (intOf i).toNat)
  case atStart => exact ⟨0, Nat.zero_le _, rfl, Below.refl _ _⟩
  case round =>
    obtain ⟨k, hk, rfl, hb⟩ := hrel
    by_cases hlt : k < n
    · obtain ⟨g1, o1, u1, rfl, hg1, -, p0, p1, hr1⟩ := (H1.out.below hb (Nat.le_refl _)).at_ (by rw [← HN.out]) k (by rw [← HN.out]; exact hlt)
      obtain ⟨g2, o2, u2, rfl, hg2, -, q0, q1, hr2⟩ := (H2.out.below hb (Nat.le_refl _)).at_ (by rw [← HN.out]) k (by rw [← HN.out]; exact hlt)
      have hr1 := hr1.later (Below.refl _ wr).drew
      have hr2 := hr2.later (Below.refl _ wr).drew
      have hbd := hb.drew
      go_wp2
      go_region_with ((go_at_call 60; refine (eqPhrase_true _ _ _ (phAt ps k).sig wr.drew hr1.rd hr2.rd).mono ?_; rintro e w' ⟨rfl, hb'⟩))
      all_goals
        go_wp2
        go_roundw
        case rel => exact ⟨k + 1, by omega, by go_num, hbd.trans (hb'.mono hbd.size)⟩
        case measure => simp [intOf]; omega
    · go_wp2
      go_ret
      exact ⟨rfl, hb⟩

theorem eqBook_true (v1 v2 : Value) (ps : List Ph) (w : World) (h1 : RdPs w v1 ps) (h2 : RdPs w v2 ps) :
    Calls Tryd.prog 19 #[.agg #[v1], .agg #[v2]] w fun e w' => e = .returned (.bool true) ∧ Below w.heap.size w w' := by
  have hb0 := fun o1 o2 => ((Below.refl w.heap.size w).alloc (Nat.le_refl _) o1).alloc (by simp) o2
  go_enter Tryd.func19, Tryd.ntmps19
  go_wp2_with fail
  refine (eqPhraseS_true _ _ ps _ (h1.later (hb0 _ _)) (h2.later (hb0 _ _))).mono ?_
  rintro e w1 ⟨rfl, hb⟩
  have hb1 := (hb0 (.cells #[v1] 39) (.cells #[v2] 39)).trans (hb.mono (by simp; omega))
  go_wp2
  go_ret
  exact ⟨rfl, hb1⟩
end Go.Proofs.YtkmdionldaejjaaDoor
