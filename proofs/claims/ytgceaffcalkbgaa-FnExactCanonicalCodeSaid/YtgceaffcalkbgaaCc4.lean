/- Chapter 4: CanonicalCode of the program. -/
import Derived.Test.YtgceaffcalkbgaaCc3
import Derived.Test.YtgceaffcalkbgaaCc5
import Derived.Deep.RegionWith
import Derived.Deep.RegionHeld3
namespace Go.Proofs.Ytgceaffcalkbgaa
open Go.RowKit
set_option linter.unusedSimpArgs false
set_option linter.unusedVariables false

/-- Block g is a row of n slices; they lie among the blocks from B up to C and read as L. -/
def OwnK (w : World) (g B C n cap : Nat) (L : List (List Int)) : Prop :=
  L.length = n ∧ ∃ us : Nat → Value, w.ownsRow g 23 1 (.slice (some ⟨g, 0, none⟩) n cap) n ((List.range n).map us) ∧
    (∀ i, i < n → OwnI w B C (us i) (rowAt L i)) ∧ ∀ i j, i < n → j < n → i ≠ j → (us i).ownBlock = none ∨ (us i).ownBlock ≠ (us j).ownBlock
theorem OwnK.same {w w' : World} {g B C n cap b : Nat} {L : List (List Int)} (h : OwnK w g B C n cap L) (hs : ∀ k, k < w.heap.size → k ≠ b → w'.heap[k]? = w.heap[k]?) (hg : g ≠ b) (hb : b < B ∨ C ≤ b) : OwnK w' g B C n cap L := by
  obtain ⟨hl, us, h1, h2, h3⟩ := h
  refine ⟨hl, us, row_at h1 fun k hk => ?_, fun i hi => ⟨row_at (h2 i hi).1 fun k hk => ?_, (h2 i hi).2⟩, h3⟩
  · have : k = g := by simpa [Value.ownBlock] using hk.symm
    subst this
    exact hs _ (h1.lt _ rfl).2 hg
  · have a := (h2 i hi).1.lt k hk
    have c := (h2 i hi).2 k hk
    exact hs k a.2 (by omega)
theorem OwnK.later {w w' : World} {g B C n cap : Nat} {L : List (List Int)} (h : OwnK w g B C n cap L) (hb : Below w.heap.size w w') : OwnK w' g B C n cap L := by
  obtain ⟨hl, us, h1, h2, h3⟩ := h
  exact ⟨hl, us, row_at h1 fun k hk => hb.block k (h1.lt k hk).2, fun i hi => (h2 i hi).later hb, h3⟩
theorem OwnK.put {w : World} {g B C B' C' n cap k : Nat} {L : List (List Int)} {zs : List Int} {u : Value} (h : OwnK w g B C n cap L) (hk : k < n)
    (hu : OwnI w B' C' u zs) (hB : B ≤ B') (hC : C ≤ B') : OwnK (w.setCell ⟨g, k, none⟩ u) g B (max C C') n cap (L.set k zs) := by
  obtain ⟨hl, us, h1, h2, h3⟩ := h
  obtain ⟨s1, g1⟩ := h1.stored k u
  rw [map_set us u hk] at s1
  refine ⟨by rw [List.length_set, hl], fun i => if i = k then u else us i, s1, ?_, ?_⟩
  · intro i hi
    rw [rowAt_set (by omega)]
    by_cases he : i = k
    · rw [if_pos he]
      simp only [if_pos he]
      exact OwnI.wide ⟨hu.1.kept g1 (row_apart hu.1 h1 (by decide)), hu.2⟩ hB (by omega)
    · rw [if_neg he]
      simp only [if_neg he]
      exact OwnI.wide ⟨(h2 i hi).1.kept g1 (row_apart (h2 i hi).1 h1 (by decide)), (h2 i hi).2⟩ (Nat.le_refl _) (by omega)
  · intro i j hi hj hne
    show (if i = k then u else us i).ownBlock = none ∨ (if i = k then u else us i).ownBlock ≠ (if j = k then u else us j).ownBlock
    by_cases he : i = k
    · rw [if_pos he, if_neg (by omega)]
      cases hub : u.ownBlock with
      | none => exact .inl rfl
      | some b =>
        refine .inr fun e => ?_
        have a1 := (hu.1.lt b hub).1
        have a2 := (h2 j hj).2 b e.symm
        omega
    · rw [if_neg he]
      by_cases hf : j = k
      · rw [if_pos hf]
        cases hub : (us i).ownBlock with
        | none => exact .inl rfl
        | some b =>
          refine .inr fun e => ?_
          have a1 := (hu.1.lt b e.symm).1
          have a2 := (h2 i hi).2 b hub
          omega
      · rw [if_neg hf]
        exact h3 i j hi hj hne
theorem OwnK.cellAt {w : World} {g B C n cap : Nat} {L : List (List Int)} (h : OwnK w g B C n cap L) (k : Nat) (hk : k < n) :
    (∃ x, w.cell? ⟨g, k, none⟩ = some x) ∧ w.frozen? ⟨g, k, none⟩ = false := by
  obtain ⟨hl, us, h1, -⟩ := h
  exact ⟨⟨_, by rw [h1.cellAt k (by omega)]; simp [hk]; rfl⟩, h1.frozenAt _⟩
theorem OwnK.toJ {w : World} {g B C n cap B0 : Nat} {L : List (List Int)} (h : OwnK w g B C n cap L) (h0 : B0 ≤ g) (h1 : B0 ≤ B) (hC : C ≤ w.heap.size) : OwnJ w B0 w.heap.size (.slice (some ⟨g, 0, none⟩) n cap) L := by
  obtain ⟨rfl, us, r1, r2, r3⟩ := h
  exact ⟨us, row_down r1 h0, fun k hk => (r1.lt k hk).2, fun i hi => (r2 i hi).wide h1 hC, r3⟩
theorem OwnK.made {w w1 : World} {n : Nat} (B C : Nat) (h : w1.ownsRow w.heap.size 23 1 (.slice (some ⟨w.heap.size, 0, none⟩) n n) n (madeCells (Value.slice none 0 0).cells (n * 1)).toList) :
    OwnK w1 w.heap.size B C n n (List.replicate n []) := by
  have e : ∀ i, rowAt (List.replicate n []) i = [] := by
    intro i
    simp only [rowAt, List.getElem?_replicate]
    split <;> rfl
  refine ⟨by simp, fun _ => .slice none 0 0, ?_, ?_, ?_⟩
  · rw [made_slices] at h
    exact h
  · intro i hi
    rw [e]
    exact OwnI.nil _ _ _
  · intro i j _ _ _
    exact .inl rfl

/-- The words of the first t indices in order; none for the others. -/
def midO (r : Int) (ls : List Int) (t : Nat) : List (List Int) := (List.range ls.length).map fun j => if decide (j ∈ (ordTo (ltC ls) ls.length).take t) then wdC r ls j else []
theorem midO_len (r : Int) (ls : List Int) (t : Nat) : (midO r ls t).length = ls.length := by simp [midO]
theorem rowAt_midO {r : Int} {ls : List Int} {t j : Nat} (h : j < ls.length) : rowAt (midO r ls t) j = if decide (j ∈ (ordTo (ltC ls) ls.length).take t) then wdC r ls j else [] := by simp [midO, rowAt, h]
theorem midO_zero (r : Int) (ls : List Int) : midO r ls 0 = List.replicate ls.length [] := by
  refine rows_ext (by rw [midO_len, List.length_replicate]) fun j hj => ?_
  rw [midO_len] at hj
  rw [rowAt_midO hj]
  simp [rowAt, List.getElem?_replicate, hj]
theorem midO_step {r : Int} {ls : List Int} {t : Nat} (h : t < ls.length) : (midO r ls t).set (oAt ls t) (wdC r ls (oAt ls t)) = midO r ls (t + 1) := by
  refine rows_ext (by rw [List.length_set, midO_len, midO_len]) fun j hj => ?_
  rw [List.length_set, midO_len] at hj
  rw [rowAt_set (by rw [midO_len]; exact oAt_lt h), rowAt_midO hj, rowAt_midO hj, take_snoc_o h]
  by_cases e : j = oAt ls t
  · subst e
    rw [if_pos rfl]
    simp
  · rw [if_neg e]
    simp [List.mem_append, e]
theorem midO_all (r : Int) (ls : List Int) : midO r ls ls.length = canT r ls := by
  have hl := ordTo_len (ltC ls) ls.length
  refine rows_ext (by rw [midO_len, canT_len]) fun j hj => ?_
  rw [midO_len] at hj
  rw [rowAt_midO hj, rowAt_canT hj, List.take_of_length_le (by omega)]
  simp [ordTo_mem, hj]
theorem A6.far {w : World} {b g o : Nat} {x : Value} {D : List Int} (h : A6 w b D) (hne : g ≠ b) : A6 (w.setCell ⟨g, o, none⟩ x) b D := fun i hi =>
  ⟨by rw [setc_far hne]; exact (h i hi).1, by rw [World.frozen?_setCell]; exact (h i hi).2⟩
theorem A6.far6 {w : World} {b g : Nat} {D : List Int} (h : A6 w b D) (hne : g ≠ b) (e0 e1 e2 e3 e4 e5 : Value) :
    A6 ((((((w.setCell ⟨g, 0, none⟩ e0).setCell ⟨g, 1, none⟩ e1).setCell ⟨g, 2, none⟩ e2).setCell ⟨g, 3, none⟩ e3).setCell ⟨g, 4, none⟩ e4).setCell ⟨g, 5, none⟩ e5) b D :=
  (((((h.far hne).far hne).far hne).far hne).far hne).far hne
theorem OwnK.set6 {w : World} {g B C n cap b : Nat} {L : List (List Int)} (h : OwnK w g B C n cap L) (hg : g ≠ b) (hb : b < B ∨ C ≤ b) (e0 e1 e2 e3 e4 e5 : Value) :
    OwnK ((((((w.setCell ⟨b, 0, none⟩ e0).setCell ⟨b, 1, none⟩ e1).setCell ⟨b, 2, none⟩ e2).setCell ⟨b, 3, none⟩ e3).setCell ⟨b, 4, none⟩ e4).setCell ⟨b, 5, none⟩ e5) g B C n cap L := by
  refine h.same (b := b) (fun k hk hne => ?_) hg hb
  rw [Below.heap_setCell _ _ _ _ hne, Below.heap_setCell _ _ _ _ hne, Below.heap_setCell _ _ _ _ hne, Below.heap_setCell _ _ _ _ hne, Below.heap_setCell _ _ _ _ hne, Below.heap_setCell _ _ _ _ hne]
theorem OwnK.wide {w : World} {g B C C' n cap : Nat} {L : List (List Int)} (h : OwnK w g B C n cap L) (hC : C ≤ C') : OwnK w g B C' n cap L := by
  obtain ⟨hl, us, h1, h2, h3⟩ := h
  exact ⟨hl, us, h1, fun i hi => (h2 i hi).wide (Nat.le_refl _) hC, h3⟩
theorem size_set6 (w : World) (b : Nat) (e0 e1 e2 e3 e4 e5 : Value) : ((((((w.setCell ⟨b, 0, none⟩ e0).setCell ⟨b, 1, none⟩ e1).setCell ⟨b, 2, none⟩ e2).setCell ⟨b, 3, none⟩ e3).setCell ⟨b, 4, none⟩ e4).setCell ⟨b, 5, none⟩ e5).heap.size = w.heap.size := by simp
theorem list6 {E : List Int} (h : E.length = 6) : [nth E 0, nth E 1, nth E 2, nth E 3, nth E 4, nth E 5] = E := by
  match E, h with
  | [a, b, c, d, e, f], _ => rfl
theorem placeBehind_h (D : List Int) (r M N : Int) (l : Nat) (w : World) (hr : 2 ≤ r) (hr2 : r ≤ 60) (hl1 : 1 ≤ l) (hl6 : l ≤ 6) (hD : Hid (D = dig r l M ++ List.replicate (6 - l) 0)) (hN : Hid (dig r 6 N = dig r l (M + 1) ++ List.replicate (6 - l) 0)) :
    Calls Try.prog 76 #[.agg #[.int .i64 (nth D 0), .int .i64 (nth D 1), .int .i64 (nth D 2), .int .i64 (nth D 3), .int .i64 (nth D 4), .int .i64 (nth D 5)], .int .i64 l, .int .i64 r] w
      fun e w' => ∃ E, Hid (E = dig r 6 N) ∧ E.length = 6 ∧ e = .returned (.agg #[.int .i64 (nth E 0), .int .i64 (nth E 1), .int .i64 (nth E 2), .int .i64 (nth E 3), .int .i64 (nth E 4), .int .i64 (nth E 5)]) ∧ Below w.heap.size w w' :=
  (placeBehind_any D r M l w hr hr2 hl1 hl6 hD.out).mono fun e w' ⟨E, h1, h2, h3⟩ => ⟨E, Lib.hid (by rw [h1, hN.out]), by rw [h1, ← hN.out, dig_len], h2, h3⟩
def z6 : List Int := [0, 0, 0, 0, 0, 0]
theorem z6_rep : z6 = List.replicate 6 0 := rfl

set_option maxRecDepth 100000 in
set_option maxHeartbeats 4000000 in
theorem implCanonGo (v : Value) (ls : List Int) (r : Int) (w : World) (h1 : Rd w v ls) (hl : lgB ls = true) (hb : baB r = true) :
    Calls Try.prog 29 #[v, .int .i64 r] w fun e w' => ∃ v, e = .returned (.tuple #[v, .bool (caB ls r)]) ∧ OwnJ w' w.heap.size w'.heap.size v (caL ls r) ∧ Below w.heap.size w w' := by
  have hmf : ∀ (fn : Fn) (first cap : Array Value) (w : World), (Instr.makeFunc fn first cap).run Try.prog w = .ok (.func fn first cap) w := fun _ _ _ _ => rfl
  obtain ⟨i0, hi, hz0, hz1, hz2⟩ := info_parts Try_info_ints
  obtain ⟨r1, r2⟩ := inB_iff.1 hb
  obtain ⟨a1, c1, rfl⟩ := h1.len
  have h20 := lgB_len hl
  have hbW := (Below.refl w.heap.size w).alloc (Nat.le_refl _) (.cells #[.slice a1 ls.length c1] 23)
  have hxW : (w.alloc (.cells #[.slice a1 ls.length c1] 23)).cell? ⟨w.heap.size, 0, none⟩ = some (.slice a1 ls.length c1) := by simp [go_sem]
  have hsW : w.heap.size < (w.alloc (.cells #[.slice a1 ls.length c1] 23)).heap.size := by simp
  have HLg := Lib.hid hl
  have hca : Hid (caB ls r = hasB ls r) := Lib.hid (by simp [caB, kfB, hl, hb])
  have H1 := Lib.hid h1
  obtain ⟨n, hn⟩ : ∃ n, n = ls.length := ⟨_, rfl⟩
  rw [← hn] at h20 hbW hxW hsW ⊢
  have HN := Lib.hid hn
  clear h1 hn
  go_enter Try.func29, Try.ntmps29
  go_wp2_with fail
  generalize w.alloc (.cells #[.slice a1 n c1] 23) = W at *
  have hrW := Lib.hid (H1.out.later hbW)
  go_wp2_with fail
  refine (areLengths_any _ ls _ (by rw [HN.out]; exact hrW.out)).mono ?_
  rintro e w0 ⟨rfl, rfl⟩
  rw [hl]
  go_wp2_with fail
  refine (isBase_any _ _).mono ?_
  rintro e w0 ⟨rfl, rfl⟩
  rw [hb]
  clear hl hb
  go_wp2_with fail
  refine (orderedC_any ls (.slice a1 n c1) w.heap.size n _ h20.2 h20.1 HN.out.symm hsW hxW (by rw [HN.out]; exact hrW.out)).mono ?_
  rintro e w1 ⟨vo, rfl, hoo, hb1⟩
  have s1 := hb1.size
  have x1 := hxW ▸ hb1.cell (p := ⟨w.heap.size, 0, none⟩) hsW
  have hlo : (ints (ordTo (ltC ls) n)).length = n := by rw [ints_len, ordTo_len]
  obtain ⟨oa, oc, hvo⟩ := hoo.rd.len
  rw [hlo] at hvo
  subst hvo
  go_wp2_with (refine wpList_make_full _ rfl _ _ 42 rfl w1.heap.size 23 i0 (.slice none 0 0) 1 Try.underlying42 hi hz0 hz1 .i64 .i64 _ _ n rfl rfl rfl rfl (by rw [hz2]; omega) (by unfold maxLen; omega) (Nat.le_refl _) ?_; intro w2 hown2 hgrow2)
  have hk2 : Hid (OwnK w2 w1.heap.size (w2.heap.size + 2) (w2.heap.size + 2) n n (midO r ls 0)) := Lib.hid (by rw [midO_zero, ← HN.out]; exact OwnK.made _ _ hown2)
  have hg2 : w1.heap.size < w2.heap.size := (hown2.lt _ rfl).2
  have hb2 : Below w1.heap.size w1 w2 := (Below.refl _ _).grown hgrow2 (Nat.le_refl _) (fun k h => by cases h)
  have e0 : ∀ i, i < 6 → nth z6 i = 0 := by decide
  have hF1 : A6 (w2.alloc (.cells #[.int .i64 0, .int .i64 0, .int .i64 0, .int .i64 0, .int .i64 0, .int .i64 0] 81)) w2.heap.size z6 := by
    have := A6.made z6 w2 81
    rw [e0 0 (by decide), e0 1 (by decide), e0 2 (by decide), e0 3 (by decide), e0 4 (by decide), e0 5 (by decide)] at this
    exact this
  have hF2 : A6 ((w2.alloc (.cells #[.int .i64 0, .int .i64 0, .int .i64 0, .int .i64 0, .int .i64 0, .int .i64 0] 81)).alloc (.cells #[.int .i64 0, .int .i64 0, .int .i64 0, .int .i64 0, .int .i64 0, .int .i64 0] 81)) (w2.heap.size + 1) (dig r 6 (nT r ls 0)) := by
    have := A6.made z6 (w2.alloc (.cells #[.int .i64 0, .int .i64 0, .int .i64 0, .int .i64 0, .int .i64 0, .int .i64 0] 81)) 81
    rw [e0 0 (by decide), e0 1 (by decide), e0 2 (by decide), e0 3 (by decide), e0 4 (by decide), e0 5 (by decide)] at this
    rw [nT_zero, dig_zero, ← z6_rep]
    simpa using this
  have hb3 := ((Below.refl w2.heap.size w2).alloc (Nat.le_refl _) (.cells #[.int .i64 0, .int .i64 0, .int .i64 0, .int .i64 0, .int .i64 0, .int .i64 0] 81)).alloc (by simp) (.cells #[.int .i64 0, .int .i64 0, .int .i64 0, .int .i64 0, .int .i64 0, .int .i64 0] 81)
  have hF1' := hF1.below ((Below.refl (w2.heap.size + 1) _).alloc (by simp) (.cells #[.int .i64 0, .int .i64 0, .int .i64 0, .int .i64 0, .int .i64 0, .int .i64 0] 81)) (by omega)
  have hk3 := hk2.out.later hb3
  have hb13 := hb2.trans (hb3.mono (by omega))
  have hs3 : ((w2.alloc (.cells #[.int .i64 0, .int .i64 0, .int .i64 0, .int .i64 0, .int .i64 0, .int .i64 0] 81)).alloc (.cells #[.int .i64 0, .int .i64 0, .int .i64 0, .int .i64 0, .int .i64 0, .int .i64 0] 81)).heap.size = w2.heap.size + 2 := by simp
  generalize (w2.alloc (.cells #[.int .i64 0, .int .i64 0, .int .i64 0, .int .i64 0, .int .i64 0, .int .i64 0] 81)).alloc (.cells #[.int .i64 0, .int .i64 0, .int .i64 0, .int .i64 0, .int .i64 0, .int .i64 0] 81) = w3 at *
  obtain ⟨F, hF⟩ : ∃ F, F = w2.heap.size := ⟨_, rfl⟩
  obtain ⟨G, hG⟩ : ∃ G, G = w1.heap.size := ⟨_, rfl⟩
  rw [← hF] at hF1' hF2 hk3 hs3 hg2 ⊢
  rw [← hG] at hk3 hg2 hb13 s1 ⊢
  have HG := Lib.hid hG
  clear hF1 hgrow2 hown2 hk2 hb3 hb2 e0 hF hG
  have hro : Hid (∀ W', Below G w1 W' → Rd W' (.slice oa n oc) (ints (ordTo (ltC ls) n)) ∧ W'.cell? ⟨w.heap.size, 0, none⟩ = some (.slice a1 n c1) ∧ Rd W' (.slice a1 n c1) ls) := Lib.hid fun W' hW' => by
    rw [HG.out] at hW'
    have := hoo.rd.later hW'
    exact ⟨this, by rw [hW'.cell (p := ⟨w.heap.size, 0, none⟩) (by show w.heap.size < w1.heap.size; rw [← HG.out]; omega)]; exact x1, by have := (hrW.out.later hb1).later hW'; rw [← HN.out] at this; exact this⟩
  clear hoo x1
  go_loopw [29] (fun i wr => ∃ t : Nat, t ≤ n ∧ i = .int .i64 t ∧ OwnK wr G (F + 2) wr.heap.size n n (midO r ls t) ∧ A6 wr F z6 ∧ A6 wr (F + 1) (dig r 6 (nT r ls t)) ∧ nT r ls t ≤ pw r 6 ∧ Below G w1 wr ∧ F + 2 ≤ wr.heap.size) (fun i wr => n - (intOf i).toNat)
  case atStart => exact ⟨0, Nat.zero_le _, rfl, by rw [hs3]; exact hk3, hF1', hF2, by rw [nT_zero]; have := pw_pos r1 6; omega, hb13, by omega⟩
  case round =>
    obtain ⟨t, ht, rfl, hown, hA1, hA2, hcap, hbl, hsz⟩ := hrel
    by_cases hlt : t < n
    · have hltn : t < ls.length := by rw [← HN.out]; exact hlt
      obtain ⟨hO, hcD, hLs⟩ := hro.out _ hbl
      obtain ⟨og, oo, e1, hog, hoc⟩ := hO.at_ (by rw [hlo]) t hlt
      subst e1
      obtain ⟨i, hie⟩ : ∃ i, i = oAt ls t := ⟨_, rfl⟩
      have hoi : (ints (ordTo (ltC ls) n))[t]?.getD 0 = (i : Int) := by
        rw [hie, oAt, ← HN.out, ints, List.getElem?_map, List.getD_eq_getElem?_getD, List.getElem?_eq_getElem (by rw [ordTo_len]; exact hlt)]; rfl
      rw [hoi] at hoc
      have hin : i < n := by rw [hie, HN.out]; exact oAt_lt hltn
      obtain ⟨lg, lo, e2, hlg, hlc⟩ := hLs.at_ HN.out i hin
      subst e2
      have hln := nth_lg HLg.out (show i < ls.length by rw [← HN.out]; exact hin)
      obtain ⟨l, hle⟩ := Int.eq_ofNat_of_zero_le (show 0 ≤ nth ls i by omega)
      have hlc' : wr.cell? ⟨lg, lo + i, none⟩ = some (.int .i64 (l : Int)) := by rw [hlc]; unfold nth at hle; rw [hle]
      rw [hle] at hln
      have hl1 : 1 ≤ l := by omega
      have hl6 : l ≤ 6 := by omega
      obtain ⟨D, hD⟩ : ∃ D, D = dig r 6 (nT r ls t) := ⟨_, rfl⟩
      rw [← hD] at hA2
      have HD := Lib.hid hD
      have c0 := (hA2 0 (by decide)).1
      have c1' := (hA2 1 (by decide)).1
      have c2 := (hA2 2 (by decide)).1
      have c3 := (hA2 3 (by decide)).1
      have c4 := (hA2 4 (by decide)).1
      have c5 := (hA2 5 (by decide)).1
      have z0 : wr.cell? ⟨F, 0, none⟩ = some (.int .i64 0) := (hA1 0 (by decide)).1
      have z1 : wr.cell? ⟨F, 1, none⟩ = some (.int .i64 0) := (hA1 1 (by decide)).1
      have z2 : wr.cell? ⟨F, 2, none⟩ = some (.int .i64 0) := (hA1 2 (by decide)).1
      have z3 : wr.cell? ⟨F, 3, none⟩ = some (.int .i64 0) := (hA1 3 (by decide)).1
      have z4 : wr.cell? ⟨F, 4, none⟩ = some (.int .i64 0) := (hA1 4 (by decide)).1
      have z5 : wr.cell? ⟨F, 5, none⟩ = some (.int .i64 0) := (hA1 5 (by decide)).1
      have HIE := Lib.hid hie
      have HLI : Hid (ls[i]?.getD 0 = (l : Int)) := Lib.hid (by unfold nth at hle; exact hle)
      clear hD hie hoi hle hln hlc hO hLs
      have hli : Hid (ls[i]?.getD 0 = (l : Int)) := HLI
      have hDl : D.length = 6 := by rw [HD.out, dig_len]
      have hwl : Hid ((wdC r ls i).length = l) := Lib.hid (by rw [wdC, dig_len]; have := hli.out; unfold nth; rw [this]; rfl)
      have hwt : wdC r ls i = D.take l := by
        have := free_word r1 HLg.out hltn
        rw [← HIE.out, ← HD.out] at this
        rw [← this]
        congr 1
        have := hli.out
        unfold nth; rw [this]; rfl
      have hst : Hid ((midO r ls t).set i (wdC r ls i) = midO r ls (t + 1)) := Lib.hid (by rw [HIE.out]; exact midO_step hltn)
      have hrd : Hid (Rd wr (.slice (some ⟨F + 1, 0, none⟩) l 6) (wdC r ls i)) := Lib.hid (.inr ⟨F + 1, 0, 6, by rw [hwl.out], by omega, by rw [hwl.out]; unfold maxLen; omega, fun j hj => by
        rw [hwl.out] at hj
        rw [hwt, List.getElem?_take, if_pos hj, Nat.zero_add]
        exact (hA2 j (by omega)).1⟩)
      obtain ⟨M, hM1, hM2⟩ := free_split r1 HLg.out hltn
      rw [← HIE.out, ← HD.out, show (nth ls i).toNat = l by have := hli.out; unfold nth; rw [this]; rfl] at hM1
      rw [← HIE.out, show (nth ls i).toNat = l by have := hli.out; unfold nth; rw [this]; rfl] at hM2
      have hMD := Lib.hid hM1
      have hMN := Lib.hid hM2
      have hl6i : (l : Int) ≤ 6 := by omega
      have hsl := fun W => slice6 (F + 1) l hl6i hl1 W
      clear hM1 hM2 hwt
      by_cases ht0 : (0 : Int) < (t : Int)
      · obtain ⟨b, hbq, heq⟩ := eq6_any (nth D 0) (nth D 1) (nth D 2) (nth D 3) (nth D 4) (nth D 5) wr
        have hbz : b = true ↔ nT r ls t = pw r 6 := by
          rw [← free_zero r1 (by omega) (by omega) hcap, ← HD.out, hbq]
          constructor
          · rintro ⟨h0, h1, h2, h3, h4, h5⟩
            rw [← list6 hDl, h0, h1, h2, h3, h4, h5]; rfl
          · intro h; rw [h]; exact ⟨rfl, rfl, rfl, rfl, rfl, rfl⟩
        cases b with
        | true =>
          have hno : Hid (caB ls r = false) := Lib.hid (by rw [hca.out]; exact has_not r1 HLg.out hltn (hbz.1 rfl))
          clear hbz hbq
          go_wp2
          go_ret2
          exact ⟨_, by rw [hno.out]; rfl, by rw [caL_no hno.out]; exact OwnJ.nil _ _ _, hbW.trans ((hb1.trans (hbl.mono s1)).mono hbW.size)⟩
        | false =>
          have hcap2 : Hid (nT r ls (t + 1) ≤ pw r 6) := Lib.hid (nT_cap r1 HLg.out hltn (by
            rcases Int.lt_or_eq_of_le hcap with h | h
            · exact h
            · have := hbz.2 h; cases this))
          clear hbz hbq hcap
          go_wp2_with fail
          refine (clone_any _ (wdC r ls i) _ (by rw [hwl.out]; omega) hrd.out).mono ?_
          rintro e w5 ⟨u, rfl, ho5, hb5⟩
          have s5 := hb5.size
          have hownP := (hown.later hb5).put hin ho5.iv hsz (Nat.le_refl _)
          rw [hst.out, Nat.max_eq_right s5] at hownP
          obtain ⟨⟨y0, yq⟩, yf⟩ := (hown.later hb5).cellAt i hin
          obtain ⟨ua, uc, rfl⟩ := ho5.rd.len
          have hA1' := (hA1.below hb5 (by omega)).far (g := G) (o := i) (x := .slice ua (wdC r ls i).length uc) (by omega)
          have hA2' := (hA2.below hb5 (by omega)).far (g := G) (o := i) (x := .slice ua (wdC r ls i).length uc) (by omega)
          have hb6 := (hbl.trans (hb5.mono (by omega))).setCell (p := ⟨G, i, none⟩) (Nat.le_refl _) (.slice ua (wdC r ls i).length uc)
          have hsz5 : (w5.setCell ⟨G, i, none⟩ (.slice ua (wdC r ls i).length uc)).heap.size = w5.heap.size := by simp
          obtain ⟨-, hcD6, hLs6⟩ := hro.out _ hb6
          obtain ⟨lg', lo', e3, hlg6, hlc6⟩ := hLs6.at_ HN.out i hin
          simp only [Option.some.injEq, Addr.mk.injEq, and_true] at e3
          obtain ⟨rfl, rfl⟩ := e3
          rw [hli.out] at hlc6
          have HOP := Lib.hid hownP
          clear hownP c0 c1' c2 c3 c4 c5 z0 z1 z2 z3 z4 z5 hcD hlc' hoc hA1 hA2 hrd ho5 hLs6
          go_wp2
          generalize w5.setCell ⟨G, i, none⟩ (.slice ua (wdC r ls i).length uc) = w6 at *
          have c0 := (hA2' 0 (by decide)).1
          have c1' := (hA2' 1 (by decide)).1
          have c2 := (hA2' 2 (by decide)).1
          have c3 := (hA2' 3 (by decide)).1
          have c4 := (hA2' 4 (by decide)).1
          have c5 := (hA2' 5 (by decide)).1
          have hsz6 : F + 2 ≤ w6.heap.size := by omega
          have HK7 : Hid (∀ W, Below w6.heap.size w6.drew W → A6 W (F + 1) D ∧ A6 W F z6 ∧ OwnK W G (F + 2) w5.heap.size n n (midO r ls (t + 1)) ∧ Below G w1 W ∧ w6.heap.size ≤ W.heap.size) := Lib.hid fun W hW => by
            have hW' : Below w6.heap.size w6 W := ((Below.refl _ w6).drew).trans hW
            exact ⟨hA2'.below hW' (by omega), hA1'.below hW' (by omega), HOP.out.later hW', hb6.trans (hW'.mono (by omega)), hW'.size⟩
          clear hA1' hA2' hb6
          go_region_with ((go_at_call 76; refine (placeBehind_h D r M _ l w6.drew r1 r2 hl1 hl6 hMD hMN).mono ?_; rintro e w7 ⟨E, hE2, hEl, rfl, hb7⟩; obtain ⟨hA7, hz7, ho7, hb8, hs7⟩ := HK7.out _ hb7; have d0 := hA7 0 (by decide); have d1 := hA7 1 (by decide); have d2 := hA7 2 (by decide); have d3 := hA7 3 (by decide); have d4 := hA7 4 (by decide); have d5 := hA7 5 (by decide)))
          all_goals
            have hS := hA7.store hDl (nth E 0) (nth E 1) (nth E 2) (nth E 3) (nth E 4) (nth E 5)
            rw [list6 hEl] at hS
            have hS1 := hz7.far6 (g := F + 1) (by omega) (.int .i64 (nth E 0)) (.int .i64 (nth E 1)) (.int .i64 (nth E 2)) (.int .i64 (nth E 3)) (.int .i64 (nth E 4)) (.int .i64 (nth E 5))
            have hSO := ho7.set6 (b := F + 1) (by omega) (.inl (by omega)) (.int .i64 (nth E 0)) (.int .i64 (nth E 1)) (.int .i64 (nth E 2)) (.int .i64 (nth E 3)) (.int .i64 (nth E 4)) (.int .i64 (nth E 5))
            have hSB := Below.set6 hb8 (b := F + 1) (by omega) (.int .i64 (nth E 0)) (.int .i64 (nth E 1)) (.int .i64 (nth E 2)) (.int .i64 (nth E 3)) (.int .i64 (nth E 4)) (.int .i64 (nth E 5))
            have hSs := size_set6 w7 (F + 1) (.int .i64 (nth E 0)) (.int .i64 (nth E 1)) (.int .i64 (nth E 2)) (.int .i64 (nth E 3)) (.int .i64 (nth E 4)) (.int .i64 (nth E 5))
            generalize (((((w7.setCell ⟨F + 1, 0, none⟩ (.int .i64 (nth E 0))).setCell ⟨F + 1, 1, none⟩ (.int .i64 (nth E 1))).setCell ⟨F + 1, 2, none⟩ (.int .i64 (nth E 2))).setCell ⟨F + 1, 3, none⟩ (.int .i64 (nth E 3))).setCell ⟨F + 1, 4, none⟩ (.int .i64 (nth E 4))).setCell ⟨F + 1, 5, none⟩ (.int .i64 (nth E 5)) = w8 at *
            have hK8 := hSO.wide (C' := w8.heap.size) (by omega)
            clear d0 d1 d2 d3 d4 d5 hA7 hz7 ho7 hb8 hSO
            go_wp2
            go_roundw
            case rel => exact ⟨t + 1, by omega, by go_num, hK8, hS1, by rw [← hE2.out]; exact hS, hcap2.out, hSB, by omega⟩
            case measure => simp [intOf]; omega
      · have hcap2 : Hid (nT r ls (t + 1) ≤ pw r 6) := Lib.hid (nT_cap r1 HLg.out hltn (by
          have : t = 0 := by omega
          rw [this, nT_zero]
          have := pw_pos r1 6; omega))
        clear hcap
        go_wp2_with fail
        refine (clone_any _ (wdC r ls i) _ (by rw [hwl.out]; omega) hrd.out).mono ?_
        rintro e w5 ⟨u, rfl, ho5, hb5⟩
        have s5 := hb5.size
        have hownP := (hown.later hb5).put hin ho5.iv hsz (Nat.le_refl _)
        rw [hst.out, Nat.max_eq_right s5] at hownP
        obtain ⟨⟨y0, yq⟩, yf⟩ := (hown.later hb5).cellAt i hin
        obtain ⟨ua, uc, rfl⟩ := ho5.rd.len
        have hA1' := (hA1.below hb5 (by omega)).far (g := G) (o := i) (x := .slice ua (wdC r ls i).length uc) (by omega)
        have hA2' := (hA2.below hb5 (by omega)).far (g := G) (o := i) (x := .slice ua (wdC r ls i).length uc) (by omega)
        have hb6 := (hbl.trans (hb5.mono (by omega))).setCell (p := ⟨G, i, none⟩) (Nat.le_refl _) (.slice ua (wdC r ls i).length uc)
        have hsz5 : (w5.setCell ⟨G, i, none⟩ (.slice ua (wdC r ls i).length uc)).heap.size = w5.heap.size := by simp
        obtain ⟨-, hcD6, hLs6⟩ := hro.out _ hb6
        obtain ⟨lg', lo', e3, hlg6, hlc6⟩ := hLs6.at_ HN.out i hin
        simp only [Option.some.injEq, Addr.mk.injEq, and_true] at e3
        obtain ⟨rfl, rfl⟩ := e3
        rw [hli.out] at hlc6
        have HOP := Lib.hid hownP
        clear hownP c0 c1' c2 c3 c4 c5 z0 z1 z2 z3 z4 z5 hcD hlc' hoc hA1 hA2 hrd ho5 hLs6
        go_wp2
        generalize w5.setCell ⟨G, i, none⟩ (.slice ua (wdC r ls i).length uc) = w6 at *
        have c0 := (hA2' 0 (by decide)).1
        have c1' := (hA2' 1 (by decide)).1
        have c2 := (hA2' 2 (by decide)).1
        have c3 := (hA2' 3 (by decide)).1
        have c4 := (hA2' 4 (by decide)).1
        have c5 := (hA2' 5 (by decide)).1
        have hsz6 : F + 2 ≤ w6.heap.size := by omega
        have HK7 : Hid (∀ W, Below w6.heap.size w6.drew W → A6 W (F + 1) D ∧ A6 W F z6 ∧ OwnK W G (F + 2) w5.heap.size n n (midO r ls (t + 1)) ∧ Below G w1 W ∧ w6.heap.size ≤ W.heap.size) := Lib.hid fun W hW => by
          have hW' : Below w6.heap.size w6 W := ((Below.refl _ w6).drew).trans hW
          exact ⟨hA2'.below hW' (by omega), hA1'.below hW' (by omega), HOP.out.later hW', hb6.trans (hW'.mono (by omega)), hW'.size⟩
        clear hA1' hA2' hb6
        go_region_with ((go_at_call 76; refine (placeBehind_h D r M _ l w6.drew r1 r2 hl1 hl6 hMD hMN).mono ?_; rintro e w7 ⟨E, hE2, hEl, rfl, hb7⟩; obtain ⟨hA7, hz7, ho7, hb8, hs7⟩ := HK7.out _ hb7; have d0 := hA7 0 (by decide); have d1 := hA7 1 (by decide); have d2 := hA7 2 (by decide); have d3 := hA7 3 (by decide); have d4 := hA7 4 (by decide); have d5 := hA7 5 (by decide)))
        all_goals
          have hS := hA7.store hDl (nth E 0) (nth E 1) (nth E 2) (nth E 3) (nth E 4) (nth E 5)
          rw [list6 hEl] at hS
          have hS1 := hz7.far6 (g := F + 1) (by omega) (.int .i64 (nth E 0)) (.int .i64 (nth E 1)) (.int .i64 (nth E 2)) (.int .i64 (nth E 3)) (.int .i64 (nth E 4)) (.int .i64 (nth E 5))
          have hSO := ho7.set6 (b := F + 1) (by omega) (.inl (by omega)) (.int .i64 (nth E 0)) (.int .i64 (nth E 1)) (.int .i64 (nth E 2)) (.int .i64 (nth E 3)) (.int .i64 (nth E 4)) (.int .i64 (nth E 5))
          have hSB := Below.set6 hb8 (b := F + 1) (by omega) (.int .i64 (nth E 0)) (.int .i64 (nth E 1)) (.int .i64 (nth E 2)) (.int .i64 (nth E 3)) (.int .i64 (nth E 4)) (.int .i64 (nth E 5))
          have hSs := size_set6 w7 (F + 1) (.int .i64 (nth E 0)) (.int .i64 (nth E 1)) (.int .i64 (nth E 2)) (.int .i64 (nth E 3)) (.int .i64 (nth E 4)) (.int .i64 (nth E 5))
          generalize (((((w7.setCell ⟨F + 1, 0, none⟩ (.int .i64 (nth E 0))).setCell ⟨F + 1, 1, none⟩ (.int .i64 (nth E 1))).setCell ⟨F + 1, 2, none⟩ (.int .i64 (nth E 2))).setCell ⟨F + 1, 3, none⟩ (.int .i64 (nth E 3))).setCell ⟨F + 1, 4, none⟩ (.int .i64 (nth E 4))).setCell ⟨F + 1, 5, none⟩ (.int .i64 (nth E 5)) = w8 at *
          have hK8 := hSO.wide (C' := w8.heap.size) (by omega)
          clear d0 d1 d2 d3 d4 d5 hA7 hz7 ho7 hb8 hSO
          go_wp2
          go_roundw
          case rel => exact ⟨t + 1, by omega, by go_num, hK8, hS1, by rw [← hE2.out]; exact hS, hcap2.out, hSB, by omega⟩
          case measure => simp [intOf]; omega
    · have htn : t = n := by omega
      have hyes := has_end r1 HLg.out (by rw [← HN.out, ← htn]; exact hcap)
      have hcy : Hid (caB ls r = true) := Lib.hid (by rw [hca.out]; exact hyes)
      have hfin : Hid (OwnJ wr w.heap.size wr.heap.size (.slice (some ⟨G, 0, none⟩) n n) (caL ls r)) := Lib.hid (by
        rw [caL_yes hcy.out, ← midO_all, ← (htn.trans HN.out)]
        exact hown.toJ (by omega) (by omega) (Nat.le_refl _))
      clear hown hA1 hA2 hcap hyes
      go_wp2
      go_ret2
      exact ⟨_, by rw [hcy.out]; rfl, hfin.out, hbW.trans ((hb1.trans (hbl.mono s1)).mono hbW.size)⟩
end Go.Proofs.Ytgceaffcalkbgaa
