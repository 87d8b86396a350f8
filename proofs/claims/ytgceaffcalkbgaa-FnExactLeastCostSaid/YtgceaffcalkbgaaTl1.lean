/- Chapter 4: the program's table of rests, walked. -/
import Derived.Test.YtgceaffcalkbgaaTl0
import Derived.BigRegion
namespace Go.Proofs.Ytgceaffcalkbgaa
open Go.RowKit
set_option linter.unusedSimpArgs false
set_option linter.unusedVariables false

/-- The block b has, as one array, the cells xs. -/
def RowX (w : World) (b : Nat) (xs : List Value) : Prop := w.ownsRow b 75 10584 (.slice (some ⟨b, 0, none⟩) 1 1) 1 xs
theorem RowX.len {w : World} {b : Nat} {xs : List Value} (h : RowX w b xs) : xs.length = 10584 := by have := h.1; omega
theorem RowX.cell {w : World} {b j : Nat} {xs : List Value} {v : Value} (h : RowX w b xs) (hv : xs[j]? = some v) : w.cell? ⟨b, j, none⟩ = some v := by
  have hj : j < xs.length := (List.getElem?_eq_some_iff.1 hv).1
  rw [World.ownsRow.cellAt h j (by rw [← h.len]; omega)]
  exact hv
theorem RowX.frozen {w : World} {b : Nat} {xs : List Value} (h : RowX w b xs) (j : Nat) : w.frozen? ⟨b, j, none⟩ = false := World.ownsRow.frozenAt h j
theorem RowX.lt {w : World} {b : Nat} {xs : List Value} (h : RowX w b xs) : b < w.heap.size := (World.ownsRow.lt h b rfl).2
theorem RowX.later {w w' : World} {b : Nat} {xs : List Value} (h : RowX w b xs) (hb : Below w.heap.size w w') : RowX w' b xs := row_at h fun k hk => hb.block k (World.ownsRow.lt h k hk).2
theorem RowX.set {w : World} {b : Nat} {xs : List Value} (h : RowX w b xs) (j : Nat) (u : Value) : RowX (w.setCell ⟨b, j, none⟩ u) b (xs.set j u) := (World.ownsRow.stored (g := b) (n := 1) (cap := 1) h j u).1
theorem RowX.block {w : World} {b : Nat} {xs : List Value} (h : RowX w b xs) : w.heap[b]? = some (.cells xs.toArray 75 (0, 0)) := by
  rcases h.2 with ⟨hv, -⟩ | ⟨g, cap, cur, hv, hg, hh, hc, hm, hcs, ht⟩
  · cases hv
  · simp only [Value.slice.injEq, Option.some.injEq, Addr.mk.injEq, and_true, true_and] at hv
    obtain ⟨hv1, hv2⟩ := hv
    subst hv1
    subst hv2
    rw [List.take_of_length_le (by rw [Array.length_toList, hcs]; omega)] at ht
    rw [hh, ← ht]
theorem RowX.made (w : World) (c : Array Value) (hc : c.size = 10584) : RowX (w.alloc (.cells c 75)) w.heap.size c.toList := by
  refine ⟨by rw [Array.length_toList, hc], .inr ⟨w.heap.size, 1, c, rfl, Nat.le_refl _, heap_alloc_last w _, Nat.le_refl _, by unfold maxLen; omega, by omega, ?_⟩⟩
  rw [List.take_of_length_le (by rw [Array.length_toList, hc]; omega)]
theorem tK_bd {S : List Int} {R lim h d f : Nat} (hS : SmW S) (hh : h ≤ lim) (hl : lim ≤ 6) (hd : d ≤ S.length) : 0 ≤ tK S R lim h d f ∧ tK S R lim h d f ≤ 2400000 := by
  unfold tK
  split
  · rename_i hc
    have h1 := cC_bd (R := R) hS (show h ≤ 6 by omega) d f hd
    have h2 := rest_le hS d
    have h3 := mul_bd (show 0 ≤ (lim : Int) - h by omega) (show (lim : Int) - h ≤ 6 by omega) h2.1 h2.2
    unfold never at *
    omega
  · omega

set_option maxRecDepth 100000 in
set_option maxHeartbeats 40000000 in
theorem rests_any (v : Value) (S : List Int) (R lim : Nat) (w : World) (hS : SmW S) (hR1 : 1 ≤ R) (hR : R ≤ 60) (hl1 : 1 ≤ lim) (hlim : lim ≤ 6) (hr : Rd w v S) :
    Calls Try.prog 58 #[v, .int .i64 (R : Int), .int .i64 (lim : Int)] w fun e w' => ∃ xs : List Value, e = .returned (.agg xs.toArray) ∧ TabE xs S R lim 0 0 0 ∧ Below w.heap.size w w' := by
  obtain ⟨z1, z2⟩ := zero_of_info tab_info
  obtain ⟨c, hc⟩ : ∃ c, c = cZ := ⟨_, rfl⟩
  rw [← hc] at z1
  have h20 := hS.1
  have hc0 : c[(lim + 1) * 1323]? = some (.bool false) := by
    have := (cZ_at (l := lim + 1) (wt := 0) (f := 0) (by omega) (by omega) (by omega)).1
    rw [show (lim + 1) * 1323 + 0 * 63 + 0 * 3 = (lim + 1) * 1323 by omega] at this
    rw [hc]
    simpa using this
  have hcs : c.size = 10584 := by rw [hc]; exact cZ_size
  have h0 : Hid (∃ xs, RowX ((w.alloc (.cells c 75)).alloc (.cells (c.setIfInBounds ((lim + 1) * 1323) (.bool true)) 75)) (w.heap.size + 1) xs ∧ TabE xs S R lim lim 0 0 ∧
      ((w.alloc (.cells c 75)).alloc (.cells (c.setIfInBounds ((lim + 1) * 1323) (.bool true)) 75)).heap[w.heap.size]? = some (.cells c 75 (0, 0)) ∧
      Below w.heap.size w ((w.alloc (.cells c 75)).alloc (.cells (c.setIfInBounds ((lim + 1) * 1323) (.bool true)) 75))) := Lib.hid (by
    have h1 := RowX.made (w.alloc (.cells c 75)) (c.setIfInBounds ((lim + 1) * 1323) (.bool true)) (by rw [Array.size_setIfInBounds]; exact hcs)
    rw [show (w.alloc (.cells c 75)).heap.size = w.heap.size + 1 by simp] at h1
    have b1 := (Below.refl w.heap.size w).alloc (Nat.le_refl _) (.cells c 75)
    refine ⟨_, h1, by rw [Array.toList_setIfInBounds, hc]; exact TabE.start h20 hlim, ?_, b1.alloc b1.size _⟩
    show ((w.heap.push _).push _)[w.heap.size]? = _
    rw [Array.getElem?_push, if_neg (by simp), Array.getElem?_push, if_pos rfl])
  have HC := Lib.hid hc
  obtain ⟨a0, cap, rfl⟩ := hr.len
  obtain ⟨n, hn⟩ : ∃ n, n = S.length := ⟨_, rfl⟩
  rw [← hn] at h20 ⊢
  have H1 := Lib.hid hr
  have HS := Lib.hid hS
  have HN := Lib.hid hn
  have HZ2 := Lib.hid z2
  clear hn hc hr hS z2 hcs
  go_enter Try.func58, Try.ntmps58
  go_wp2
  generalize (w.alloc (.cells c 75)).alloc (.cells (c.setIfInBounds ((lim + 1) * 1323) (.bool true)) 75) = W1 at *
  clear hc0 z1
  go_loopw [8] (fun i wr => ∃ L : Nat, L ≤ lim ∧ i = .int .i64 L ∧ Hid (∃ xs, RowX wr (w.heap.size + 1) xs ∧ TabE xs S R lim L 0 0 ∧ wr.heap[w.heap.size]? = some (.cells c 75 (0, 0)) ∧ Below w.heap.size w wr)) (fun i wr => (intOf i).toNat)
  case atStart => exact ⟨lim, Nat.le_refl _, rfl, h0⟩
  case round =>
    obtain ⟨L, hL, rfl, hX⟩ := hrel
    cases L with
    | zero =>
      obtain ⟨xs, x1, x2, x3, x4⟩ := hX.out
      have hsz : (Try.prog.info? 75).map (·.size) = some xs.toArray.size := by rw [HZ2.out, List.size_toArray, x1.len]
      have hold : c.size = xs.toArray.size := by rw [show xs.toArray.size = xs.length from List.size_toArray, x1.len, HC.out, cZ_size]
      have hone : xs.toArray.all (·.oneCell') = true := by have := x2.2.1; simpa using this
      have hblk := x1.block
      have hbw : Below w.heap.size w (wr.setRow w.heap.size xs.toArray) := x4.trans ⟨rfl, rfl, rfl, by simp [World.setRow], fun k hk => setRow_other wr w.heap.size k xs.toArray (by omega)⟩
      have hfin : (wr.setRow w.heap.size xs.toArray).heap[w.heap.size]? = some (.cells xs.toArray 75 (0, 0)) := setRow_heap wr w.heap.size c _ _ _ x3
      have HSZ := Lib.hid hsz
      have HOL := Lib.hid hold
      have HON := Lib.hid hone
      have HBK := Lib.hid hblk
      have HX3 := Lib.hid x3
      have HFI := Lib.hid hfin
      have HX2 := Lib.hid x2
      clear hsz hold hone hblk hfin x1 x2 x3 x4 hX
      go_wp2_with (first
        | (refine wpList_load_row rfl 75 _ rfl (w.heap.size + 1) rfl 75 xs.toArray (0, 0) _ HBK.out Try.underlying75 rfl HSZ.out ?_)
        | (refine wpList_store_row rfl 75 _ _ rfl w.heap.size xs.toArray rfl rfl 75 c HX3.out HSZ.out HOL.out HON.out ?_))
      refine bodyPost_ret (results_cell_row rfl _ _ w.heap.size 75 xs.toArray (0, 0) _ rfl HFI.out Try.underlying75 rfl HSZ.out) rfl ?_
      exact ⟨xs, rfl, HX2.out, hbw⟩
    | succ L =>
      have hL1 : (1 : Int) ≤ ((L + 1 : Nat) : Int) := by omega
      have hL1' : (1 : Int) ≤ (L : Int) + 1 := by omega
      go_wp2
      go_loopw [29] (fun i wr => ∃ W : Nat, W ≤ n + 1 ∧ i = .int .i64 W ∧ Hid (∃ xs, RowX wr (w.heap.size + 1) xs ∧ TabE xs S R lim (L + 1) W 0 ∧ wr.heap[w.heap.size]? = some (.cells c 75 (0, 0)) ∧ Below w.heap.size w wr)) (fun i wr => n + 1 - (intOf i).toNat)
      case atStart => exact ⟨0, Nat.zero_le _, rfl, hX⟩
      case round =>
        obtain ⟨W, hW, rfl, hX2⟩ := hrel
        by_cases hWn : W ≤ n
        · have hWi : (W : Int) < (n : Int) + 1 := by omega
          go_wp2
          go_loopw [34] (fun i wr => ∃ F : Nat, F ≤ W + 1 ∧ i = .int .i64 F ∧ Hid (∃ xs, RowX wr (w.heap.size + 1) xs ∧ TabE xs S R lim (L + 1) W F ∧ wr.heap[w.heap.size]? = some (.cells c 75 (0, 0)) ∧ Below w.heap.size w wr)) (fun i wr => W + 1 - (intOf i).toNat)
          case atStart => exact ⟨0, Nat.zero_le _, rfl, hX2⟩
          case round =>
            obtain ⟨F, hF, rfl, hX3⟩ := hrel
            by_cases hFW : F ≤ W
            · obtain ⟨xs, x1, x2, x3, x4⟩ := hX3.out
              have hwn : w.heap.size + 1 < wr.heap.size := x1.lt
              obtain ⟨m, hm⟩ : ∃ m, m = min (F * R) W := ⟨_, rfl⟩
              have hmW : m ≤ W := by omega
              obtain ⟨g0, g1, g2⟩ := x2.2.2 (L + 1 + 1) W m (by unfold DoneAt; omega) (by omega) (by omega) (by rw [← HN.out]; exact hWn) hmW
              have G0 := x1.cell g0
              have G1 := x1.cell g1
              have G2 := x1.cell g2
              have hFR : (F : Int) * (R : Int) = ((F * R : Nat) : Int) := by rw [Int.natCast_mul]
              have hFR2 : F * R ≤ 1200 := by
                have := Nat.mul_le_mul (show F ≤ 20 by omega) hR
                omega
              obtain ⟨fr, hfr⟩ : ∃ x, x = F * R := ⟨_, rfl⟩
              rw [← hfr] at hm hFR hFR2
              have hB0 : 0 ≤ (F : Int) * (R : Int) ∧ (F : Int) * (R : Int) ≤ 1200 := by rw [hFR]; omega
              have hh6 : lim + 1 - (L + 1) = (lim + 1 - (L + 1 + 1)) + 1 := by omega
              have HFIN : Hid (∀ W' : World, Below wr.heap.size wr W' → ∃ xs', RowX (((W'.setCell ⟨w.heap.size + 1, (L + 1) * 1323 + W * 63 + F * 3, none⟩ (.bool (tE S R (lim + 1 - (L + 1)) (S.length - W) F))).setCell ⟨w.heap.size + 1, (L + 1) * 1323 + W * 63 + F * 3 + 1, none⟩ (.int .i64 (tK S R lim (lim + 1 - (L + 1)) (S.length - W) F))).setCell ⟨w.heap.size + 1, (L + 1) * 1323 + W * 63 + F * 3 + 2, none⟩ (.bool (pB S R (lim + 1 - (L + 1)) (S.length - W) F))) (w.heap.size + 1) xs' ∧
                  TabE xs' S R lim (L + 1) W (F + 1) ∧ (((W'.setCell ⟨w.heap.size + 1, (L + 1) * 1323 + W * 63 + F * 3, none⟩ (.bool (tE S R (lim + 1 - (L + 1)) (S.length - W) F))).setCell ⟨w.heap.size + 1, (L + 1) * 1323 + W * 63 + F * 3 + 1, none⟩ (.int .i64 (tK S R lim (lim + 1 - (L + 1)) (S.length - W) F))).setCell ⟨w.heap.size + 1, (L + 1) * 1323 + W * 63 + F * 3 + 2, none⟩ (.bool (pB S R (lim + 1 - (L + 1)) (S.length - W) F))).heap[w.heap.size]? = some (.cells c 75 (0, 0)) ∧
                  Below w.heap.size w (((W'.setCell ⟨w.heap.size + 1, (L + 1) * 1323 + W * 63 + F * 3, none⟩ (.bool (tE S R (lim + 1 - (L + 1)) (S.length - W) F))).setCell ⟨w.heap.size + 1, (L + 1) * 1323 + W * 63 + F * 3 + 1, none⟩ (.int .i64 (tK S R lim (lim + 1 - (L + 1)) (S.length - W) F))).setCell ⟨w.heap.size + 1, (L + 1) * 1323 + W * 63 + F * 3 + 2, none⟩ (.bool (pB S R (lim + 1 - (L + 1)) (S.length - W) F)))) := Lib.hid fun W' hW' => by
                have y1 := x1.later hW'
                refine ⟨_, ((y1.set _ _).set _ _).set _ _, x2.put (by rw [← HN.out]; exact h20) hlim (by omega) (by omega) (by rw [← HN.out]; exact hWn) hFW, ?_, ?_⟩
                · rw [Below.heap_setCell _ _ _ _ (by show w.heap.size ≠ w.heap.size + 1; omega), Below.heap_setCell _ _ _ _ (by show w.heap.size ≠ w.heap.size + 1; omega), Below.heap_setCell _ _ _ _ (by show w.heap.size ≠ w.heap.size + 1; omega), hW'.block _ (by omega)]
                  exact x3
                · exact (((x4.trans (hW'.mono x4.size)).setCell (p := ⟨w.heap.size + 1, _, none⟩) (by show w.heap.size ≤ w.heap.size + 1; omega) _).setCell (p := ⟨w.heap.size + 1, _, none⟩) (by show w.heap.size ≤ w.heap.size + 1; omega) _).setCell (p := ⟨w.heap.size + 1, _, none⟩) (by show w.heap.size ≤ w.heap.size + 1; omega) _
              have HX : Hid (∀ W' : World, Below wr.heap.size wr W' → (∃ u, W'.cell? ⟨w.heap.size + 1, (L + 1) * 1323 + W * 63 + F * 3, none⟩ = some u) ∧ (∃ u, W'.cell? ⟨w.heap.size + 1, (L + 1) * 1323 + W * 63 + F * 3 + 1, none⟩ = some u) ∧ (∃ u, W'.cell? ⟨w.heap.size + 1, (L + 1) * 1323 + W * 63 + F * 3 + 2, none⟩ = some u) ∧
                  W'.frozen? ⟨w.heap.size + 1, (L + 1) * 1323 + W * 63 + F * 3, none⟩ = false ∧ W'.frozen? ⟨w.heap.size + 1, (L + 1) * 1323 + W * 63 + F * 3 + 1, none⟩ = false ∧ W'.frozen? ⟨w.heap.size + 1, (L + 1) * 1323 + W * 63 + F * 3 + 2, none⟩ = false) := Lib.hid fun W' hW' => by
                have y1 := x1.later hW'
                have yP : ∀ j, j < 10584 → ∃ u, W'.cell? ⟨w.heap.size + 1, j, none⟩ = some u := fun j hj => ⟨_, y1.cell (List.getElem?_eq_getElem (by rw [y1.len]; exact hj))⟩
                exact ⟨yP _ (by omega), yP _ (by omega), yP _ (by omega), y1.frozen _, y1.frozen _, y1.frozen _⟩
              by_cases hF0 : F = 0
              · subst hF0
                have hm0 : m = 0 := by rw [Nat.zero_mul] at hfr; omega
                subst hm0
                have hen := entry_none (R := R) (lim := lim) (h := lim + 1 - (L + 1 + 1)) (d := S.length - W) HS.out (by omega) (by omega)
                rw [← hh6] at hen
                rw [hen.1, hen.2.1, hen.2.2] at HFIN
                obtain ⟨eg, heg⟩ : ∃ x, x = tE S R (lim + 1 - (L + 1 + 1)) (S.length - W) 0 := ⟨_, rfl⟩
                obtain ⟨cg, hcg⟩ : ∃ x, x = tK S R lim (lim + 1 - (L + 1 + 1)) (S.length - W) 0 := ⟨_, rfl⟩
                obtain ⟨pg, hpg⟩ : ∃ x, x = pB S R (lim + 1 - (L + 1 + 1)) (S.length - W) 0 := ⟨_, rfl⟩
                rw [← heg] at G0 HFIN
                rw [← hcg] at G1 HFIN
                rw [← hpg] at G2
                simp only [Nat.zero_mul, Nat.add_zero] at G0 G1 G2 HX HFIN
                clear hen heg hcg hpg x1 x2 x3 x4 g0 g1 g2 hX3 hm hfr hFR hB0 hFR2 hmW hh6
                go_wp2
                have hB2 := ((Below.refl wr.heap.size wr).alloc (Nat.le_refl _) (.cells #[.bool eg, .int .i64 cg, .bool pg] 71)).alloc (by simp) (.cells #[.bool eg, .int .i64 cg, .bool false] 71)
                obtain ⟨⟨u0, U0⟩, ⟨u1, U1⟩, ⟨u2, U2⟩, Z0, Z1, Z2⟩ := HX.out _ hB2
                have HF := Lib.hid (HFIN.out _ hB2.drew)
                have k0 : ((wr.alloc (.cells #[.bool eg, .int .i64 cg, .bool pg] 71)).alloc (.cells #[.bool eg, .int .i64 cg, .bool false] 71)).cell? ⟨wr.heap.size + 1, 0, none⟩ = some (.bool eg) := by simp [go_sem]
                have k1 : ((wr.alloc (.cells #[.bool eg, .int .i64 cg, .bool pg] 71)).alloc (.cells #[.bool eg, .int .i64 cg, .bool false] 71)).cell? ⟨wr.heap.size + 1, 1, none⟩ = some (.int .i64 cg) := by simp [go_sem]
                have k2 : ((wr.alloc (.cells #[.bool eg, .int .i64 cg, .bool pg] 71)).alloc (.cells #[.bool eg, .int .i64 cg, .bool false] 71)).cell? ⟨wr.heap.size + 1, 2, none⟩ = some (.bool false) := by simp [go_sem]
                have hL8 : (0 : Int) ≤ (L : Int) + 1 ∧ (L : Int) + 1 < 8 := by omega
                have hW21 : (W : Int) < 21 := by omega
                clear hB2 HFIN HX G0 G1 G2
                generalize (wr.alloc (.cells #[.bool eg, .int .i64 cg, .bool pg] 71)).alloc (.cells #[.bool eg, .int .i64 cg, .bool false] 71) = W2 at *
                go_region
                all_goals
                  go_wp2
                  go_roundw
                  case rel => exact ⟨1, by omega, rfl, HF⟩
                  case measure => simp [intOf]
              · obtain ⟨f, rfl⟩ : ∃ f, F = f + 1 := ⟨F - 1, by omega⟩
                obtain ⟨g, rfl⟩ : ∃ g, W = g + 1 := ⟨W - 1, by omega⟩
                obtain ⟨d, hd⟩ : ∃ d, d = S.length - (g + 1) := ⟨_, rfl⟩
                have hdn : d < S.length := by have := HN.out; omega
                have hd1 : S.length - g = d + 1 := by have := HN.out; omega
                have hd2 : S.length - d = g + 1 := by have := HN.out; omega
                obtain ⟨b0, b1, b2⟩ := x2.2.2 (L + 1) g f (by unfold DoneAt; omega) (by omega) (by omega) (by have := HN.out; omega) (by omega)
                have B0 := x1.cell b0
                have B1 := x1.cell b1
                have B2 := x1.cell b2
                have hen := entry_put (R := R) (lim := lim) (h := lim + 1 - (L + 1 + 1)) (d := d) (f := f) HS.out (by omega) hdn (by omega)
                have hcl := clip_E (S := S) (R := R) (h := lim + 1 - (L + 1 + 1)) (d := d) (f := f + 1) (m := m) lim hR1 (by omega) (by rw [hd2, hm, hfr])
                simp only at hen
                rw [← hh6, ← hcl.1, ← hcl.2, show (lim : Int) - ((lim + 1 - (L + 1 + 1) : Nat) : Int) = (L : Int) + 1 by omega] at hen
                rw [← hd] at G0 G1 G2 HFIN
                rw [hd1] at B0 B1 B2
                have hcbb := tK_bd (R := R) (lim := lim) (h := lim + 1 - (L + 1)) (d := d + 1) (f := f) HS.out (by omega) hlim (by omega)
                have hxb := HS.out.2 d hdn
                obtain ⟨gw, ow, e1, hgw, p1⟩ := (H1.out.below x4 (Nat.le_refl _)).at_ rfl d hdn
                subst e1
                rw [show S[d]?.getD 0 = nth S d from rfl] at p1
                obtain ⟨eg, heg⟩ : ∃ x, x = tE S R (lim + 1 - (L + 1 + 1)) d m := ⟨_, rfl⟩
                obtain ⟨cg, hcg⟩ : ∃ x, x = tK S R lim (lim + 1 - (L + 1 + 1)) d m := ⟨_, rfl⟩
                obtain ⟨pg, hpg⟩ : ∃ x, x = pB S R (lim + 1 - (L + 1 + 1)) d m := ⟨_, rfl⟩
                obtain ⟨eb, heb⟩ : ∃ x, x = tE S R (lim + 1 - (L + 1)) (d + 1) f := ⟨_, rfl⟩
                obtain ⟨cb, hcb⟩ : ∃ x, x = tK S R lim (lim + 1 - (L + 1)) (d + 1) f := ⟨_, rfl⟩
                obtain ⟨pb, hpb⟩ : ∃ x, x = pB S R (lim + 1 - (L + 1)) (d + 1) f := ⟨_, rfl⟩
                obtain ⟨x, hxe⟩ : ∃ x, x = nth S d := ⟨_, rfl⟩
                rw [← heg] at G0 hen
                rw [← hcg] at G1 hen
                rw [← hpg] at G2
                rw [← heb] at B0 hen
                rw [← hcb] at B1 hen hcbb
                rw [← hpb] at B2
                rw [← hxe] at p1 hen hxb
                have hmx := mul_bd (show 0 ≤ (L : Int) + 1 by omega) (show (L : Int) + 1 ≤ 6 by omega) hxb.1 hxb.2
                have he1 : ¬ (w.heap.size + 1 = wr.heap.size) := by omega
                have he2 : ¬ (w.heap.size = wr.heap.size) := by omega
                have he3 : ¬ (w.heap.size = wr.heap.size + 1) := by omega
                have he4 : w.heap.size < wr.heap.size := by omega
                have he5 : ¬ (w.heap.size + 1 = wr.heap.size + 1) := by omega
                have hL8 : (0 : Int) ≤ (L : Int) + 1 ∧ (L : Int) + 1 < 8 := by omega
                have hW21 : (g : Int) + 1 < 21 := by omega
                have hg21 : (g : Int) < 21 := by omega
                have hf21 : (f : Int) + 1 < 21 := by omega
                have hm21 : m < 21 := by omega
                have HEN := Lib.hid hen
                have HFR : Hid (((f : Int) + 1) * (R : Int) = (fr : Int)) := Lib.hid (by rw [← hFR]; push_cast; rfl)
                have hfr0 : 0 ≤ ((f : Int) + 1) * (R : Int) ∧ ((f : Int) + 1) * (R : Int) ≤ 1200 := by rw [HFR.out]; omega
                have HM := Lib.hid hm
                have HFE := Lib.hid hfr
                have hn0 : 0 ≤ (n : Int) - ((g : Int) + 1) ∧ (n : Int) - ((g : Int) + 1) < (n : Int) := by omega
                have hde : d = n - (g + 1) := by have := HN.out; omega
                rw [hde] at p1
                clear hen heg hcg hpg heb hcb hpb hxe x1 x2 x3 x4 g0 g1 g2 b0 b1 b2 hX3 hFR hFR2 hB0 hh6 hd hd1 hd2 hcl hm hfr hde
                --ARMS
                by_cases hmA : (g : Int) + 1 < ((f : Int) + 1) * (R : Int)
                · have hme : m = g + 1 := by have h1 := HFR.out; have h2 := HM.out; omega
                  subst hme
                  have hmC : ¬ ((f : Int) + 1) * (R : Int) ≤ (g : Int) + 1 := by omega
                  cases eb with
                  | false =>
                    have h3 := HEN.out
                    rw [if_neg (by simp)] at h3
                    rw [h3.1, h3.2.1, h3.2.2] at HFIN
                    clear h3
                    go_wp2
                    have hB3 := (((Below.refl wr.heap.size wr).alloc (Nat.le_refl _) (.cells #[.bool eg, .int .i64 cg, .bool pg] 71)).alloc (by simp) (.cells #[.bool eg, .int .i64 cg, .bool false] 71)).alloc (by simp; omega) (.cells #[.bool false, .int .i64 cb, .bool pb] 71)
                    have q1 : (((wr.alloc (.cells #[.bool eg, .int .i64 cg, .bool pg] 71)).alloc (.cells #[.bool eg, .int .i64 cg, .bool false] 71)).alloc (.cells #[.bool false, .int .i64 cb, .bool pb] 71)).cell? ⟨gw, ow + (n - (g + 1)), none⟩ = some (.int .i64 x) := by rw [hB3.cell (p := ⟨gw, ow + (n - (g + 1)), none⟩) (Nat.lt_of_lt_of_le hgw (Nat.le_refl _))]; exact p1
                    have k0 : (((wr.alloc (.cells #[.bool eg, .int .i64 cg, .bool pg] 71)).alloc (.cells #[.bool eg, .int .i64 cg, .bool false] 71)).alloc (.cells #[.bool false, .int .i64 cb, .bool pb] 71)).cell? ⟨wr.heap.size + 1, 0, none⟩ = some (.bool eg) := by simp [go_sem]
                    have z0 : (((wr.alloc (.cells #[.bool eg, .int .i64 cg, .bool pg] 71)).alloc (.cells #[.bool eg, .int .i64 cg, .bool false] 71)).alloc (.cells #[.bool false, .int .i64 cb, .bool pb] 71)).frozen? ⟨wr.heap.size + 1, 0, none⟩ = false := by simp [go_sem]
                    have k1 : (((wr.alloc (.cells #[.bool eg, .int .i64 cg, .bool pg] 71)).alloc (.cells #[.bool eg, .int .i64 cg, .bool false] 71)).alloc (.cells #[.bool false, .int .i64 cb, .bool pb] 71)).cell? ⟨wr.heap.size + 1, 1, none⟩ = some (.int .i64 cg) := by simp [go_sem]
                    have z1 : (((wr.alloc (.cells #[.bool eg, .int .i64 cg, .bool pg] 71)).alloc (.cells #[.bool eg, .int .i64 cg, .bool false] 71)).alloc (.cells #[.bool false, .int .i64 cb, .bool pb] 71)).frozen? ⟨wr.heap.size + 1, 1, none⟩ = false := by simp [go_sem]
                    have k2 : (((wr.alloc (.cells #[.bool eg, .int .i64 cg, .bool pg] 71)).alloc (.cells #[.bool eg, .int .i64 cg, .bool false] 71)).alloc (.cells #[.bool false, .int .i64 cb, .bool pb] 71)).cell? ⟨wr.heap.size + 1, 2, none⟩ = some (.bool false) := by simp [go_sem]
                    have z2 : (((wr.alloc (.cells #[.bool eg, .int .i64 cg, .bool pg] 71)).alloc (.cells #[.bool eg, .int .i64 cg, .bool false] 71)).alloc (.cells #[.bool false, .int .i64 cb, .bool pb] 71)).frozen? ⟨wr.heap.size + 1, 2, none⟩ = false := by simp [go_sem]
                    have j0 : (((wr.alloc (.cells #[.bool eg, .int .i64 cg, .bool pg] 71)).alloc (.cells #[.bool eg, .int .i64 cg, .bool false] 71)).alloc (.cells #[.bool false, .int .i64 cb, .bool pb] 71)).cell? ⟨wr.heap.size + 1 + 1, 0, none⟩ = some (.bool false) := by simp [go_sem]
                    have j1 : (((wr.alloc (.cells #[.bool eg, .int .i64 cg, .bool pg] 71)).alloc (.cells #[.bool eg, .int .i64 cg, .bool false] 71)).alloc (.cells #[.bool false, .int .i64 cb, .bool pb] 71)).cell? ⟨wr.heap.size + 1 + 1, 1, none⟩ = some (.int .i64 cb) := by simp [go_sem]
                    have j2 : (((wr.alloc (.cells #[.bool eg, .int .i64 cg, .bool pg] 71)).alloc (.cells #[.bool eg, .int .i64 cg, .bool false] 71)).alloc (.cells #[.bool false, .int .i64 cb, .bool pb] 71)).cell? ⟨wr.heap.size + 1 + 1, 2, none⟩ = some (.bool pb) := by simp [go_sem]
                    clear G0 G1 G2 B0 B1 B2 p1
                    generalize ((wr.alloc (.cells #[.bool eg, .int .i64 cg, .bool pg] 71)).alloc (.cells #[.bool eg, .int .i64 cg, .bool false] 71)).alloc (.cells #[.bool false, .int .i64 cb, .bool pb] 71) = W3 at *
                    go_region
                    all_goals
                      go_wp2
                      have hB4 := hB3.drew
                      have n0 : (W3.drew).cell? ⟨wr.heap.size + 1, 0, none⟩ = some (.bool eg) := by simpa [go_sem] using k0
                      have n1 : (W3.drew).cell? ⟨wr.heap.size + 1, 1, none⟩ = some (.int .i64 cg) := by simpa [go_sem] using k1
                      have n2 : (W3.drew).cell? ⟨wr.heap.size + 1, 2, none⟩ = some (.bool false) := by simpa [go_sem] using k2
                      obtain ⟨⟨u0, U0⟩, ⟨u1, U1⟩, ⟨u2, U2⟩, Z0, Z1, Z2⟩ := HX.out _ hB4
                      have HF := Lib.hid (HFIN.out _ hB4.drew)
                      clear hB4 hB3 HFIN HX k0 k1 k2 z0 z1 z2 j0 j1 j2 q1
                      generalize W3.drew = W4 at *
                      go_region
                      all_goals
                        go_wp2
                        go_roundw
                        case rel => exact ⟨_, _, _, _, _, _, _, _, _, _, _, _, _, _, _, _, _, _, _, _, _, _, _, _, _, _, _, _, _, _, _, _, _, _, _, _, _, _, _, _, _, _, _, _, _, _, _, _, _, _, _, _, _, _, _, _, _, _, _, _, _, _, _, _, _, _, _, _, _, _, _, ⟨f + 1 + 1, by omega, rfl, HF⟩, rfl⟩
                        case measure => simp [intOf]; omega
                  | true =>
                    cases eg with
                    | false =>
                      have h3 := HEN.out
                      rw [if_pos ⟨rfl, .inl rfl⟩] at h3
                      rw [h3.1, h3.2.1, h3.2.2] at HFIN
                      clear h3
                      go_wp2
                      have hB3 := (((Below.refl wr.heap.size wr).alloc (Nat.le_refl _) (.cells #[.bool false, .int .i64 cg, .bool pg] 71)).alloc (by simp) (.cells #[.bool false, .int .i64 cg, .bool false] 71)).alloc (by simp; omega) (.cells #[.bool true, .int .i64 cb, .bool pb] 71)
                      have q1 : (((wr.alloc (.cells #[.bool false, .int .i64 cg, .bool pg] 71)).alloc (.cells #[.bool false, .int .i64 cg, .bool false] 71)).alloc (.cells #[.bool true, .int .i64 cb, .bool pb] 71)).cell? ⟨gw, ow + (n - (g + 1)), none⟩ = some (.int .i64 x) := by rw [hB3.cell (p := ⟨gw, ow + (n - (g + 1)), none⟩) (Nat.lt_of_lt_of_le hgw (Nat.le_refl _))]; exact p1
                      have k0 : (((wr.alloc (.cells #[.bool false, .int .i64 cg, .bool pg] 71)).alloc (.cells #[.bool false, .int .i64 cg, .bool false] 71)).alloc (.cells #[.bool true, .int .i64 cb, .bool pb] 71)).cell? ⟨wr.heap.size + 1, 0, none⟩ = some (.bool false) := by simp [go_sem]
                      have z0 : (((wr.alloc (.cells #[.bool false, .int .i64 cg, .bool pg] 71)).alloc (.cells #[.bool false, .int .i64 cg, .bool false] 71)).alloc (.cells #[.bool true, .int .i64 cb, .bool pb] 71)).frozen? ⟨wr.heap.size + 1, 0, none⟩ = false := by simp [go_sem]
                      have k1 : (((wr.alloc (.cells #[.bool false, .int .i64 cg, .bool pg] 71)).alloc (.cells #[.bool false, .int .i64 cg, .bool false] 71)).alloc (.cells #[.bool true, .int .i64 cb, .bool pb] 71)).cell? ⟨wr.heap.size + 1, 1, none⟩ = some (.int .i64 cg) := by simp [go_sem]
                      have z1 : (((wr.alloc (.cells #[.bool false, .int .i64 cg, .bool pg] 71)).alloc (.cells #[.bool false, .int .i64 cg, .bool false] 71)).alloc (.cells #[.bool true, .int .i64 cb, .bool pb] 71)).frozen? ⟨wr.heap.size + 1, 1, none⟩ = false := by simp [go_sem]
                      have k2 : (((wr.alloc (.cells #[.bool false, .int .i64 cg, .bool pg] 71)).alloc (.cells #[.bool false, .int .i64 cg, .bool false] 71)).alloc (.cells #[.bool true, .int .i64 cb, .bool pb] 71)).cell? ⟨wr.heap.size + 1, 2, none⟩ = some (.bool false) := by simp [go_sem]
                      have z2 : (((wr.alloc (.cells #[.bool false, .int .i64 cg, .bool pg] 71)).alloc (.cells #[.bool false, .int .i64 cg, .bool false] 71)).alloc (.cells #[.bool true, .int .i64 cb, .bool pb] 71)).frozen? ⟨wr.heap.size + 1, 2, none⟩ = false := by simp [go_sem]
                      have j0 : (((wr.alloc (.cells #[.bool false, .int .i64 cg, .bool pg] 71)).alloc (.cells #[.bool false, .int .i64 cg, .bool false] 71)).alloc (.cells #[.bool true, .int .i64 cb, .bool pb] 71)).cell? ⟨wr.heap.size + 1 + 1, 0, none⟩ = some (.bool true) := by simp [go_sem]
                      have j1 : (((wr.alloc (.cells #[.bool false, .int .i64 cg, .bool pg] 71)).alloc (.cells #[.bool false, .int .i64 cg, .bool false] 71)).alloc (.cells #[.bool true, .int .i64 cb, .bool pb] 71)).cell? ⟨wr.heap.size + 1 + 1, 1, none⟩ = some (.int .i64 cb) := by simp [go_sem]
                      have j2 : (((wr.alloc (.cells #[.bool false, .int .i64 cg, .bool pg] 71)).alloc (.cells #[.bool false, .int .i64 cg, .bool false] 71)).alloc (.cells #[.bool true, .int .i64 cb, .bool pb] 71)).cell? ⟨wr.heap.size + 1 + 1, 2, none⟩ = some (.bool pb) := by simp [go_sem]
                      clear G0 G1 G2 B0 B1 B2 p1
                      generalize ((wr.alloc (.cells #[.bool false, .int .i64 cg, .bool pg] 71)).alloc (.cells #[.bool false, .int .i64 cg, .bool false] 71)).alloc (.cells #[.bool true, .int .i64 cb, .bool pb] 71) = W3 at *
                      go_region
                      all_goals
                        go_wp2
                        have hB4 := (((hB3.setCell (p := ⟨wr.heap.size + 1, 0, none⟩) (by show wr.heap.size ≤ wr.heap.size + 1; omega) (.bool true)).setCell (p := ⟨wr.heap.size + 1, 1, none⟩) (by show wr.heap.size ≤ wr.heap.size + 1; omega) (.int .i64 (cb + ((L : Int) + 1) * x))).setCell (p := ⟨wr.heap.size + 1, 2, none⟩) (by show wr.heap.size ≤ wr.heap.size + 1; omega) (.bool true)).drew
                        have n0 : ((((W3.setCell ⟨wr.heap.size + 1, 0, none⟩ (.bool true)).setCell ⟨wr.heap.size + 1, 1, none⟩ (.int .i64 (cb + ((L : Int) + 1) * x))).setCell ⟨wr.heap.size + 1, 2, none⟩ (.bool true)).drew).cell? ⟨wr.heap.size + 1, 0, none⟩ = some (.bool true) := by simp [go_sem, k0, k1, k2]
                        have n1 : ((((W3.setCell ⟨wr.heap.size + 1, 0, none⟩ (.bool true)).setCell ⟨wr.heap.size + 1, 1, none⟩ (.int .i64 (cb + ((L : Int) + 1) * x))).setCell ⟨wr.heap.size + 1, 2, none⟩ (.bool true)).drew).cell? ⟨wr.heap.size + 1, 1, none⟩ = some (.int .i64 (cb + ((L : Int) + 1) * x)) := by simp [go_sem, k0, k1, k2]
                        have n2 : ((((W3.setCell ⟨wr.heap.size + 1, 0, none⟩ (.bool true)).setCell ⟨wr.heap.size + 1, 1, none⟩ (.int .i64 (cb + ((L : Int) + 1) * x))).setCell ⟨wr.heap.size + 1, 2, none⟩ (.bool true)).drew).cell? ⟨wr.heap.size + 1, 2, none⟩ = some (.bool true) := by simp [go_sem, k0, k1, k2]
                        obtain ⟨⟨u0, U0⟩, ⟨u1, U1⟩, ⟨u2, U2⟩, Z0, Z1, Z2⟩ := HX.out _ hB4
                        have HF := Lib.hid (HFIN.out _ hB4.drew)
                        clear hB4 hB3 HFIN HX k0 k1 k2 z0 z1 z2 j0 j1 j2 q1
                        generalize (((W3.setCell ⟨wr.heap.size + 1, 0, none⟩ (.bool true)).setCell ⟨wr.heap.size + 1, 1, none⟩ (.int .i64 (cb + ((L : Int) + 1) * x))).setCell ⟨wr.heap.size + 1, 2, none⟩ (.bool true)).drew = W4 at *
                        go_region
                        all_goals
                          go_wp2
                          go_roundw
                          case rel => exact ⟨_, _, _, _, _, _, _, _, _, _, _, _, _, _, _, _, _, _, _, _, _, _, _, _, _, _, _, _, _, _, _, _, _, _, _, _, _, _, _, _, _, _, _, _, _, _, _, _, _, _, _, _, _, _, _, _, _, _, _, _, _, _, _, _, _, _, _, _, _, _, _, ⟨f + 1 + 1, by omega, rfl, HF⟩, rfl⟩
                          case measure => simp [intOf]; omega
                    | true =>
                      by_cases hle : cb + ((L : Int) + 1) * x ≤ cg
                      · have h3 := HEN.out
                        rw [if_pos ⟨rfl, .inr hle⟩] at h3
                        rw [h3.1, h3.2.1, h3.2.2] at HFIN
                        clear h3
                        go_wp2
                        have hB3 := (((Below.refl wr.heap.size wr).alloc (Nat.le_refl _) (.cells #[.bool true, .int .i64 cg, .bool pg] 71)).alloc (by simp) (.cells #[.bool true, .int .i64 cg, .bool false] 71)).alloc (by simp; omega) (.cells #[.bool true, .int .i64 cb, .bool pb] 71)
                        have q1 : (((wr.alloc (.cells #[.bool true, .int .i64 cg, .bool pg] 71)).alloc (.cells #[.bool true, .int .i64 cg, .bool false] 71)).alloc (.cells #[.bool true, .int .i64 cb, .bool pb] 71)).cell? ⟨gw, ow + (n - (g + 1)), none⟩ = some (.int .i64 x) := by rw [hB3.cell (p := ⟨gw, ow + (n - (g + 1)), none⟩) (Nat.lt_of_lt_of_le hgw (Nat.le_refl _))]; exact p1
                        have k0 : (((wr.alloc (.cells #[.bool true, .int .i64 cg, .bool pg] 71)).alloc (.cells #[.bool true, .int .i64 cg, .bool false] 71)).alloc (.cells #[.bool true, .int .i64 cb, .bool pb] 71)).cell? ⟨wr.heap.size + 1, 0, none⟩ = some (.bool true) := by simp [go_sem]
                        have z0 : (((wr.alloc (.cells #[.bool true, .int .i64 cg, .bool pg] 71)).alloc (.cells #[.bool true, .int .i64 cg, .bool false] 71)).alloc (.cells #[.bool true, .int .i64 cb, .bool pb] 71)).frozen? ⟨wr.heap.size + 1, 0, none⟩ = false := by simp [go_sem]
                        have k1 : (((wr.alloc (.cells #[.bool true, .int .i64 cg, .bool pg] 71)).alloc (.cells #[.bool true, .int .i64 cg, .bool false] 71)).alloc (.cells #[.bool true, .int .i64 cb, .bool pb] 71)).cell? ⟨wr.heap.size + 1, 1, none⟩ = some (.int .i64 cg) := by simp [go_sem]
                        have z1 : (((wr.alloc (.cells #[.bool true, .int .i64 cg, .bool pg] 71)).alloc (.cells #[.bool true, .int .i64 cg, .bool false] 71)).alloc (.cells #[.bool true, .int .i64 cb, .bool pb] 71)).frozen? ⟨wr.heap.size + 1, 1, none⟩ = false := by simp [go_sem]
                        have k2 : (((wr.alloc (.cells #[.bool true, .int .i64 cg, .bool pg] 71)).alloc (.cells #[.bool true, .int .i64 cg, .bool false] 71)).alloc (.cells #[.bool true, .int .i64 cb, .bool pb] 71)).cell? ⟨wr.heap.size + 1, 2, none⟩ = some (.bool false) := by simp [go_sem]
                        have z2 : (((wr.alloc (.cells #[.bool true, .int .i64 cg, .bool pg] 71)).alloc (.cells #[.bool true, .int .i64 cg, .bool false] 71)).alloc (.cells #[.bool true, .int .i64 cb, .bool pb] 71)).frozen? ⟨wr.heap.size + 1, 2, none⟩ = false := by simp [go_sem]
                        have j0 : (((wr.alloc (.cells #[.bool true, .int .i64 cg, .bool pg] 71)).alloc (.cells #[.bool true, .int .i64 cg, .bool false] 71)).alloc (.cells #[.bool true, .int .i64 cb, .bool pb] 71)).cell? ⟨wr.heap.size + 1 + 1, 0, none⟩ = some (.bool true) := by simp [go_sem]
                        have j1 : (((wr.alloc (.cells #[.bool true, .int .i64 cg, .bool pg] 71)).alloc (.cells #[.bool true, .int .i64 cg, .bool false] 71)).alloc (.cells #[.bool true, .int .i64 cb, .bool pb] 71)).cell? ⟨wr.heap.size + 1 + 1, 1, none⟩ = some (.int .i64 cb) := by simp [go_sem]
                        have j2 : (((wr.alloc (.cells #[.bool true, .int .i64 cg, .bool pg] 71)).alloc (.cells #[.bool true, .int .i64 cg, .bool false] 71)).alloc (.cells #[.bool true, .int .i64 cb, .bool pb] 71)).cell? ⟨wr.heap.size + 1 + 1, 2, none⟩ = some (.bool pb) := by simp [go_sem]
                        clear G0 G1 G2 B0 B1 B2 p1
                        generalize ((wr.alloc (.cells #[.bool true, .int .i64 cg, .bool pg] 71)).alloc (.cells #[.bool true, .int .i64 cg, .bool false] 71)).alloc (.cells #[.bool true, .int .i64 cb, .bool pb] 71) = W3 at *
                        go_region
                        all_goals
                          go_wp2
                          have hB4 := (((hB3.setCell (p := ⟨wr.heap.size + 1, 0, none⟩) (by show wr.heap.size ≤ wr.heap.size + 1; omega) (.bool true)).setCell (p := ⟨wr.heap.size + 1, 1, none⟩) (by show wr.heap.size ≤ wr.heap.size + 1; omega) (.int .i64 (cb + ((L : Int) + 1) * x))).setCell (p := ⟨wr.heap.size + 1, 2, none⟩) (by show wr.heap.size ≤ wr.heap.size + 1; omega) (.bool true)).drew
                          have n0 : ((((W3.setCell ⟨wr.heap.size + 1, 0, none⟩ (.bool true)).setCell ⟨wr.heap.size + 1, 1, none⟩ (.int .i64 (cb + ((L : Int) + 1) * x))).setCell ⟨wr.heap.size + 1, 2, none⟩ (.bool true)).drew).cell? ⟨wr.heap.size + 1, 0, none⟩ = some (.bool true) := by simp [go_sem, k0, k1, k2]
                          have n1 : ((((W3.setCell ⟨wr.heap.size + 1, 0, none⟩ (.bool true)).setCell ⟨wr.heap.size + 1, 1, none⟩ (.int .i64 (cb + ((L : Int) + 1) * x))).setCell ⟨wr.heap.size + 1, 2, none⟩ (.bool true)).drew).cell? ⟨wr.heap.size + 1, 1, none⟩ = some (.int .i64 (cb + ((L : Int) + 1) * x)) := by simp [go_sem, k0, k1, k2]
                          have n2 : ((((W3.setCell ⟨wr.heap.size + 1, 0, none⟩ (.bool true)).setCell ⟨wr.heap.size + 1, 1, none⟩ (.int .i64 (cb + ((L : Int) + 1) * x))).setCell ⟨wr.heap.size + 1, 2, none⟩ (.bool true)).drew).cell? ⟨wr.heap.size + 1, 2, none⟩ = some (.bool true) := by simp [go_sem, k0, k1, k2]
                          obtain ⟨⟨u0, U0⟩, ⟨u1, U1⟩, ⟨u2, U2⟩, Z0, Z1, Z2⟩ := HX.out _ hB4
                          have HF := Lib.hid (HFIN.out _ hB4.drew)
                          clear hB4 hB3 HFIN HX k0 k1 k2 z0 z1 z2 j0 j1 j2 q1
                          generalize (((W3.setCell ⟨wr.heap.size + 1, 0, none⟩ (.bool true)).setCell ⟨wr.heap.size + 1, 1, none⟩ (.int .i64 (cb + ((L : Int) + 1) * x))).setCell ⟨wr.heap.size + 1, 2, none⟩ (.bool true)).drew = W4 at *
                          go_region
                          all_goals
                            go_wp2
                            go_roundw
                            case rel => exact ⟨_, _, _, _, _, _, _, _, _, _, _, _, _, _, _, _, _, _, _, _, _, _, _, _, _, _, _, _, _, _, _, _, _, _, _, _, _, _, _, _, _, _, _, _, _, _, _, _, _, _, _, _, _, _, _, _, _, _, _, _, _, _, _, _, _, _, _, _, _, _, _, ⟨f + 1 + 1, by omega, rfl, HF⟩, rfl⟩
                            case measure => simp [intOf]; omega
                      · have h3 := HEN.out
                        rw [if_neg (by simp only [Bool.true_eq_false, false_or, true_and]; exact hle)] at h3
                        rw [h3.1, h3.2.1, h3.2.2] at HFIN
                        clear h3
                        go_wp2
                        have hB3 := (((Below.refl wr.heap.size wr).alloc (Nat.le_refl _) (.cells #[.bool true, .int .i64 cg, .bool pg] 71)).alloc (by simp) (.cells #[.bool true, .int .i64 cg, .bool false] 71)).alloc (by simp; omega) (.cells #[.bool true, .int .i64 cb, .bool pb] 71)
                        have q1 : (((wr.alloc (.cells #[.bool true, .int .i64 cg, .bool pg] 71)).alloc (.cells #[.bool true, .int .i64 cg, .bool false] 71)).alloc (.cells #[.bool true, .int .i64 cb, .bool pb] 71)).cell? ⟨gw, ow + (n - (g + 1)), none⟩ = some (.int .i64 x) := by rw [hB3.cell (p := ⟨gw, ow + (n - (g + 1)), none⟩) (Nat.lt_of_lt_of_le hgw (Nat.le_refl _))]; exact p1
                        have k0 : (((wr.alloc (.cells #[.bool true, .int .i64 cg, .bool pg] 71)).alloc (.cells #[.bool true, .int .i64 cg, .bool false] 71)).alloc (.cells #[.bool true, .int .i64 cb, .bool pb] 71)).cell? ⟨wr.heap.size + 1, 0, none⟩ = some (.bool true) := by simp [go_sem]
                        have z0 : (((wr.alloc (.cells #[.bool true, .int .i64 cg, .bool pg] 71)).alloc (.cells #[.bool true, .int .i64 cg, .bool false] 71)).alloc (.cells #[.bool true, .int .i64 cb, .bool pb] 71)).frozen? ⟨wr.heap.size + 1, 0, none⟩ = false := by simp [go_sem]
                        have k1 : (((wr.alloc (.cells #[.bool true, .int .i64 cg, .bool pg] 71)).alloc (.cells #[.bool true, .int .i64 cg, .bool false] 71)).alloc (.cells #[.bool true, .int .i64 cb, .bool pb] 71)).cell? ⟨wr.heap.size + 1, 1, none⟩ = some (.int .i64 cg) := by simp [go_sem]
                        have z1 : (((wr.alloc (.cells #[.bool true, .int .i64 cg, .bool pg] 71)).alloc (.cells #[.bool true, .int .i64 cg, .bool false] 71)).alloc (.cells #[.bool true, .int .i64 cb, .bool pb] 71)).frozen? ⟨wr.heap.size + 1, 1, none⟩ = false := by simp [go_sem]
                        have k2 : (((wr.alloc (.cells #[.bool true, .int .i64 cg, .bool pg] 71)).alloc (.cells #[.bool true, .int .i64 cg, .bool false] 71)).alloc (.cells #[.bool true, .int .i64 cb, .bool pb] 71)).cell? ⟨wr.heap.size + 1, 2, none⟩ = some (.bool false) := by simp [go_sem]
                        have z2 : (((wr.alloc (.cells #[.bool true, .int .i64 cg, .bool pg] 71)).alloc (.cells #[.bool true, .int .i64 cg, .bool false] 71)).alloc (.cells #[.bool true, .int .i64 cb, .bool pb] 71)).frozen? ⟨wr.heap.size + 1, 2, none⟩ = false := by simp [go_sem]
                        have j0 : (((wr.alloc (.cells #[.bool true, .int .i64 cg, .bool pg] 71)).alloc (.cells #[.bool true, .int .i64 cg, .bool false] 71)).alloc (.cells #[.bool true, .int .i64 cb, .bool pb] 71)).cell? ⟨wr.heap.size + 1 + 1, 0, none⟩ = some (.bool true) := by simp [go_sem]
                        have j1 : (((wr.alloc (.cells #[.bool true, .int .i64 cg, .bool pg] 71)).alloc (.cells #[.bool true, .int .i64 cg, .bool false] 71)).alloc (.cells #[.bool true, .int .i64 cb, .bool pb] 71)).cell? ⟨wr.heap.size + 1 + 1, 1, none⟩ = some (.int .i64 cb) := by simp [go_sem]
                        have j2 : (((wr.alloc (.cells #[.bool true, .int .i64 cg, .bool pg] 71)).alloc (.cells #[.bool true, .int .i64 cg, .bool false] 71)).alloc (.cells #[.bool true, .int .i64 cb, .bool pb] 71)).cell? ⟨wr.heap.size + 1 + 1, 2, none⟩ = some (.bool pb) := by simp [go_sem]
                        clear G0 G1 G2 B0 B1 B2 p1
                        generalize ((wr.alloc (.cells #[.bool true, .int .i64 cg, .bool pg] 71)).alloc (.cells #[.bool true, .int .i64 cg, .bool false] 71)).alloc (.cells #[.bool true, .int .i64 cb, .bool pb] 71) = W3 at *
                        go_region
                        all_goals
                          go_wp2
                          have hB4 := hB3.drew
                          have n0 : (W3.drew).cell? ⟨wr.heap.size + 1, 0, none⟩ = some (.bool true) := by simpa [go_sem] using k0
                          have n1 : (W3.drew).cell? ⟨wr.heap.size + 1, 1, none⟩ = some (.int .i64 cg) := by simpa [go_sem] using k1
                          have n2 : (W3.drew).cell? ⟨wr.heap.size + 1, 2, none⟩ = some (.bool false) := by simpa [go_sem] using k2
                          obtain ⟨⟨u0, U0⟩, ⟨u1, U1⟩, ⟨u2, U2⟩, Z0, Z1, Z2⟩ := HX.out _ hB4
                          have HF := Lib.hid (HFIN.out _ hB4.drew)
                          clear hB4 hB3 HFIN HX k0 k1 k2 z0 z1 z2 j0 j1 j2 q1
                          generalize W3.drew = W4 at *
                          go_region
                          all_goals
                            go_wp2
                            go_roundw
                            case rel => exact ⟨_, _, _, _, _, _, _, _, _, _, _, _, _, _, _, _, _, _, _, _, _, _, _, _, _, _, _, _, _, _, _, _, _, _, _, _, _, _, _, _, _, _, _, _, _, _, _, _, _, _, _, _, _, _, _, _, _, _, _, _, _, _, _, _, _, _, _, _, _, _, _, ⟨f + 1 + 1, by omega, rfl, HF⟩, rfl⟩
                            case measure => simp [intOf]; omega
                · have hme : m = (f + 1) * R := by have h1 := HFR.out; have h2 := HM.out; have h3 := HFE.out; rw [← h3]; omega
                  subst hme
                  have hmB : ((f : Int) + 1) * (R : Int) ≤ (g : Int) + 1 := by omega
                  have hfr21 : ((f : Int) + 1) * (R : Int) < 21 := by omega
                  cases eb with
                  | false =>
                    have h3 := HEN.out
                    rw [if_neg (by simp)] at h3
                    rw [h3.1, h3.2.1, h3.2.2] at HFIN
                    clear h3
                    go_wp2
                    have hB3 := (((Below.refl wr.heap.size wr).alloc (Nat.le_refl _) (.cells #[.bool eg, .int .i64 cg, .bool pg] 71)).alloc (by simp) (.cells #[.bool eg, .int .i64 cg, .bool false] 71)).alloc (by simp; omega) (.cells #[.bool false, .int .i64 cb, .bool pb] 71)
                    have q1 : (((wr.alloc (.cells #[.bool eg, .int .i64 cg, .bool pg] 71)).alloc (.cells #[.bool eg, .int .i64 cg, .bool false] 71)).alloc (.cells #[.bool false, .int .i64 cb, .bool pb] 71)).cell? ⟨gw, ow + (n - (g + 1)), none⟩ = some (.int .i64 x) := by rw [hB3.cell (p := ⟨gw, ow + (n - (g + 1)), none⟩) (Nat.lt_of_lt_of_le hgw (Nat.le_refl _))]; exact p1
                    have k0 : (((wr.alloc (.cells #[.bool eg, .int .i64 cg, .bool pg] 71)).alloc (.cells #[.bool eg, .int .i64 cg, .bool false] 71)).alloc (.cells #[.bool false, .int .i64 cb, .bool pb] 71)).cell? ⟨wr.heap.size + 1, 0, none⟩ = some (.bool eg) := by simp [go_sem]
                    have z0 : (((wr.alloc (.cells #[.bool eg, .int .i64 cg, .bool pg] 71)).alloc (.cells #[.bool eg, .int .i64 cg, .bool false] 71)).alloc (.cells #[.bool false, .int .i64 cb, .bool pb] 71)).frozen? ⟨wr.heap.size + 1, 0, none⟩ = false := by simp [go_sem]
                    have k1 : (((wr.alloc (.cells #[.bool eg, .int .i64 cg, .bool pg] 71)).alloc (.cells #[.bool eg, .int .i64 cg, .bool false] 71)).alloc (.cells #[.bool false, .int .i64 cb, .bool pb] 71)).cell? ⟨wr.heap.size + 1, 1, none⟩ = some (.int .i64 cg) := by simp [go_sem]
                    have z1 : (((wr.alloc (.cells #[.bool eg, .int .i64 cg, .bool pg] 71)).alloc (.cells #[.bool eg, .int .i64 cg, .bool false] 71)).alloc (.cells #[.bool false, .int .i64 cb, .bool pb] 71)).frozen? ⟨wr.heap.size + 1, 1, none⟩ = false := by simp [go_sem]
                    have k2 : (((wr.alloc (.cells #[.bool eg, .int .i64 cg, .bool pg] 71)).alloc (.cells #[.bool eg, .int .i64 cg, .bool false] 71)).alloc (.cells #[.bool false, .int .i64 cb, .bool pb] 71)).cell? ⟨wr.heap.size + 1, 2, none⟩ = some (.bool false) := by simp [go_sem]
                    have z2 : (((wr.alloc (.cells #[.bool eg, .int .i64 cg, .bool pg] 71)).alloc (.cells #[.bool eg, .int .i64 cg, .bool false] 71)).alloc (.cells #[.bool false, .int .i64 cb, .bool pb] 71)).frozen? ⟨wr.heap.size + 1, 2, none⟩ = false := by simp [go_sem]
                    have j0 : (((wr.alloc (.cells #[.bool eg, .int .i64 cg, .bool pg] 71)).alloc (.cells #[.bool eg, .int .i64 cg, .bool false] 71)).alloc (.cells #[.bool false, .int .i64 cb, .bool pb] 71)).cell? ⟨wr.heap.size + 1 + 1, 0, none⟩ = some (.bool false) := by simp [go_sem]
                    have j1 : (((wr.alloc (.cells #[.bool eg, .int .i64 cg, .bool pg] 71)).alloc (.cells #[.bool eg, .int .i64 cg, .bool false] 71)).alloc (.cells #[.bool false, .int .i64 cb, .bool pb] 71)).cell? ⟨wr.heap.size + 1 + 1, 1, none⟩ = some (.int .i64 cb) := by simp [go_sem]
                    have j2 : (((wr.alloc (.cells #[.bool eg, .int .i64 cg, .bool pg] 71)).alloc (.cells #[.bool eg, .int .i64 cg, .bool false] 71)).alloc (.cells #[.bool false, .int .i64 cb, .bool pb] 71)).cell? ⟨wr.heap.size + 1 + 1, 2, none⟩ = some (.bool pb) := by simp [go_sem]
                    clear G0 G1 G2 B0 B1 B2 p1
                    generalize ((wr.alloc (.cells #[.bool eg, .int .i64 cg, .bool pg] 71)).alloc (.cells #[.bool eg, .int .i64 cg, .bool false] 71)).alloc (.cells #[.bool false, .int .i64 cb, .bool pb] 71) = W3 at *
                    go_region
                    all_goals
                      go_wp2
                      have hB4 := hB3.drew
                      have n0 : (W3.drew).cell? ⟨wr.heap.size + 1, 0, none⟩ = some (.bool eg) := by simpa [go_sem] using k0
                      have n1 : (W3.drew).cell? ⟨wr.heap.size + 1, 1, none⟩ = some (.int .i64 cg) := by simpa [go_sem] using k1
                      have n2 : (W3.drew).cell? ⟨wr.heap.size + 1, 2, none⟩ = some (.bool false) := by simpa [go_sem] using k2
                      obtain ⟨⟨u0, U0⟩, ⟨u1, U1⟩, ⟨u2, U2⟩, Z0, Z1, Z2⟩ := HX.out _ hB4
                      have HF := Lib.hid (HFIN.out _ hB4.drew)
                      clear hB4 hB3 HFIN HX k0 k1 k2 z0 z1 z2 j0 j1 j2 q1
                      generalize W3.drew = W4 at *
                      go_region
                      all_goals
                        go_wp2
                        go_roundw
                        case rel => exact ⟨_, _, _, _, _, _, _, _, _, _, _, _, _, _, _, _, _, _, _, _, _, _, _, _, _, _, _, _, _, _, _, _, _, _, _, _, _, _, _, _, _, _, _, _, _, _, _, _, _, _, _, _, _, _, _, _, _, _, _, _, _, _, _, _, _, _, _, _, _, _, _, ⟨f + 1 + 1, by omega, rfl, HF⟩, rfl⟩
                        case measure => simp [intOf]; omega
                  | true =>
                    cases eg with
                    | false =>
                      have h3 := HEN.out
                      rw [if_pos ⟨rfl, .inl rfl⟩] at h3
                      rw [h3.1, h3.2.1, h3.2.2] at HFIN
                      clear h3
                      go_wp2
                      have hB3 := (((Below.refl wr.heap.size wr).alloc (Nat.le_refl _) (.cells #[.bool false, .int .i64 cg, .bool pg] 71)).alloc (by simp) (.cells #[.bool false, .int .i64 cg, .bool false] 71)).alloc (by simp; omega) (.cells #[.bool true, .int .i64 cb, .bool pb] 71)
                      have q1 : (((wr.alloc (.cells #[.bool false, .int .i64 cg, .bool pg] 71)).alloc (.cells #[.bool false, .int .i64 cg, .bool false] 71)).alloc (.cells #[.bool true, .int .i64 cb, .bool pb] 71)).cell? ⟨gw, ow + (n - (g + 1)), none⟩ = some (.int .i64 x) := by rw [hB3.cell (p := ⟨gw, ow + (n - (g + 1)), none⟩) (Nat.lt_of_lt_of_le hgw (Nat.le_refl _))]; exact p1
                      have k0 : (((wr.alloc (.cells #[.bool false, .int .i64 cg, .bool pg] 71)).alloc (.cells #[.bool false, .int .i64 cg, .bool false] 71)).alloc (.cells #[.bool true, .int .i64 cb, .bool pb] 71)).cell? ⟨wr.heap.size + 1, 0, none⟩ = some (.bool false) := by simp [go_sem]
                      have z0 : (((wr.alloc (.cells #[.bool false, .int .i64 cg, .bool pg] 71)).alloc (.cells #[.bool false, .int .i64 cg, .bool false] 71)).alloc (.cells #[.bool true, .int .i64 cb, .bool pb] 71)).frozen? ⟨wr.heap.size + 1, 0, none⟩ = false := by simp [go_sem]
                      have k1 : (((wr.alloc (.cells #[.bool false, .int .i64 cg, .bool pg] 71)).alloc (.cells #[.bool false, .int .i64 cg, .bool false] 71)).alloc (.cells #[.bool true, .int .i64 cb, .bool pb] 71)).cell? ⟨wr.heap.size + 1, 1, none⟩ = some (.int .i64 cg) := by simp [go_sem]
                      have z1 : (((wr.alloc (.cells #[.bool false, .int .i64 cg, .bool pg] 71)).alloc (.cells #[.bool false, .int .i64 cg, .bool false] 71)).alloc (.cells #[.bool true, .int .i64 cb, .bool pb] 71)).frozen? ⟨wr.heap.size + 1, 1, none⟩ = false := by simp [go_sem]
                      have k2 : (((wr.alloc (.cells #[.bool false, .int .i64 cg, .bool pg] 71)).alloc (.cells #[.bool false, .int .i64 cg, .bool false] 71)).alloc (.cells #[.bool true, .int .i64 cb, .bool pb] 71)).cell? ⟨wr.heap.size + 1, 2, none⟩ = some (.bool false) := by simp [go_sem]
                      have z2 : (((wr.alloc (.cells #[.bool false, .int .i64 cg, .bool pg] 71)).alloc (.cells #[.bool false, .int .i64 cg, .bool false] 71)).alloc (.cells #[.bool true, .int .i64 cb, .bool pb] 71)).frozen? ⟨wr.heap.size + 1, 2, none⟩ = false := by simp [go_sem]
                      have j0 : (((wr.alloc (.cells #[.bool false, .int .i64 cg, .bool pg] 71)).alloc (.cells #[.bool false, .int .i64 cg, .bool false] 71)).alloc (.cells #[.bool true, .int .i64 cb, .bool pb] 71)).cell? ⟨wr.heap.size + 1 + 1, 0, none⟩ = some (.bool true) := by simp [go_sem]
                      have j1 : (((wr.alloc (.cells #[.bool false, .int .i64 cg, .bool pg] 71)).alloc (.cells #[.bool false, .int .i64 cg, .bool false] 71)).alloc (.cells #[.bool true, .int .i64 cb, .bool pb] 71)).cell? ⟨wr.heap.size + 1 + 1, 1, none⟩ = some (.int .i64 cb) := by simp [go_sem]
                      have j2 : (((wr.alloc (.cells #[.bool false, .int .i64 cg, .bool pg] 71)).alloc (.cells #[.bool false, .int .i64 cg, .bool false] 71)).alloc (.cells #[.bool true, .int .i64 cb, .bool pb] 71)).cell? ⟨wr.heap.size + 1 + 1, 2, none⟩ = some (.bool pb) := by simp [go_sem]
                      clear G0 G1 G2 B0 B1 B2 p1
                      generalize ((wr.alloc (.cells #[.bool false, .int .i64 cg, .bool pg] 71)).alloc (.cells #[.bool false, .int .i64 cg, .bool false] 71)).alloc (.cells #[.bool true, .int .i64 cb, .bool pb] 71) = W3 at *
                      go_region
                      all_goals
                        go_wp2
                        have hB4 := (((hB3.setCell (p := ⟨wr.heap.size + 1, 0, none⟩) (by show wr.heap.size ≤ wr.heap.size + 1; omega) (.bool true)).setCell (p := ⟨wr.heap.size + 1, 1, none⟩) (by show wr.heap.size ≤ wr.heap.size + 1; omega) (.int .i64 (cb + ((L : Int) + 1) * x))).setCell (p := ⟨wr.heap.size + 1, 2, none⟩) (by show wr.heap.size ≤ wr.heap.size + 1; omega) (.bool true)).drew
                        have n0 : ((((W3.setCell ⟨wr.heap.size + 1, 0, none⟩ (.bool true)).setCell ⟨wr.heap.size + 1, 1, none⟩ (.int .i64 (cb + ((L : Int) + 1) * x))).setCell ⟨wr.heap.size + 1, 2, none⟩ (.bool true)).drew).cell? ⟨wr.heap.size + 1, 0, none⟩ = some (.bool true) := by simp [go_sem, k0, k1, k2]
                        have n1 : ((((W3.setCell ⟨wr.heap.size + 1, 0, none⟩ (.bool true)).setCell ⟨wr.heap.size + 1, 1, none⟩ (.int .i64 (cb + ((L : Int) + 1) * x))).setCell ⟨wr.heap.size + 1, 2, none⟩ (.bool true)).drew).cell? ⟨wr.heap.size + 1, 1, none⟩ = some (.int .i64 (cb + ((L : Int) + 1) * x)) := by simp [go_sem, k0, k1, k2]
                        have n2 : ((((W3.setCell ⟨wr.heap.size + 1, 0, none⟩ (.bool true)).setCell ⟨wr.heap.size + 1, 1, none⟩ (.int .i64 (cb + ((L : Int) + 1) * x))).setCell ⟨wr.heap.size + 1, 2, none⟩ (.bool true)).drew).cell? ⟨wr.heap.size + 1, 2, none⟩ = some (.bool true) := by simp [go_sem, k0, k1, k2]
                        obtain ⟨⟨u0, U0⟩, ⟨u1, U1⟩, ⟨u2, U2⟩, Z0, Z1, Z2⟩ := HX.out _ hB4
                        have HF := Lib.hid (HFIN.out _ hB4.drew)
                        clear hB4 hB3 HFIN HX k0 k1 k2 z0 z1 z2 j0 j1 j2 q1
                        generalize (((W3.setCell ⟨wr.heap.size + 1, 0, none⟩ (.bool true)).setCell ⟨wr.heap.size + 1, 1, none⟩ (.int .i64 (cb + ((L : Int) + 1) * x))).setCell ⟨wr.heap.size + 1, 2, none⟩ (.bool true)).drew = W4 at *
                        go_region
                        all_goals
                          go_wp2
                          go_roundw
                          case rel => exact ⟨_, _, _, _, _, _, _, _, _, _, _, _, _, _, _, _, _, _, _, _, _, _, _, _, _, _, _, _, _, _, _, _, _, _, _, _, _, _, _, _, _, _, _, _, _, _, _, _, _, _, _, _, _, _, _, _, _, _, _, _, _, _, _, _, _, _, _, _, _, _, _, ⟨f + 1 + 1, by omega, rfl, HF⟩, rfl⟩
                          case measure => simp [intOf]; omega
                    | true =>
                      by_cases hle : cb + ((L : Int) + 1) * x ≤ cg
                      · have h3 := HEN.out
                        rw [if_pos ⟨rfl, .inr hle⟩] at h3
                        rw [h3.1, h3.2.1, h3.2.2] at HFIN
                        clear h3
                        go_wp2
                        have hB3 := (((Below.refl wr.heap.size wr).alloc (Nat.le_refl _) (.cells #[.bool true, .int .i64 cg, .bool pg] 71)).alloc (by simp) (.cells #[.bool true, .int .i64 cg, .bool false] 71)).alloc (by simp; omega) (.cells #[.bool true, .int .i64 cb, .bool pb] 71)
                        have q1 : (((wr.alloc (.cells #[.bool true, .int .i64 cg, .bool pg] 71)).alloc (.cells #[.bool true, .int .i64 cg, .bool false] 71)).alloc (.cells #[.bool true, .int .i64 cb, .bool pb] 71)).cell? ⟨gw, ow + (n - (g + 1)), none⟩ = some (.int .i64 x) := by rw [hB3.cell (p := ⟨gw, ow + (n - (g + 1)), none⟩) (Nat.lt_of_lt_of_le hgw (Nat.le_refl _))]; exact p1
                        have k0 : (((wr.alloc (.cells #[.bool true, .int .i64 cg, .bool pg] 71)).alloc (.cells #[.bool true, .int .i64 cg, .bool false] 71)).alloc (.cells #[.bool true, .int .i64 cb, .bool pb] 71)).cell? ⟨wr.heap.size + 1, 0, none⟩ = some (.bool true) := by simp [go_sem]
                        have z0 : (((wr.alloc (.cells #[.bool true, .int .i64 cg, .bool pg] 71)).alloc (.cells #[.bool true, .int .i64 cg, .bool false] 71)).alloc (.cells #[.bool true, .int .i64 cb, .bool pb] 71)).frozen? ⟨wr.heap.size + 1, 0, none⟩ = false := by simp [go_sem]
                        have k1 : (((wr.alloc (.cells #[.bool true, .int .i64 cg, .bool pg] 71)).alloc (.cells #[.bool true, .int .i64 cg, .bool false] 71)).alloc (.cells #[.bool true, .int .i64 cb, .bool pb] 71)).cell? ⟨wr.heap.size + 1, 1, none⟩ = some (.int .i64 cg) := by simp [go_sem]
                        have z1 : (((wr.alloc (.cells #[.bool true, .int .i64 cg, .bool pg] 71)).alloc (.cells #[.bool true, .int .i64 cg, .bool false] 71)).alloc (.cells #[.bool true, .int .i64 cb, .bool pb] 71)).frozen? ⟨wr.heap.size + 1, 1, none⟩ = false := by simp [go_sem]
                        have k2 : (((wr.alloc (.cells #[.bool true, .int .i64 cg, .bool pg] 71)).alloc (.cells #[.bool true, .int .i64 cg, .bool false] 71)).alloc (.cells #[.bool true, .int .i64 cb, .bool pb] 71)).cell? ⟨wr.heap.size + 1, 2, none⟩ = some (.bool false) := by simp [go_sem]
                        have z2 : (((wr.alloc (.cells #[.bool true, .int .i64 cg, .bool pg] 71)).alloc (.cells #[.bool true, .int .i64 cg, .bool false] 71)).alloc (.cells #[.bool true, .int .i64 cb, .bool pb] 71)).frozen? ⟨wr.heap.size + 1, 2, none⟩ = false := by simp [go_sem]
                        have j0 : (((wr.alloc (.cells #[.bool true, .int .i64 cg, .bool pg] 71)).alloc (.cells #[.bool true, .int .i64 cg, .bool false] 71)).alloc (.cells #[.bool true, .int .i64 cb, .bool pb] 71)).cell? ⟨wr.heap.size + 1 + 1, 0, none⟩ = some (.bool true) := by simp [go_sem]
                        have j1 : (((wr.alloc (.cells #[.bool true, .int .i64 cg, .bool pg] 71)).alloc (.cells #[.bool true, .int .i64 cg, .bool false] 71)).alloc (.cells #[.bool true, .int .i64 cb, .bool pb] 71)).cell? ⟨wr.heap.size + 1 + 1, 1, none⟩ = some (.int .i64 cb) := by simp [go_sem]
                        have j2 : (((wr.alloc (.cells #[.bool true, .int .i64 cg, .bool pg] 71)).alloc (.cells #[.bool true, .int .i64 cg, .bool false] 71)).alloc (.cells #[.bool true, .int .i64 cb, .bool pb] 71)).cell? ⟨wr.heap.size + 1 + 1, 2, none⟩ = some (.bool pb) := by simp [go_sem]
                        clear G0 G1 G2 B0 B1 B2 p1
                        generalize ((wr.alloc (.cells #[.bool true, .int .i64 cg, .bool pg] 71)).alloc (.cells #[.bool true, .int .i64 cg, .bool false] 71)).alloc (.cells #[.bool true, .int .i64 cb, .bool pb] 71) = W3 at *
                        go_region
                        all_goals
                          go_wp2
                          have hB4 := (((hB3.setCell (p := ⟨wr.heap.size + 1, 0, none⟩) (by show wr.heap.size ≤ wr.heap.size + 1; omega) (.bool true)).setCell (p := ⟨wr.heap.size + 1, 1, none⟩) (by show wr.heap.size ≤ wr.heap.size + 1; omega) (.int .i64 (cb + ((L : Int) + 1) * x))).setCell (p := ⟨wr.heap.size + 1, 2, none⟩) (by show wr.heap.size ≤ wr.heap.size + 1; omega) (.bool true)).drew
                          have n0 : ((((W3.setCell ⟨wr.heap.size + 1, 0, none⟩ (.bool true)).setCell ⟨wr.heap.size + 1, 1, none⟩ (.int .i64 (cb + ((L : Int) + 1) * x))).setCell ⟨wr.heap.size + 1, 2, none⟩ (.bool true)).drew).cell? ⟨wr.heap.size + 1, 0, none⟩ = some (.bool true) := by simp [go_sem, k0, k1, k2]
                          have n1 : ((((W3.setCell ⟨wr.heap.size + 1, 0, none⟩ (.bool true)).setCell ⟨wr.heap.size + 1, 1, none⟩ (.int .i64 (cb + ((L : Int) + 1) * x))).setCell ⟨wr.heap.size + 1, 2, none⟩ (.bool true)).drew).cell? ⟨wr.heap.size + 1, 1, none⟩ = some (.int .i64 (cb + ((L : Int) + 1) * x)) := by simp [go_sem, k0, k1, k2]
                          have n2 : ((((W3.setCell ⟨wr.heap.size + 1, 0, none⟩ (.bool true)).setCell ⟨wr.heap.size + 1, 1, none⟩ (.int .i64 (cb + ((L : Int) + 1) * x))).setCell ⟨wr.heap.size + 1, 2, none⟩ (.bool true)).drew).cell? ⟨wr.heap.size + 1, 2, none⟩ = some (.bool true) := by simp [go_sem, k0, k1, k2]
                          obtain ⟨⟨u0, U0⟩, ⟨u1, U1⟩, ⟨u2, U2⟩, Z0, Z1, Z2⟩ := HX.out _ hB4
                          have HF := Lib.hid (HFIN.out _ hB4.drew)
                          clear hB4 hB3 HFIN HX k0 k1 k2 z0 z1 z2 j0 j1 j2 q1
                          generalize (((W3.setCell ⟨wr.heap.size + 1, 0, none⟩ (.bool true)).setCell ⟨wr.heap.size + 1, 1, none⟩ (.int .i64 (cb + ((L : Int) + 1) * x))).setCell ⟨wr.heap.size + 1, 2, none⟩ (.bool true)).drew = W4 at *
                          go_region
                          all_goals
                            go_wp2
                            go_roundw
                            case rel => exact ⟨_, _, _, _, _, _, _, _, _, _, _, _, _, _, _, _, _, _, _, _, _, _, _, _, _, _, _, _, _, _, _, _, _, _, _, _, _, _, _, _, _, _, _, _, _, _, _, _, _, _, _, _, _, _, _, _, _, _, _, _, _, _, _, _, _, _, _, _, _, _, _, ⟨f + 1 + 1, by omega, rfl, HF⟩, rfl⟩
                            case measure => simp [intOf]; omega
                      · have h3 := HEN.out
                        rw [if_neg (by simp only [Bool.true_eq_false, false_or, true_and]; exact hle)] at h3
                        rw [h3.1, h3.2.1, h3.2.2] at HFIN
                        clear h3
                        go_wp2
                        have hB3 := (((Below.refl wr.heap.size wr).alloc (Nat.le_refl _) (.cells #[.bool true, .int .i64 cg, .bool pg] 71)).alloc (by simp) (.cells #[.bool true, .int .i64 cg, .bool false] 71)).alloc (by simp; omega) (.cells #[.bool true, .int .i64 cb, .bool pb] 71)
                        have q1 : (((wr.alloc (.cells #[.bool true, .int .i64 cg, .bool pg] 71)).alloc (.cells #[.bool true, .int .i64 cg, .bool false] 71)).alloc (.cells #[.bool true, .int .i64 cb, .bool pb] 71)).cell? ⟨gw, ow + (n - (g + 1)), none⟩ = some (.int .i64 x) := by rw [hB3.cell (p := ⟨gw, ow + (n - (g + 1)), none⟩) (Nat.lt_of_lt_of_le hgw (Nat.le_refl _))]; exact p1
                        have k0 : (((wr.alloc (.cells #[.bool true, .int .i64 cg, .bool pg] 71)).alloc (.cells #[.bool true, .int .i64 cg, .bool false] 71)).alloc (.cells #[.bool true, .int .i64 cb, .bool pb] 71)).cell? ⟨wr.heap.size + 1, 0, none⟩ = some (.bool true) := by simp [go_sem]
                        have z0 : (((wr.alloc (.cells #[.bool true, .int .i64 cg, .bool pg] 71)).alloc (.cells #[.bool true, .int .i64 cg, .bool false] 71)).alloc (.cells #[.bool true, .int .i64 cb, .bool pb] 71)).frozen? ⟨wr.heap.size + 1, 0, none⟩ = false := by simp [go_sem]
                        have k1 : (((wr.alloc (.cells #[.bool true, .int .i64 cg, .bool pg] 71)).alloc (.cells #[.bool true, .int .i64 cg, .bool false] 71)).alloc (.cells #[.bool true, .int .i64 cb, .bool pb] 71)).cell? ⟨wr.heap.size + 1, 1, none⟩ = some (.int .i64 cg) := by simp [go_sem]
                        have z1 : (((wr.alloc (.cells #[.bool true, .int .i64 cg, .bool pg] 71)).alloc (.cells #[.bool true, .int .i64 cg, .bool false] 71)).alloc (.cells #[.bool true, .int .i64 cb, .bool pb] 71)).frozen? ⟨wr.heap.size + 1, 1, none⟩ = false := by simp [go_sem]
                        have k2 : (((wr.alloc (.cells #[.bool true, .int .i64 cg, .bool pg] 71)).alloc (.cells #[.bool true, .int .i64 cg, .bool false] 71)).alloc (.cells #[.bool true, .int .i64 cb, .bool pb] 71)).cell? ⟨wr.heap.size + 1, 2, none⟩ = some (.bool false) := by simp [go_sem]
                        have z2 : (((wr.alloc (.cells #[.bool true, .int .i64 cg, .bool pg] 71)).alloc (.cells #[.bool true, .int .i64 cg, .bool false] 71)).alloc (.cells #[.bool true, .int .i64 cb, .bool pb] 71)).frozen? ⟨wr.heap.size + 1, 2, none⟩ = false := by simp [go_sem]
                        have j0 : (((wr.alloc (.cells #[.bool true, .int .i64 cg, .bool pg] 71)).alloc (.cells #[.bool true, .int .i64 cg, .bool false] 71)).alloc (.cells #[.bool true, .int .i64 cb, .bool pb] 71)).cell? ⟨wr.heap.size + 1 + 1, 0, none⟩ = some (.bool true) := by simp [go_sem]
                        have j1 : (((wr.alloc (.cells #[.bool true, .int .i64 cg, .bool pg] 71)).alloc (.cells #[.bool true, .int .i64 cg, .bool false] 71)).alloc (.cells #[.bool true, .int .i64 cb, .bool pb] 71)).cell? ⟨wr.heap.size + 1 + 1, 1, none⟩ = some (.int .i64 cb) := by simp [go_sem]
                        have j2 : (((wr.alloc (.cells #[.bool true, .int .i64 cg, .bool pg] 71)).alloc (.cells #[.bool true, .int .i64 cg, .bool false] 71)).alloc (.cells #[.bool true, .int .i64 cb, .bool pb] 71)).cell? ⟨wr.heap.size + 1 + 1, 2, none⟩ = some (.bool pb) := by simp [go_sem]
                        clear G0 G1 G2 B0 B1 B2 p1
                        generalize ((wr.alloc (.cells #[.bool true, .int .i64 cg, .bool pg] 71)).alloc (.cells #[.bool true, .int .i64 cg, .bool false] 71)).alloc (.cells #[.bool true, .int .i64 cb, .bool pb] 71) = W3 at *
                        go_region
                        all_goals
                          go_wp2
                          have hB4 := hB3.drew
                          have n0 : (W3.drew).cell? ⟨wr.heap.size + 1, 0, none⟩ = some (.bool true) := by simpa [go_sem] using k0
                          have n1 : (W3.drew).cell? ⟨wr.heap.size + 1, 1, none⟩ = some (.int .i64 cg) := by simpa [go_sem] using k1
                          have n2 : (W3.drew).cell? ⟨wr.heap.size + 1, 2, none⟩ = some (.bool false) := by simpa [go_sem] using k2
                          obtain ⟨⟨u0, U0⟩, ⟨u1, U1⟩, ⟨u2, U2⟩, Z0, Z1, Z2⟩ := HX.out _ hB4
                          have HF := Lib.hid (HFIN.out _ hB4.drew)
                          clear hB4 hB3 HFIN HX k0 k1 k2 z0 z1 z2 j0 j1 j2 q1
                          generalize W3.drew = W4 at *
                          go_region
                          all_goals
                            go_wp2
                            go_roundw
                            case rel => exact ⟨_, _, _, _, _, _, _, _, _, _, _, _, _, _, _, _, _, _, _, _, _, _, _, _, _, _, _, _, _, _, _, _, _, _, _, _, _, _, _, _, _, _, _, _, _, _, _, _, _, _, _, _, _, _, _, _, _, _, _, _, _, _, _, _, _, _, _, _, _, _, _, ⟨f + 1 + 1, by omega, rfl, HF⟩, rfl⟩
                            case measure => simp [intOf]; omega
                --END
            · have : F = W + 1 := by omega
              subst this
              obtain ⟨xs, x1, x2, x3, x4⟩ := hX3.out
              have HF := Lib.hid (show ∃ xs, RowX wr (w.heap.size + 1) xs ∧ TabE xs S R lim (L + 1) (W + 1) 0 ∧ wr.heap[w.heap.size]? = some (.cells c 75 (0, 0)) ∧ Below w.heap.size w wr from ⟨xs, x1, x2.row, x3, x4⟩)
              clear x1 x2 x3 x4
              go_wp2
              go_roundw
              case rel => exact ⟨W + 1, by omega, by go_num, HF⟩
              case measure => simp [intOf]; omega
        · have : W = n + 1 := by omega
          subst this
          obtain ⟨xs, x1, x2, x3, x4⟩ := hX2.out
          have HF := Lib.hid (show ∃ xs, RowX wr (w.heap.size + 1) xs ∧ TabE xs S R lim L 0 0 ∧ wr.heap[w.heap.size]? = some (.cells c 75 (0, 0)) ∧ Below w.heap.size w wr from ⟨xs, x1, (by rw [HN.out] at x2; exact x2.level), x3, x4⟩)
          clear x1 x2 x3 x4
          go_wp2
          go_roundw
          case rel => exact ⟨L, by omega, by go_num, HF⟩
          case measure => simp [intOf]
end Go.Proofs.Ytgceaffcalkbgaa
