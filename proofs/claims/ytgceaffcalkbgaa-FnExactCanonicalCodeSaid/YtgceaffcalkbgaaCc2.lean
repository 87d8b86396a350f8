/- Chapter 4: digits written; canonical codes of the model. -/
import Derived.Test.YtgceaffcalkbgaaCc1
import Derived.Test.YtgceaffcalkbgaaShelf
namespace Go.Proofs.Ytgceaffcalkbgaa
open Go.RowKit
set_option linter.unusedSimpArgs false
set_option linter.unusedVariables false

theorem clone_any (v : Value) (zs : List Int) (w : World) (hz : zs.length ≤ 1099511627776) (hr : Rd w v zs) :
    Calls Try.prog 75 #[v] w fun e w' => ∃ v', e = .returned v' ∧ Own w' w.heap.size v' zs ∧ Below w.heap.size w w' := by
  rcases hr with ⟨rfl, ad, cap, rfl, hn⟩ | ⟨g, off, cap, rfl, hg, hm, hc⟩
  · cases ad with
    | none =>
      refine (Try.slices_Clone_int_nil 0 cap w).mono ?_
      rintro e w' ⟨rfl, rfl⟩
      exact ⟨_, rfl, Own.nil _ _, Below.refl _ _⟩
    | some ad =>
      refine (Try.slices_Clone_int_zero ad cap w).mono ?_
      rintro e w' ⟨v', rfl, ho, -, hb⟩
      exact ⟨_, rfl, ho, hb⟩
  · refine (Try.slices_Clone_int g off zs.length cap zs w (Nat.le_refl _) (by omega) (fun j hj => by rw [hc j hj, List.getD_eq_getElem?_getD])).mono ?_
    rintro e w' ⟨v', rfl, ho, -, hb⟩
    rw [List.take_length] at ho
    exact ⟨_, rfl, ho, hb⟩

set_option maxRecDepth 100000 in
set_option maxHeartbeats 1000000 in
theorem cmDigits_any (n0 r : Int) (l : Nat) (w : World) (h0 : 0 ≤ n0) (h1 : n0 ≤ 46656000000) (hr : 2 ≤ r) (hr2 : r ≤ 60) (hl1 : 1 ≤ l) (hl6 : l ≤ 6) :
    Calls Try.prog 77 #[.int .i64 n0, .int .i64 r, .int .i64 l] w fun e w' => ∃ v, e = .returned v ∧ Own w' w.heap.size v (dig r l n0) ∧ Below w.heap.size w w' := by
  obtain ⟨i0, hi, hz0, hz1, hz2⟩ := info_parts Try_info_int
  go_enter Try.func77, Try.ntmps77
  go_wp2_with (refine wpList_make_full _ rfl _ _ 23 rfl w.heap.size 3 i0 (.int .i64 0) 1 Try.underlying23 hi hz0 hz1 .i64 .i64 _ _ l rfl rfl rfl rfl (by rw [hz2]; omega) (by unfold maxLen; omega) (Nat.le_refl _) ?_; intro w1 hown1 hgrow1)
  have ho0 : Own w1 w.heap.size (.slice (some ⟨w.heap.size, 0, none⟩) l l) (List.replicate l (0 : Int) ++ []) := by
    unfold Own
    rw [List.append_nil, List.length_replicate]
    have e : (madeCells (Value.int IntKind.i64 0).cells (l * 1)).toList = (List.replicate l (0 : Int)).map (Value.int .i64) := by
      rw [Nat.mul_one]
      have := toList_madeCells_one (.int .i64 0) l
      simpa [Value.cells] using this
    rw [← e]; exact hown1
  have hb0 : Below w.heap.size w w1 := (Below.refl _ _).grown hgrow1 (Nat.le_refl _) (fun k h => by cases h)
  clear hown1 hgrow1
  go_loopw [0, 8] (fun x i wr => ∃ (k : Nat) (N : Int) (T : List Int), k ≤ l ∧ i = .int .i64 ((k : Int) - 1) ∧ x = .int .i64 N ∧ 0 ≤ N ∧ N ≤ 46656000000 ∧ k + T.length = l ∧ Own wr w.heap.size (.slice (some ⟨w.heap.size, 0, none⟩) l l) (List.replicate k (0 : Int) ++ T) ∧ Below w.heap.size w wr ∧ Hid (dig r l n0 = dig r k N ++ T)) (fun x i wr => (intOf i + 1).toNat)
  case atStart => exact ⟨l, n0, [], Nat.le_refl _, rfl, rfl, h0, h1, rfl, ho0, hb0, Lib.hid (by simp)⟩
  case round =>
    obtain ⟨k, N, T, hk, rfl, rfl, hN0, hN1, hkT, hown, hbl, hfin⟩ := hrel
    cases k with
    | zero =>
      have hd : Hid (Own wr w.heap.size (.slice (some ⟨w.heap.size, 0, none⟩) l l) (dig r l n0)) := Lib.hid (by rw [hfin.out]; exact hown)
      go_wp2
      go_ret
      exact ⟨_, rfl, hd.out, hbl⟩
    | succ p =>
      have hNr := Int.emod_nonneg N (show r ≠ 0 by omega)
      have hNl := Int.emod_lt_of_pos N (show 0 < r by omega)
      have hq0 := Int.ediv_nonneg hN0 (show 0 ≤ r by omega)
      have hq1 := Int.ediv_le_self r hN0
      have hpp : ((p + 1 : Nat) : Int) - 1 = (p : Int) := by omega
      have hl0 : (List.replicate (p + 1) (0 : Int) ++ T).length = l := by simp; omega
      have hown' : wr.ownsRow w.heap.size 3 1 (.slice (some ⟨w.heap.size, 0, none⟩) l l) l ((List.replicate (p + 1) (0 : Int) ++ T).map (Value.int .i64)) := by
        unfold Own at hown; rw [hl0] at hown; exact hown
      have hst := World.ownsRow.stored (g := w.heap.size) (n := l) (cap := l) hown' p (.int .i64 (N % r))
      have hfz : wr.frozen? ⟨w.heap.size, p, none⟩ = false := World.ownsRow.frozenAt hown' p
      obtain ⟨u, hcell⟩ : ∃ u, wr.cell? ⟨w.heap.size, p, none⟩ = some u := by
        rw [World.ownsRow.cellAt hown' p (by omega)]
        exact ⟨_, List.getElem?_eq_getElem (by simp only [List.length_map]; rw [hl0]; omega)⟩
      have hstep : ((List.replicate (p + 1) (0 : Int) ++ T).map (Value.int .i64)).set p (.int .i64 (N % r)) = (List.replicate p (0 : Int) ++ (N % r :: T)).map (Value.int .i64) := by
        rw [List.replicate_succ', List.append_assoc, List.map_append, List.set_append_right _ _ (by simp)]
        simp
      rw [hstep] at hst
      have hl' : (List.replicate p (0 : Int) ++ (N % r :: T)).length = l := by simp; omega
      have hfin' : Hid (dig r l n0 = dig r p (N / r) ++ (N % r :: T)) := Lib.hid (by rw [hfin.out, dig, List.append_assoc]; rfl)
      have HST := Lib.hid hst
      have HL := Lib.hid hl'
      have hT : p + (N % r :: T).length = l := by simp; omega
      have HT := Lib.hid hT
      have hr0 : r ≠ 0 := by omega
      rw [hpp]
      clear hst hl0 hl' hown hown' hstep hpp hT
      go_wp2
      go_roundw
      case rel => exact ⟨p, N / r, N % r :: T, by omega, rfl, rfl, hq0, by omega, HT.out, by unfold Own; rw [HL.out]; exact HST.out.1, hbl.setCell (Nat.le_refl _) _, hfin'⟩
      case measure => first | (simp [intOf]; done) | (simp [intOf]; omega)
end Go.Proofs.Ytgceaffcalkbgaa
