/- Chapter 4: canonical codes: when there is one; the place behind a word. -/
import Derived.Test.YtgceaffcalkbgaaCc0
import Derived.Test.YtgceaffcalkbgaaCo3
namespace Go.Proofs.Ytgceaffcalkbgaa
open Go.RowKit
set_option linter.unusedSimpArgs false
set_option linter.unusedVariables false

theorem nth_lg {ls : List Int} (hl : lgB ls = true) {i : Nat} (hi : i < ls.length) : 1 ≤ nth ls i ∧ nth ls i ≤ 6 := lgB_get hl i hi
theorem wt6_pos {r : Int} (hr : 2 ≤ r) (ls : List Int) (j : Nat) : 1 ≤ wt6 r ls j := pw_pos hr _
theorem nT_step_lt {r : Int} {ls : List Int} (hr : 2 ≤ r) {t : Nat} (h : t < ls.length) : nT r ls t < nT r ls (t + 1) := by
  rw [nT_succ h]; have := wt6_pos hr ls (oAt ls t); omega
theorem nT_mono {r : Int} {ls : List Int} (hr : 2 ≤ r) {s t : Nat} (hst : s < t) (h : t ≤ ls.length) : nT r ls s < nT r ls t := by
  induction t with
  | zero => omega
  | succ t ih =>
    have := nT_step_lt hr (show t < ls.length by omega)
    by_cases e : s = t
    · rw [e]; exact this
    · have := ih (by omega) (by omega); omega
theorem nT_nonneg {r : Int} {ls : List Int} (hr : 2 ≤ r) (t : Nat) : 0 ≤ nT r ls t := sumF_nonneg fun x _ => by have := wt6_pos hr ls x; omega
theorem nT_dvd {r : Int} {ls : List Int} (hr : 2 ≤ r) (hl : lgB ls = true) {t : Nat} (h : t < ls.length) : pw r (6 - nth ls (oAt ls t)).toNat ∣ nT r ls t := by
  refine sumF_dvd fun x hx => ?_
  have hb := (o_before h).1 hx
  have h1 := nth_lg hl hb.1
  have h2 := nth_lg hl (oAt_lt h)
  have hle : nth ls x ≤ nth ls (oAt ls t) := by
    have := hb.2
    simp only [befB, Bool.or_eq_true, Bool.and_eq_true, decide_eq_true_eq] at this
    omega
  have e : (6 - nth ls x).toNat = (nth ls (oAt ls t) - nth ls x).toNat + (6 - nth ls (oAt ls t)).toNat := by omega
  unfold wt6
  rw [e, pw_add]
  exact Int.dvd_mul_left _ _
theorem nT_cap {r : Int} {ls : List Int} (hr : 2 ≤ r) (hl : lgB ls = true) {t : Nat} (h : t < ls.length) (hlt : nT r ls t < pw r 6) : nT r ls (t + 1) ≤ pw r 6 := by
  have h2 := nth_lg hl (oAt_lt h)
  obtain ⟨a, ha⟩ := nT_dvd hr hl h
  have e : pw r 6 = pw r (6 - nth ls (oAt ls t)).toNat * pw r (nth ls (oAt ls t)).toNat := by rw [← pw_add]; congr 1; omega
  rw [nT_succ h]
  unfold wt6
  have hq := pw_pos hr (6 - nth ls (oAt ls t)).toNat
  obtain ⟨q, hqe⟩ : ∃ q, q = pw r (6 - nth ls (oAt ls t)).toNat := ⟨_, rfl⟩
  obtain ⟨b, hbe⟩ : ∃ b, b = pw r (nth ls (oAt ls t)).toNat := ⟨_, rfl⟩
  rw [← hqe] at ha hq e ⊢
  rw [← hbe] at e
  rw [e, ha] at hlt ⊢
  have hab : a < b := Int.lt_of_mul_lt_mul_left hlt (by omega)
  have : q * (a + 1) ≤ q * b := Int.mul_le_mul_of_nonneg_left (by omega) (by omega)
  rw [Int.mul_add, Int.mul_one] at this
  exact this
theorem krTo_scale {r m : Int} {ls : List Int} (hr : 2 ≤ r) (hl : lgB ls = true) (hm : m ≤ 6) (k : Nat) (hk : k ≤ ls.length) (hge : ∀ j, j < k → nth ls j ≤ m) :
    krTo r m ls k * pw r (6 - m).toNat = sumF (wt6 r ls) (List.range k) := by
  induction k with
  | zero => simp [krTo, sumF]
  | succ k ih =>
    have h1 := nth_lg hl (show k < ls.length by omega)
    have h2 := hge k (by omega)
    rw [krTo, Int.add_mul, ih (by omega) fun j hj => hge j (by omega), sumF_range, ← pw_add]
    unfold wt6
    congr 2
    omega
theorem has_iff {r : Int} {ls : List Int} (hr : 2 ≤ r) (hl : lgB ls = true) : hasB ls r = true ↔ nT r ls ls.length ≤ pw r 6 := by
  have hm := mxTo_bd hl ls.length (Nat.le_refl _)
  have hge : ∀ j, j < ls.length → nth ls j ≤ mxL ls := fun j hj => mxTo_ge ls.length j hj
  have hs := krTo_scale (m := mxL ls) hr hl hm.2 ls.length (Nat.le_refl _) hge
  have e : krW r ls * pw r (6 - mxL ls).toNat = pw r 6 := by
    unfold krW
    rw [← pw_add]
    congr 1
    have : mxL ls = mxTo ls ls.length := rfl
    omega
  have hp := pw_pos hr (6 - mxL ls).toNat
  rw [nT_all, ← hs, ← e]
  unfold hasB krL
  rw [decide_eq_true_eq]
  exact ⟨fun h => Int.mul_le_mul_of_nonneg_right h (by omega), fun h => Int.le_of_mul_le_mul_right h (by omega)⟩
theorem has_end {r : Int} {ls : List Int} (hr : 2 ≤ r) (hl : lgB ls = true) (h : nT r ls ls.length ≤ pw r 6) : hasB ls r = true := (has_iff hr hl).2 h
theorem has_not {r : Int} {ls : List Int} (hr : 2 ≤ r) (hl : lgB ls = true) {t : Nat} (ht : t < ls.length) (h : nT r ls t = pw r 6) : hasB ls r = false := by
  cases hh : hasB ls r with
  | false => rfl
  | true =>
    have h1 := (has_iff hr hl).1 hh
    have h2 := nT_mono hr (s := t) (t := ls.length) ht (Nat.le_refl _)
    omega
/-- The digits of a place are all 0: nothing has been placed, or all is full. -/
theorem free_zero {r : Int} {ls : List Int} (hr : 2 ≤ r) {t : Nat} (h1 : 1 ≤ t) (h : t ≤ ls.length) (hc : nT r ls t ≤ pw r 6) : dig r 6 (nT r ls t) = List.replicate 6 0 ↔ nT r ls t = pw r 6 := by
  constructor
  · intro hd
    by_cases e : nT r ls t = pw r 6
    · exact e
    · exfalso
      have := dig_zeros hr 6 _ (nT_nonneg hr t) (by omega) hd
      have h0 := nT_mono hr (s := 0) (t := t) (by omega) h
      rw [nT_zero] at h0
      omega
  · intro e; rw [e, dig_full hr]
theorem free_word {r : Int} {ls : List Int} (hr : 2 ≤ r) (hl : lgB ls = true) {t : Nat} (h : t < ls.length) : (dig r 6 (nT r ls t)).take (nth ls (oAt ls t)).toNat = wdC r ls (oAt ls t) := by
  have h2 := nth_lg hl (oAt_lt h)
  have e : (6 : Nat) = (nth ls (oAt ls t)).toNat + (6 - nth ls (oAt ls t)).toNat := by omega
  unfold wdC
  rw [← nT_eq h]
  have := dig_take hr (6 - nth ls (oAt ls t)).toNat (nth ls (oAt ls t)).toNat (nT r ls t)
  rw [← e] at this
  exact this
/-- The place as the number of a word and digits 0; behind it. -/
theorem free_split {r : Int} {ls : List Int} (hr : 2 ≤ r) (hl : lgB ls = true) {t : Nat} (h : t < ls.length) : ∃ M : Int,
    dig r 6 (nT r ls t) = dig r (nth ls (oAt ls t)).toNat M ++ List.replicate (6 - (nth ls (oAt ls t)).toNat) 0 ∧ dig r 6 (nT r ls (t + 1)) = dig r (nth ls (oAt ls t)).toNat (M + 1) ++ List.replicate (6 - (nth ls (oAt ls t)).toNat) 0 := by
  have h2 := nth_lg hl (oAt_lt h)
  obtain ⟨M, hM⟩ := nT_dvd hr hl h
  have e : (6 : Nat) = (nth ls (oAt ls t)).toNat + (6 - nth ls (oAt ls t)).toNat := by omega
  have e2 : 6 - (nth ls (oAt ls t)).toNat = (6 - nth ls (oAt ls t)).toNat := by omega
  rw [Int.mul_comm] at hM
  refine ⟨M, ?_, ?_⟩
  · have := dig_mul hr (6 - nth ls (oAt ls t)).toNat (nth ls (oAt ls t)).toNat M
    rw [← e, ← hM] at this
    rw [this, e2]
  · have := dig_mul hr (6 - nth ls (oAt ls t)).toNat (nth ls (oAt ls t)).toNat (M + 1)
    rw [← e, Int.add_mul, Int.one_mul, ← hM] at this
    rw [nT_succ h, e2]
    exact this

/-! ### Arrays of six -/
theorem arr6_cell (D : List Int) (w : World) (t : TypeId) : ∀ i, i < 6 → (w.alloc (.cells #[.int .i64 (nth D 0), .int .i64 (nth D 1), .int .i64 (nth D 2), .int .i64 (nth D 3), .int .i64 (nth D 4), .int .i64 (nth D 5)] t)).cell? ⟨w.heap.size, i, none⟩ = some (.int .i64 (nth D i)) := by
  intro i hi
  match i, hi with
  | 0, _ => simp [go_sem]
  | 1, _ => simp [go_sem]
  | 2, _ => simp [go_sem]
  | 3, _ => simp [go_sem]
  | 4, _ => simp [go_sem]
  | 5, _ => simp [go_sem]
theorem nth_set (D : List Int) (k i : Nat) (x : Int) (hk : k < D.length) : nth (D.set k x) i = if i = k then x else nth D i := by
  unfold nth
  rw [List.getElem?_set]
  by_cases h : k = i
  · subst h; simp [hk]
  · rw [if_neg h, if_neg (Ne.symm h)]
def A6 (w : World) (b : Nat) (D : List Int) : Prop := ∀ i, i < 6 → w.cell? ⟨b, i, none⟩ = some (.int .i64 (nth D i)) ∧ w.frozen? ⟨b, i, none⟩ = false
theorem A6.set {w : World} {b : Nat} {D : List Int} (h : A6 w b D) (hD : D.length = 6) {k : Nat} (hk : k < 6) (x : Int) : A6 (w.setCell ⟨b, k, none⟩ (.int .i64 x)) b (D.set k x) := by
  intro i hi
  refine ⟨?_, by rw [World.frozen?_setCell]; exact (h i hi).2⟩
  rw [nth_set D k i x (by omega)]
  by_cases e : i = k
  · subst e
    rw [if_pos rfl]
    exact setc_same (h i hi).1
  · rw [if_neg e, World.cell?_setCell_other (h := fun he => e (by injection he with _ he; exact he.symm))]
    exact (h i hi).1
theorem A6.store {w : World} {b : Nat} {Z : List Int} (h : A6 w b Z) (hZ : Z.length = 6) (e0 e1 e2 e3 e4 e5 : Int) :
    A6 ((((((w.setCell ⟨b, 0, none⟩ (.int .i64 e0)).setCell ⟨b, 1, none⟩ (.int .i64 e1)).setCell ⟨b, 2, none⟩ (.int .i64 e2)).setCell ⟨b, 3, none⟩ (.int .i64 e3)).setCell ⟨b, 4, none⟩ (.int .i64 e4)).setCell ⟨b, 5, none⟩ (.int .i64 e5)) b [e0, e1, e2, e3, e4, e5] := by
  match Z, hZ with
  | [z0, z1, z2, z3, z4, z5], _ =>
    exact (((((h.set rfl (k := 0) (by decide) e0).set rfl (k := 1) (by decide) e1).set rfl (k := 2) (by decide) e2).set rfl (k := 3) (by decide) e3).set rfl (k := 4) (by decide) e4).set rfl (k := 5) (by decide) e5
theorem Below.set6 {B : Nat} {a w : World} (h : Below B a w) {b : Nat} (hb : B ≤ b) (e0 e1 e2 e3 e4 e5 : Value) :
    Below B a ((((((w.setCell ⟨b, 0, none⟩ e0).setCell ⟨b, 1, none⟩ e1).setCell ⟨b, 2, none⟩ e2).setCell ⟨b, 3, none⟩ e3).setCell ⟨b, 4, none⟩ e4).setCell ⟨b, 5, none⟩ e5) :=
  (((((h.setCell (p := ⟨b, 0, none⟩) hb _).setCell (p := ⟨b, 1, none⟩) hb _).setCell (p := ⟨b, 2, none⟩) hb _).setCell (p := ⟨b, 3, none⟩) hb _).setCell (p := ⟨b, 4, none⟩) hb _).setCell (p := ⟨b, 5, none⟩) hb _
theorem A6.below {w w' : World} {C b : Nat} {D : List Int} (h : A6 w b D) (hb : Below C w w') (hC : b < C) : A6 w' b D := fun i hi =>
  ⟨by rw [hb.cell (p := ⟨b, i, none⟩) hC]; exact (h i hi).1, by rw [hb.frozen (p := ⟨b, i, none⟩) hC]; exact (h i hi).2⟩
theorem A6.made (D : List Int) (w : World) (t : TypeId) : A6 (w.alloc (.cells #[.int .i64 (nth D 0), .int .i64 (nth D 1), .int .i64 (nth D 2), .int .i64 (nth D 3), .int .i64 (nth D 4), .int .i64 (nth D 5)] t)) w.heap.size D := fun i hi =>
  ⟨arr6_cell D w t i hi, by simp [go_sem]⟩

set_option maxRecDepth 100000 in
set_option maxHeartbeats 1000000 in
theorem placeBehind_any (D : List Int) (r M : Int) (l : Nat) (w : World) (hr : 2 ≤ r) (hr2 : r ≤ 60) (hl1 : 1 ≤ l) (hl6 : l ≤ 6) (hD : D = dig r l M ++ List.replicate (6 - l) 0) :
    Calls Try.prog 76 #[.agg #[.int .i64 (nth D 0), .int .i64 (nth D 1), .int .i64 (nth D 2), .int .i64 (nth D 3), .int .i64 (nth D 4), .int .i64 (nth D 5)], .int .i64 l, .int .i64 r] w
      fun e w' => ∃ E, E = dig r l (M + 1) ++ List.replicate (6 - l) 0 ∧ e = .returned (.agg #[.int .i64 (nth E 0), .int .i64 (nth E 1), .int .i64 (nth E 2), .int .i64 (nth E 3), .int .i64 (nth E 4), .int .i64 (nth E 5)]) ∧ Below w.heap.size w w' := by
  have hA := A6.made D w 81
  have hDl : D.length = 6 := by rw [hD]; simp [dig_len]; omega
  have HD := Lib.hid hD
  clear hD
  go_enter Try.func76, Try.ntmps76
  go_wp2
  obtain ⟨Z, hZ⟩ : ∃ Z : List Int, Z = [0, 0, 0, 0, 0, 0] := ⟨_, rfl⟩
  have hZl : Z.length = 6 := by rw [hZ]; rfl
  have hA2 : A6 ((w.alloc (.cells #[.int .i64 (nth D 0), .int .i64 (nth D 1), .int .i64 (nth D 2), .int .i64 (nth D 3), .int .i64 (nth D 4), .int .i64 (nth D 5)] 81)).alloc (.cells #[.int .i64 0, .int .i64 0, .int .i64 0, .int .i64 0, .int .i64 0, .int .i64 0] 81)) (w.heap.size + 1) Z := by
    have := A6.made [0, 0, 0, 0, 0, 0] (w.alloc (.cells #[.int .i64 (nth D 0), .int .i64 (nth D 1), .int .i64 (nth D 2), .int .i64 (nth D 3), .int .i64 (nth D 4), .int .i64 (nth D 5)] 81)) 81
    rw [hZ]
    have e0 : ∀ i, i < 6 → nth [0, 0, 0, 0, 0, 0] i = 0 := by decide
    rw [e0 0 (by decide), e0 1 (by decide), e0 2 (by decide), e0 3 (by decide), e0 4 (by decide), e0 5 (by decide)] at this
    simpa using this
  have hbW := ((Below.refl w.heap.size w).alloc (Nat.le_refl _) (.cells #[.int .i64 (nth D 0), .int .i64 (nth D 1), .int .i64 (nth D 2), .int .i64 (nth D 3), .int .i64 (nth D 4), .int .i64 (nth D 5)] 81)).alloc (by simp) (.cells #[.int .i64 0, .int .i64 0, .int .i64 0, .int .i64 0, .int .i64 0, .int .i64 0] 81)
  have hA1 := hA.below ((Below.refl (w.heap.size + 1) _).alloc (by simp) (.cells #[.int .i64 0, .int .i64 0, .int .i64 0, .int .i64 0, .int .i64 0, .int .i64 0] 81)) (by omega)
  generalize (w.alloc (.cells #[.int .i64 (nth D 0), .int .i64 (nth D 1), .int .i64 (nth D 2), .int .i64 (nth D 3), .int .i64 (nth D 4), .int .i64 (nth D 5)] 81)).alloc (.cells #[.int .i64 0, .int .i64 0, .int .i64 0, .int .i64 0, .int .i64 0, .int .i64 0] 81) = W at *
  clear hA hZ
  go_loopw [7] (fun i wr => ∃ (k : Nat) (E T : List Int) (N : Int), k ≤ l ∧ i = .int .i64 ((k : Int) - 1) ∧ E.length = 6 ∧ Hid (E = dig r k N ++ T) ∧ A6 wr w.heap.size E ∧ A6 wr (w.heap.size + 1) Z ∧ Below w.heap.size w wr ∧ Hid (dig r l (M + 1) ++ List.replicate (6 - l) 0 = dig r k (N + 1) ++ T)) (fun i wr => (intOf i + 1).toNat)
  case atStart => exact ⟨l, D, List.replicate (6 - l) 0, M, Nat.le_refl _, rfl, hDl, HD, hA1, hA2, hbW, Lib.hid rfl⟩
  case round =>
    obtain ⟨k, E, T, N, hk, rfl, hEl, hE, hAE, hAZ, hbl, hfin⟩ := hrel
    cases k with
    | zero =>
      have hfE : Hid (E = dig r l (M + 1) ++ List.replicate (6 - l) 0) := Lib.hid (by rw [hfin.out, hE.out]; rfl)
      have c0 := (hAE 0 (by decide)).1
      have c1 := (hAE 1 (by decide)).1
      have c2 := (hAE 2 (by decide)).1
      have c3 := (hAE 3 (by decide)).1
      have c4 := (hAE 4 (by decide)).1
      have c5 := (hAE 5 (by decide)).1
      have d0 := hAZ 0 (by decide)
      have d1 := hAZ 1 (by decide)
      have d2 := hAZ 2 (by decide)
      have d3 := hAZ 3 (by decide)
      have d4 := hAZ 4 (by decide)
      have d5 := hAZ 5 (by decide)
      go_wp2
      have hS := hAZ.store hZl (nth E 0) (nth E 1) (nth E 2) (nth E 3) (nth E 4) (nth E 5)
      have hSB := Below.set6 hbl (b := w.heap.size + 1) (by omega) (.int .i64 (nth E 0)) (.int .i64 (nth E 1)) (.int .i64 (nth E 2)) (.int .i64 (nth E 3)) (.int .i64 (nth E 4)) (.int .i64 (nth E 5))
      generalize (((((wr.setCell ⟨w.heap.size + 1, 0, none⟩ (.int .i64 (nth E 0))).setCell ⟨w.heap.size + 1, 1, none⟩ (.int .i64 (nth E 1))).setCell ⟨w.heap.size + 1, 2, none⟩ (.int .i64 (nth E 2))).setCell ⟨w.heap.size + 1, 3, none⟩ (.int .i64 (nth E 3))).setCell ⟨w.heap.size + 1, 4, none⟩ (.int .i64 (nth E 4))).setCell ⟨w.heap.size + 1, 5, none⟩ (.int .i64 (nth E 5)) = wf at *
      have k0 : wf.cell? ⟨w.heap.size + 1, 0, none⟩ = some (.int .i64 (nth E 0)) := (hS 0 (by decide)).1
      have k1 : wf.cell? ⟨w.heap.size + 1, 1, none⟩ = some (.int .i64 (nth E 1)) := (hS 1 (by decide)).1
      have k2 : wf.cell? ⟨w.heap.size + 1, 2, none⟩ = some (.int .i64 (nth E 2)) := (hS 2 (by decide)).1
      have k3 : wf.cell? ⟨w.heap.size + 1, 3, none⟩ = some (.int .i64 (nth E 3)) := (hS 3 (by decide)).1
      have k4 : wf.cell? ⟨w.heap.size + 1, 4, none⟩ = some (.int .i64 (nth E 4)) := (hS 4 (by decide)).1
      have k5 : wf.cell? ⟨w.heap.size + 1, 5, none⟩ = some (.int .i64 (nth E 5)) := (hS 5 (by decide)).1
      refine bodyPost_ret (v := .agg #[.int .i64 (nth E 0), .int .i64 (nth E 1), .int .i64 (nth E 2), .int .i64 (nth E 3), .int .i64 (nth E 4), .int .i64 (nth E 5)]) (by simp [results, Try.results76, go_sem, k0, k1, k2, k3, k4, k5]) rfl ⟨E, hfE.out, rfl, hSB⟩
    | succ p =>
      have hp6 : p < 6 := by omega
      have hNr := Int.emod_nonneg N (show r ≠ 0 by omega)
      have hNl := Int.emod_lt_of_pos N (show 0 < r by omega)
      have hEp : nth E p = N % r := by
        rw [hE.out, dig]
        unfold nth
        rw [List.append_assoc, List.getElem?_append_right (by rw [dig_len]; exact Nat.le_refl _), dig_len, Nat.sub_self]
        rfl
      obtain ⟨q, hq⟩ := hAE p hp6
      obtain ⟨x, hx⟩ : ∃ x, x = N % r := ⟨_, rfl⟩
      rw [hEp] at q
      rw [← hx] at q hNr hNl
      have hpp : ((p + 1 : Nat) : Int) - 1 = (p : Int) := by omega
      have hsp : ∀ y : Int, E.set p y = dig r p (N / r) ++ [y] ++ T := fun y => by
        rw [hE.out, dig, List.append_assoc, List.set_append_right _ _ (by rw [dig_len]; exact Nat.le_refl _), dig_len, Nat.sub_self, List.append_assoc]; rfl
      have hA1 := hAE.set hEl hp6 (x + 1)
      have hq1 := (hA1 p hp6)
      have e1 : nth (E.set p (x + 1)) p = x + 1 := by rw [nth_set E p p _ (by omega), if_pos rfl]
      rw [e1] at hq1
      obtain ⟨q1, hq1⟩ := hq1
      have hb1 := hbl.setCell (p := ⟨w.heap.size, p, none⟩) (Nat.le_refl _) (.int .i64 (x + 1))
      have hZ1 : A6 (wr.setCell ⟨w.heap.size, p, none⟩ (.int .i64 (x + 1))) (w.heap.size + 1) Z := fun i hi => ⟨by rw [setc_far (by omega)]; exact (hAZ i hi).1, by rw [World.frozen?_setCell]; exact (hAZ i hi).2⟩
      rw [hpp]
      by_cases hlt : x + 1 < r
      · obtain ⟨F, hF⟩ : ∃ F, F = E.set p (x + 1) := ⟨_, rfl⟩
        have hfE : Hid (F = dig r l (M + 1) ++ List.replicate (6 - l) 0) := Lib.hid (by rw [hfin.out, dig_plain hr p N (by rw [← hx]; exact hlt), hF, hsp, hx])
        rw [← hF] at hA1
        clear hx hEp hpp hF hsp e1
        have c0 := (hA1 0 (by decide)).1
        have c1 := (hA1 1 (by decide)).1
        have c2 := (hA1 2 (by decide)).1
        have c3 := (hA1 3 (by decide)).1
        have c4 := (hA1 4 (by decide)).1
        have c5 := (hA1 5 (by decide)).1
        have d0 := hZ1 0 (by decide)
        have d1 := hZ1 1 (by decide)
        have d2 := hZ1 2 (by decide)
        have d3 := hZ1 3 (by decide)
        have d4 := hZ1 4 (by decide)
        have d5 := hZ1 5 (by decide)
        generalize hw1 : wr.setCell ⟨w.heap.size, p, none⟩ (.int .i64 (x + 1)) = w1 at *
        go_wp2
        have hS := hZ1.store hZl (nth F 0) (nth F 1) (nth F 2) (nth F 3) (nth F 4) (nth F 5)
        have hSB := Below.set6 hb1 (b := w.heap.size + 1) (by omega) (.int .i64 (nth F 0)) (.int .i64 (nth F 1)) (.int .i64 (nth F 2)) (.int .i64 (nth F 3)) (.int .i64 (nth F 4)) (.int .i64 (nth F 5))
        generalize (((((w1.setCell ⟨w.heap.size + 1, 0, none⟩ (.int .i64 (nth F 0))).setCell ⟨w.heap.size + 1, 1, none⟩ (.int .i64 (nth F 1))).setCell ⟨w.heap.size + 1, 2, none⟩ (.int .i64 (nth F 2))).setCell ⟨w.heap.size + 1, 3, none⟩ (.int .i64 (nth F 3))).setCell ⟨w.heap.size + 1, 4, none⟩ (.int .i64 (nth F 4))).setCell ⟨w.heap.size + 1, 5, none⟩ (.int .i64 (nth F 5)) = wf at *
        have k0 : wf.cell? ⟨w.heap.size + 1, 0, none⟩ = some (.int .i64 (nth F 0)) := (hS 0 (by decide)).1
        have k1 : wf.cell? ⟨w.heap.size + 1, 1, none⟩ = some (.int .i64 (nth F 1)) := (hS 1 (by decide)).1
        have k2 : wf.cell? ⟨w.heap.size + 1, 2, none⟩ = some (.int .i64 (nth F 2)) := (hS 2 (by decide)).1
        have k3 : wf.cell? ⟨w.heap.size + 1, 3, none⟩ = some (.int .i64 (nth F 3)) := (hS 3 (by decide)).1
        have k4 : wf.cell? ⟨w.heap.size + 1, 4, none⟩ = some (.int .i64 (nth F 4)) := (hS 4 (by decide)).1
        have k5 : wf.cell? ⟨w.heap.size + 1, 5, none⟩ = some (.int .i64 (nth F 5)) := (hS 5 (by decide)).1
        refine bodyPost_ret (v := .agg #[.int .i64 (nth F 0), .int .i64 (nth F 1), .int .i64 (nth F 2), .int .i64 (nth F 3), .int .i64 (nth F 4), .int .i64 (nth F 5)]) (by simp [results, Try.results76, go_sem, k0, k1, k2, k3, k4, k5]) rfl ⟨F, hfE.out, rfl, hSB⟩
      · have hxr : x + 1 = r := by omega
        have hcar := dig_carry hr p N (by rw [← hx]; exact hxr)
        have hfin' : Hid (dig r l (M + 1) ++ List.replicate (6 - l) 0 = dig r p (N / r + 1) ++ (0 :: T)) := Lib.hid (by rw [hfin.out, hcar, List.append_assoc]; rfl)
        have hA2 := hA1.set (by simpa using hEl) hp6 0
        rw [List.set_set] at hA2
        have hE2 : Hid (E.set p 0 = dig r p (N / r) ++ (0 :: T)) := Lib.hid (by rw [hsp 0, List.append_assoc]; rfl)
        have hl2 : (E.set p 0).length = 6 := by simpa using hEl
        obtain ⟨F, hF⟩ : ∃ F, F = E.set p 0 := ⟨_, rfl⟩
        rw [← hF] at hA2 hE2 hl2
        have hb2 := hb1.setCell (p := ⟨w.heap.size, p, none⟩) (Nat.le_refl _) (.int .i64 0)
        have hZ2 : A6 ((wr.setCell ⟨w.heap.size, p, none⟩ (.int .i64 (x + 1))).setCell ⟨w.heap.size, p, none⟩ (.int .i64 0)) (w.heap.size + 1) Z := fun i hi => ⟨by rw [setc_far (by omega)]; exact (hZ1 i hi).1, by rw [World.frozen?_setCell]; exact (hZ1 i hi).2⟩
        clear hx hEp hpp hF hsp e1 hcar hA1 hAE hAZ hZ1
        rw [hxr] at hA2 hb2 hZ2
        go_wp2
        go_roundw
        case rel => exact ⟨p, F, 0 :: T, N / r, by omega, rfl, hl2, hE2, hA2, hZ2, hb2, hfin'⟩
        case measure => first | (simp [intOf]; done) | (simp [intOf]; omega)
end Go.Proofs.Ytgceaffcalkbgaa
