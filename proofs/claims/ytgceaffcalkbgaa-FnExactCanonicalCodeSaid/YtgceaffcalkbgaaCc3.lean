/- Chapter 4: CanonicalCode of the model. -/
import Derived.Test.YtgceaffcalkbgaaCc2
namespace Go.Proofs.Ytgceaffcalkbgaa
open Go.RowKit
set_option linter.unusedSimpArgs false
set_option linter.unusedVariables false

def caB (ls : List Int) (r : Int) : Bool := kfB ls r && hasB ls r
def caL (ls : List Int) (r : Int) : List (List Int) := if caB ls r then canT r ls else []
theorem caL_yes {ls : List Int} {r : Int} (h : caB ls r = true) : caL ls r = canT r ls := by simp [caL, h]
theorem caL_no {ls : List Int} {r : Int} (h : caB ls r = false) : caL ls r = [] := by simp [caL, h]

theorem sumF_filter (f : Nat → Int) (p : Nat → Bool) (l : List Nat) : sumF f (l.filter p) = sumF (fun x => if p x then f x else 0) l := by
  induction l with
  | nil => rfl
  | cons x l ih =>
    rw [List.filter_cons]
    cases h : p x with
    | true => simp only [if_true, sumF, ih, h]
    | false => simp only [Bool.false_eq_true, if_false, sumF, ih, h]; omega
theorem sumF_congr {f g : Nat → Int} {l : List Nat} (h : ∀ x ∈ l, f x = g x) : sumF f l = sumF g l := by
  induction l with
  | nil => rfl
  | cons x l ih => simp only [sumF]; rw [h x (by simp), ih fun y hy => h y (by simp [hy])]
theorem sumF_one {f g : Nat → Int} {i : Nat} {d : Int} (n : Nat) (hi : i < n) (ho : ∀ x, x ≠ i → g x = f x) (hd : g i = f i + d) : sumF g (List.range n) = sumF f (List.range n) + d := by
  induction n with
  | zero => omega
  | succ n ih =>
    rw [sumF_range, sumF_range]
    by_cases e : i = n
    · subst e
      rw [hd, sumF_congr (g := f) fun x hx => ho x (by have := List.mem_range.1 hx; omega)]
      omega
    · rw [ih (by omega), ho n (Ne.symm e)]; omega
theorem befB_succ (ls : List Int) (a : Int) (i j : Nat) : befB ls a (i + 1) j = (befB ls a i j || (decide (j = i) && decide (nth ls i = a))) := by
  unfold befB
  by_cases e : j = i
  · subst e
    have : decide (j < j) = false := by simp
    simp only [Nat.lt_succ_self, decide_true, Bool.and_true, this, Bool.and_false, Bool.or_false, Bool.true_and]
  · have h1 : decide (j < i + 1) = decide (j < i) := by rw [decide_eq_decide]; omega
    rw [h1, decide_eq_false e, Bool.false_and, Bool.or_false]
theorem befB_next (ls : List Int) (a : Int) {j : Nat} (hj : j < ls.length) : befB ls (a + 1) 0 j = befB ls a ls.length j := by
  unfold befB
  have h0 : decide (j < 0) = false := by simp
  have h1 : decide (j < ls.length) = true := by simpa using hj
  rw [h0, h1, Bool.and_false, Bool.or_false, Bool.and_true, ← Bool.decide_or, decide_eq_decide]
  omega
theorem nB_same {r a : Int} {ls : List Int} {i : Nat} (h : nth ls i ≠ a) : nB r ls a (i + 1) = nB r ls a i := by
  unfold nB
  congr 1
  apply List.filter_congr
  intro j _
  rw [befB_succ, decide_eq_false h, Bool.and_false, Bool.or_false]
theorem nB_more {r a : Int} {ls : List Int} {i : Nat} (hi : i < ls.length) (h : nth ls i = a) : nB r ls a (i + 1) = nB r ls a i + pw r (6 - a).toNat := by
  unfold nB
  rw [sumF_filter, sumF_filter]
  refine sumF_one ls.length hi (fun x hx => ?_) ?_
  · simp only [befB_succ, decide_eq_false hx, Bool.false_and, Bool.or_false]
  · have h0 : befB ls a i i = false := by
      unfold befB; rw [h]; simp
    rw [befB_succ, h0, h]
    simp [wt6, h]
theorem nB_next (r a : Int) (ls : List Int) : nB r ls (a + 1) 0 = nB r ls a ls.length := by
  unfold nB
  congr 1
  apply List.filter_congr
  intro j hj
  exact befB_next ls a (List.mem_range.1 hj)
theorem nB_first {r : Int} {ls : List Int} (hl : lgB ls = true) : nB r ls 1 0 = 0 := by
  unfold nB
  rw [List.filter_eq_nil_iff.2]
  · rfl
  · intro j hj
    have := nth_lg hl (List.mem_range.1 hj)
    unfold befB
    simp
    omega
theorem nB_le {r a : Int} {ls : List Int} {i : Nat} (hr : 2 ≤ r) (hl : lgB ls = true) (hh : hasB ls r = true) : 0 ≤ nB r ls a i ∧ nB r ls a i ≤ pw r 6 := by
  have h1 := (has_iff hr hl).1 hh
  rw [nT_all] at h1
  refine ⟨sumF_nonneg fun x _ => by have := wt6_pos hr ls x; omega, Int.le_trans ?_ h1⟩
  unfold nB
  rw [sumF_filter]
  have : ∀ l : List Nat, sumF (fun x => if befB ls a i x then wt6 r ls x else 0) l ≤ sumF (wt6 r ls) l := by
    intro l
    induction l with
    | nil => exact Int.le_refl _
    | cons x l ih =>
      simp only [sumF]
      have := wt6_pos hr ls x
      split <;> omega
  exact this _
/-- The words of the indices before a place; none for the others. -/
def midC (r : Int) (ls : List Int) (a : Int) (i : Nat) : List (List Int) := (List.range ls.length).map fun j => if befB ls a i j then wdC r ls j else []
theorem midC_len (r a : Int) (ls : List Int) (i : Nat) : (midC r ls a i).length = ls.length := by simp [midC]
theorem rowAt_midC {r a : Int} {ls : List Int} {i j : Nat} (h : j < ls.length) : rowAt (midC r ls a i) j = if befB ls a i j then wdC r ls j else [] := by simp [midC, rowAt, h]
theorem midC_same {r a : Int} {ls : List Int} {i : Nat} (h : nth ls i ≠ a) : midC r ls a (i + 1) = midC r ls a i := by
  unfold midC
  apply List.map_congr_left
  intro j _
  rw [befB_succ, decide_eq_false h, Bool.and_false, Bool.or_false]
theorem midC_more {r a : Int} {ls : List Int} {i : Nat} (hi : i < ls.length) (h : nth ls i = a) : (midC r ls a i).set i (wdC r ls i) = midC r ls a (i + 1) := by
  refine rows_ext (by rw [List.length_set, midC_len, midC_len]) fun j hj => ?_
  rw [List.length_set, midC_len] at hj
  rw [rowAt_set (by rw [midC_len]; exact hi), rowAt_midC hj, rowAt_midC hj, befB_succ]
  by_cases e : j = i
  · subst e
    rw [if_pos rfl, h]
    simp
  · rw [if_neg e, decide_eq_false e, Bool.false_and, Bool.or_false]
theorem midC_next (r a : Int) (ls : List Int) : midC r ls (a + 1) 0 = midC r ls a ls.length := by
  unfold midC
  apply List.map_congr_left
  intro j hj
  rw [befB_next ls a (List.mem_range.1 hj)]
theorem midC_first {r : Int} {ls : List Int} (hl : lgB ls = true) : midC r ls 1 0 = List.replicate ls.length [] := by
  refine rows_ext (by rw [midC_len, List.length_replicate]) fun j hj => ?_
  rw [midC_len] at hj
  have := nth_lg hl hj
  have hb : befB ls 1 0 j = false := by unfold befB; simp; omega
  rw [rowAt_midC hj, hb]
  simp [rowAt, List.getElem?_replicate, hj]
theorem midC_last {r : Int} {ls : List Int} (hl : lgB ls = true) : midC r ls 7 0 = canT r ls := by
  refine rows_ext (by rw [midC_len, canT_len]) fun j hj => ?_
  rw [midC_len] at hj
  have := nth_lg hl hj
  have hb : befB ls 7 0 j = true := by unfold befB; simp; omega
  rw [rowAt_midC hj, rowAt_canT hj, hb, if_pos rfl]

/-- The step of the model: the next number at length a, and its word. -/
theorem canon_step {r a X : Int} {q : Nat} {ls : List Int} {i : Nat} (hr : 2 ≤ r) (hi : i < ls.length) (hl : lgB ls = true) (ha : nth ls i = a) (hq : (q : Int) ≤ a) (h : X * pw r (6 - q) = nB r ls a i) :
    wdC r ls i = dig r a.toNat (X * pw r (a - q).toNat) ∧ (X * pw r (a - q).toNat + 1) * pw r (6 - a.toNat) = nB r ls a (i + 1) ∧ X * pw r (a - q).toNat * pw r (6 - a.toNat) = nB r ls a i := by
  have hb := nth_lg hl hi
  have e : X * pw r (a - q).toNat * pw r (6 - a.toNat) = nB r ls a i := by
    rw [Int.mul_assoc, ← pw_add, ← h]
    congr 2
    omega
  have e6 : (6 - a).toNat = 6 - a.toNat := by omega
  refine ⟨?_, ?_, e⟩
  · unfold wdC
    rw [ha, e6, ← e, Int.mul_ediv_cancel _ (by have := pw_pos hr (6 - a.toNat); omega)]
  · rw [Int.add_mul, e, Int.one_mul, nB_more hi ha, e6]

set_option maxRecDepth 100000 in
set_option maxHeartbeats 2000000 in
theorem specCanonYes (v : Value) (ls : List Int) (r : Int) (w : World) (h1 : Rd w v ls) (hl : lgB ls = true) (hb : baB r = true) (hh : hasB ls r = true) :
    Calls Try.prog 30 #[v, .int .i64 r] w fun e w' => ∃ v, e = .returned (.tuple #[v, .bool true]) ∧ OwnJ w' w.heap.size w'.heap.size v (canT r ls) ∧ Below w.heap.size w w' := by
  obtain ⟨i0, hi, hz0, hz1, hz2⟩ := info_parts Try_info_ints
  obtain ⟨r1, r2⟩ := inB_iff.1 hb
  have hkf : Hid (kfB ls r = true) := Lib.hid (by simp [kfB, hl, hb])
  obtain ⟨a1, c1, rfl⟩ := h1.len
  have h20 := lgB_len hl
  have HLg := Lib.hid hl
  have HHs := Lib.hid hh
  have hle : Hid (∀ a i, 0 ≤ nB r ls a i ∧ nB r ls a i ≤ pw r 6) := Lib.hid fun a i => nB_le r1 hl hh
  obtain ⟨n, hn⟩ : ∃ n, n = ls.length := ⟨_, rfl⟩
  rw [← hn] at h20 ⊢
  have HN := Lib.hid hn
  have H1 := Lib.hid h1
  clear h1 hn
  go_enter Try.func30, Try.ntmps30
  go_wp2_with (first
    | (go_at_call 67; refine (cmGood_any _ ls _ (by rw [HN.out]; exact H1.out)).mono ?_; rintro e w' ⟨rfl, rfl⟩)
    | (go_at_call 70; refine (cmBase_any _ _).mono ?_; rintro e w' ⟨rfl, rfl⟩)
    | (go_at_call 72; refine (cmHas_any _ ls _ _ (by rw [HN.out]; exact H1.out) hkf.out).mono ?_; rintro e w' ⟨rfl, rfl⟩)
    | (refine wpList_make_full _ rfl _ _ 42 rfl w.heap.size 23 i0 (.slice none 0 0) 1 Try.underlying42 hi hz0 hz1 .i64 .i64 _ _ n rfl rfl rfl rfl (by rw [hz2]; omega) (by unfold maxLen; omega) (Nat.le_refl _) ?_; intro w1 hown1 hgrow1))
  have ho0 : Hid (OwnJ w1 w.heap.size w1.heap.size (.slice (some ⟨w.heap.size, 0, none⟩) n n) (midC r ls 1 0)) := Lib.hid (by rw [midC_first HLg.out, ← HN.out]; exact OwnJ.made hown1)
  have hb0 : Below w.heap.size w w1 := (Below.refl _ _).grown hgrow1 (Nat.le_refl _) (fun k h => by cases h)
  clear hown1 hgrow1 hl hb hh
  go_loopw [7, 8, 9] (fun x la i wr => ∃ (a q : Nat) (X : Int), 1 ≤ a ∧ a ≤ 7 ∧ i = .int .i64 a ∧ x = .int .i64 X ∧ la = .int .i64 q ∧ 1 ≤ q ∧ q ≤ a ∧ q ≤ 6 ∧ 0 ≤ X ∧ X ≤ 46656000000 ∧ OwnJ wr w.heap.size wr.heap.size (.slice (some ⟨w.heap.size, 0, none⟩) n n) (midC r ls a 0) ∧ Below w.heap.size w wr ∧ Hid (X * pw r (6 - q) = nB r ls a 0)) (fun x la i wr => 7 - (intOf i).toNat)
  case atStart => exact ⟨1, 1, 0, Nat.le_refl _, by decide, rfl, rfl, rfl, Nat.le_refl _, Nat.le_refl _, by decide, Int.le_refl _, by decide, ho0.out, hb0, Lib.hid (by rw [Int.zero_mul]; exact (nB_first HLg.out).symm)⟩
  case round =>
    obtain ⟨a, q, X, ha1, ha7, rfl, rfl, rfl, hq1, hqa, hq6, hX0, hX1, hown, hbl, hnb⟩ := hrel
    by_cases hlt : a ≤ 6
    · have hlti : (a : Int) ≤ 6 := by omega
      obtain ⟨ws, hws⟩ : ∃ ws, ws = wr := ⟨_, rfl⟩
      subst hws
      go_wp2
      go_loopw [7, 8, 35] (fun x la i wr => ∃ (k q : Nat) (X : Int), k ≤ n ∧ i = .int .i64 k ∧ x = .int .i64 X ∧ la = .int .i64 q ∧ 1 ≤ q ∧ q ≤ a ∧ 0 ≤ X ∧ X ≤ 46656000000 ∧ OwnJ wr w.heap.size wr.heap.size (.slice (some ⟨w.heap.size, 0, none⟩) n n) (midC r ls a k) ∧ Below w.heap.size w wr ∧ Hid (X * pw r (6 - q) = nB r ls a k)) (fun x la i wr => n - (intOf i).toNat)
      case atStart => exact ⟨0, q, X, Nat.zero_le _, rfl, rfl, rfl, hq1, hqa, hX0, hX1, hown, hbl, hnb⟩
      case round =>
        obtain ⟨k, p, Y, hk, rfl, rfl, rfl, hp1, hpa, hY0, hY1, hown2, hbl2, hnb2⟩ := hrel
        by_cases hkn : k < n
        · obtain ⟨g1, o1, e1, hg1, p1⟩ := (H1.out.below hbl2 (Nat.le_refl _)).at_ rfl k (by rw [← HN.out]; exact hkn)
          subst e1
          by_cases hea : ls[k]?.getD 0 = (a : Int)
          · have hst := canon_step (X := Y) (q := p) r1 (by rw [← HN.out]; exact hkn) HLg.out (show nth ls k = (a : Int) from hea) (by omega) hnb2.out
            rw [Int.toNat_natCast] at hst
            obtain ⟨hwd, hnx, hsm⟩ := hst
            obtain ⟨P, hP⟩ : ∃ P, P = pw r ((a : Int) - p).toNat := ⟨_, rfl⟩
            rw [← hP] at hwd hnx hsm
            have hPp : 1 ≤ P := by rw [hP]; exact pw_pos r1 _
            have hlk := hle.out a k
            have hYP : 0 ≤ Y * P ∧ Y * P ≤ 46656000000 := by
              have h1 : 0 ≤ Y * P := Int.mul_nonneg hY0 (by omega)
              refine ⟨h1, ?_⟩
              have h2 : Y * P * 1 ≤ Y * P * pw r (6 - a) := Int.mul_le_mul_of_nonneg_left (pw_pos r1 _) h1
              have h3 := (pw_bd r1 r2 (k := 6) (Nat.le_refl _)).2
              omega
            have hYP1 : Y * P + 1 ≤ 46656000000 := by
              have h2 : (Y * P + 1) * 1 ≤ (Y * P + 1) * pw r (6 - a) := Int.mul_le_mul_of_nonneg_left (pw_pos r1 _) (by omega)
              have h3 := (pw_bd r1 r2 (k := 6) (Nat.le_refl _)).2
              have h4 := (hle.out a (k + 1)).2
              omega
            have HP := Lib.hid hP
            have HWD := Lib.hid hwd
            have HNX := Lib.hid hnx
            have hmid := Lib.hid (midC_more (r := r) (by rw [← HN.out]; exact hkn) (show nth ls k = (a : Int) from hea))
            have hml : Hid ((midC r ls a k).length = n) := Lib.hid (by rw [midC_len, HN.out])
            rw [hea] at p1
            clear hP hwd hnx hsm hea hlk
            go_wp2_with fail
            refine (cmPower_int r ((a : Int) - p) _ r1 r2 (by omega) (by omega)).mono ?_
            rintro e w2 ⟨rfl, rfl⟩
            rw [← HP.out]
            go_wp2_with fail
            refine (cmDigits_any (Y * P) r a _ hYP.1 hYP.2 r1 r2 ha1 hlt).mono ?_
            rintro e w3 ⟨u, rfl, hou, hb3⟩
            have hown3 := hown2.later hb3
            have s3 := hb3.size
            have hP3 := hown3.put hml.out hkn hou.iv hbl2.size (Nat.le_refl _)
            rw [← HWD.out, hmid.out, Nat.max_eq_right s3] at hP3
            obtain ⟨⟨x0, q0⟩, f0⟩ := hown3.cellAt hml.out k hkn
            obtain ⟨ua, uc, rfl⟩ := hou.rd.len
            have HP3 := Lib.hid hP3
            have hb4 := hbl2.trans (hb3.mono hbl2.size)
            clear hP3 hown3
            go_wp2
            go_roundw
            case rel => exact ⟨k + 1, a, Y * P + 1, by omega, by go_num, rfl, rfl, ha1, Nat.le_refl _, by omega, hYP1, by simpa using HP3.out.1, hb4.setCell (p := ⟨w.heap.size, k, none⟩) (Nat.le_refl _) _, HNX⟩
            case measure => simp [intOf]; omega
          · have hmid := Lib.hid (midC_same (r := r) (show nth ls k ≠ (a : Int) from hea))
            have hnb3 : Hid (Y * pw r (6 - p) = nB r ls a (k + 1)) := Lib.hid (by rw [nB_same (show nth ls k ≠ (a : Int) from hea)]; exact hnb2.out)
            have hbeq : (ls[k]?.getD 0 == (a : Int)) = false := by rw [beq_eq_false_iff_ne]; exact hea
            clear hea
            go_wp2
            go_roundw
            case rel => exact ⟨k + 1, p, Y, by omega, by go_num, rfl, rfl, hp1, hpa, hY0, hY1, by rw [hmid.out]; exact hown2, hbl2, hnb3⟩
            case measure => simp [intOf]; omega
        · have hkk : k = n := by omega
          have hmid := Lib.hid (midC_next r a ls)
          have hnb3 : Hid (Y * pw r (6 - p) = nB r ls (a + 1) 0) := Lib.hid (by rw [nB_next, ← HN.out, ← hkk]; exact hnb2.out)
          have hown3 : Hid (OwnJ wr w.heap.size wr.heap.size (.slice (some ⟨w.heap.size, 0, none⟩) n n) (midC r ls ((a + 1 : Nat) : Int) 0)) := Lib.hid (by
            rw [show ((a + 1 : Nat) : Int) = (a : Int) + 1 by omega, hmid.out, ← (hkk.trans HN.out)]; exact hown2)
          clear hown2 hmid
          go_wp2
          go_roundw
          case rel => exact ⟨a + 1, p, Y, by omega, by omega, by go_num, rfl, rfl, hp1, by omega, by omega, hY0, hY1, hown3.out, hbl2, by rw [show ((a + 1 : Nat) : Int) = (a : Int) + 1 by omega]; exact hnb3⟩
          case measure => simp [intOf]; omega
    · obtain rfl : a = 7 := by omega
      have hfin : Hid (OwnJ wr w.heap.size wr.heap.size (.slice (some ⟨w.heap.size, 0, none⟩) n n) (canT r ls)) := Lib.hid (by rw [← midC_last HLg.out]; exact hown)
      clear hown
      go_wp2
      go_ret2
      exact ⟨_, rfl, hfin.out, hbl⟩

theorem specCanon_any (v : Value) (ls : List Int) (r : Int) (w : World) (h1 : Rd w v ls) :
    Calls Try.prog 30 #[v, .int .i64 r] w fun e w' => ∃ v, e = .returned (.tuple #[v, .bool (caB ls r)]) ∧ OwnJ w' w.heap.size w'.heap.size v (caL ls r) ∧ Below w.heap.size w w' := by
  cases hl : lgB ls with
  | false =>
    have hf : Hid (caB ls r = false) := Lib.hid (by simp [caB, kfB, hl])
    obtain ⟨a1, c1, rfl⟩ := h1.len
    have H1 := Lib.hid h1
    clear h1
    go_enter Try.func30, Try.ntmps30
    go_wp2_with (go_at_call 67; refine (cmGood_any _ ls _ H1.out).mono ?_; rintro e w' ⟨rfl, rfl⟩)
    go_ret2
    exact ⟨_, by rw [hf.out]; rfl, by rw [caL_no hf.out]; exact OwnJ.nil _ _ _, Below.refl _ _⟩
  | true =>
    cases hb : baB r with
    | false =>
      have hf : Hid (caB ls r = false) := Lib.hid (by simp [caB, kfB, hb])
      obtain ⟨a1, c1, rfl⟩ := h1.len
      have H1 := Lib.hid h1
      clear h1
      go_enter Try.func30, Try.ntmps30
      go_wp2_with (first
        | (go_at_call 67; refine (cmGood_any _ ls _ H1.out).mono ?_; rintro e w' ⟨rfl, rfl⟩)
        | (go_at_call 70; refine (cmBase_any _ _).mono ?_; rintro e w' ⟨rfl, rfl⟩))
      go_ret2
      exact ⟨_, by rw [hf.out]; rfl, by rw [caL_no hf.out]; exact OwnJ.nil _ _ _, Below.refl _ _⟩
    | true =>
      cases hh : hasB ls r with
      | true =>
        have hf : caB ls r = true := by simp [caB, kfB, hl, hb, hh]
        refine (specCanonYes v ls r w h1 hl hb hh).mono ?_
        rintro e w' ⟨u, rfl, ho, hb'⟩
        exact ⟨u, by rw [hf], by rw [caL_yes hf]; exact ho, hb'⟩
      | false =>
        have hf : Hid (caB ls r = false) := Lib.hid (by simp [caB, hh])
        have hkf : Hid (kfB ls r = true) := Lib.hid (by simp [kfB, hl, hb])
        obtain ⟨a1, c1, rfl⟩ := h1.len
        have H1 := Lib.hid h1
        clear h1
        go_enter Try.func30, Try.ntmps30
        go_wp2_with (first
          | (go_at_call 67; refine (cmGood_any _ ls _ H1.out).mono ?_; rintro e w' ⟨rfl, rfl⟩)
          | (go_at_call 70; refine (cmBase_any _ _).mono ?_; rintro e w' ⟨rfl, rfl⟩)
          | (go_at_call 72; refine (cmHas_any _ ls _ _ H1.out hkf.out).mono ?_; rintro e w' ⟨rfl, rfl⟩))
        go_ret2
        exact ⟨_, by rw [hf.out]; rfl, by rw [caL_no hf.out]; exact OwnJ.nil _ _ _, Below.refl _ _⟩
end Go.Proofs.Ytgceaffcalkbgaa
