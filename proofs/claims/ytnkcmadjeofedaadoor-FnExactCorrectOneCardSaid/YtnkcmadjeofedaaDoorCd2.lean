/- Chapter 5: how many words hold, can be corrected, cannot. -/
import Derived.Test.YtnkcmadjeofedaaDoorCd1
namespace Go.Proofs.YtnkcmadjeofedaaDoor
open Go.RowKit
set_option linter.unusedSimpArgs false
set_option linter.unusedVariables false

/-- 0: the word holds; 1: it can be corrected; 2: it cannot. -/
def kd (zs : List Int) : Nat := if hldB zs then 0 else if corB zs then 1 else 2
theorem kd_0 {zs : List Int} (h : hldB zs = true) : kd zs = 0 := by simp [kd, h]
theorem kd_1 {zs : List Int} (h : hldB zs = false) (h' : corB zs = true) : kd zs = 1 := by simp [kd, h, h']
theorem kd_2 {zs : List Int} (h : hldB zs = false) (h' : corB zs = false) : kd zs = 2 := by simp [kd, h, h']
theorem kd_le (zs : List Int) : kd zs ≤ 2 := by unfold kd; split <;> (try split) <;> omega
/-- How many of the first k words are of a kind. -/
def cn (L : List (List Int)) (c : Nat) : Nat → Nat
  | 0 => 0
  | k + 1 => cn L c k + if kd (rowAt L k) = c then 1 else 0
theorem cn_yes {L : List (List Int)} {c k : Nat} (h : kd (rowAt L k) = c) : cn L c (k + 1) = cn L c k + 1 := by simp [cn, h]
theorem cn_no {L : List (List Int)} {c k : Nat} (h : kd (rowAt L k) ≠ c) : cn L c (k + 1) = cn L c k := by simp [cn, h]
theorem cn_le (L : List (List Int)) (c k : Nat) : cn L c k ≤ k := by
  induction k with
  | zero => simp [cn]
  | succ k ih => simp only [cn]; split <;> omega
theorem cn_all (L : List (List Int)) (k : Nat) : cn L 0 k + cn L 1 k + cn L 2 k = k := by
  induction k with
  | zero => simp [cn]
  | succ k ih =>
    have h := kd_le (rowAt L k)
    simp only [cn]
    have : kd (rowAt L k) = 0 ∨ kd (rowAt L k) = 1 ∨ kd (rowAt L k) = 2 := by omega
    rcases this with h | h | h <;> simp [h] <;> omega
def c3 (L : List (List Int)) (k : Nat) : List Int := [(cn L 0 k : Int), (cn L 1 k : Int), (cn L 2 k : Int)]
def caB (L : List (List Int)) : Bool := decide (L.length ≤ 20) && L.all fun zs => ckB 50 zs
def caL (L : List (List Int)) : List Int := if caB L then c3 L L.length else []
theorem caL_yes {L : List (List Int)} (h : caB L = true) : caL L = c3 L L.length := by simp [caL, h]
theorem caL_no {L : List (List Int)} (h : caB L = false) : caL L = [] := by simp [caL, h]
theorem caL_len (L : List (List Int)) : (caL L).length ≤ 3 := by
  unfold caL c3
  split <;> simp
theorem caB_long {L : List (List Int)} (h : 20 < L.length) : caB L = false := by simp [caB]; intro h'; omega
theorem caB_bad {L : List (List Int)} {k : Nat} (hk : k < L.length) (h : ckB 50 (rowAt L k) = false) : caB L = false := by
  simp only [caB, Bool.and_eq_false_iff]
  right
  rw [List.all_eq_false]
  refine ⟨rowAt L k, ?_, by simp [h]⟩
  simp [rowAt, hk]
theorem caB_good {L : List (List Int)} (hl : L.length ≤ 20) (h : ∀ k, k < L.length → ckB 50 (rowAt L k) = true) : caB L = true := by
  simp only [caB, Bool.and_eq_true, decide_eq_true_eq]
  refine ⟨hl, ?_⟩
  rw [List.all_eq_true]
  intro x hx
  obtain ⟨i, hi, rfl⟩ := List.getElem_of_mem hx
  have := h i hi
  simpa [rowAt, hi] using this
theorem c3_end (L : List (List Int)) (n : Nat) : [(cn L 0 n : Int), (cn L 1 n : Int), (n : Int) - (cn L 0 n : Int) - (cn L 1 n : Int)] = c3 L n := by
  have := cn_all L n
  unfold c3
  congr 3
  omega
theorem rd_new3 (w : World) (x y z : Int) : Own (w.alloc (.cells #[.int .i64 x, .int .i64 y, .int .i64 z] 3)) w.heap.size (.slice (some ⟨w.heap.size, 0, none⟩) 3 3) [x, y, z] := by
  refine ⟨rfl, .inr ⟨w.heap.size, 3, #[.int .i64 x, .int .i64 y, .int .i64 z], rfl, Nat.le_refl _, by simp only [World.alloc, Array.getElem?_push_size], by simp, by unfold maxLen; simp, rfl, rfl⟩⟩

set_option maxRecDepth 100000 in
set_option maxHeartbeats 2000000 in
theorem implCheckAll_any (v : Value) (L : List (List Int)) (w : World) (hr : RdJ w v L) (hT : Tb w) :
    Calls Tryd.prog 14 #[v] w fun e w' => ∃ v', e = .returned (.tuple #[v', .bool (caB L)]) ∧ OwnI w' w.heap.size w'.heap.size v' (caL L) ∧ Below w.heap.size w w' := by
  obtain ⟨i0, hi, hz0, hz1, hz2⟩ := info_parts Tryd_info_int
  have hm := hr.max
  obtain ⟨a, cap, hv, -⟩ := hr.len
  have HR := Lib.hid hr
  clear hr
  subst hv
  by_cases hlong : 20 < (L.length : Int)
  · have hf := caB_long (L := L) (by omega)
    go_enter Tryd.func14, Tryd.ntmps14
    go_wp2
    go_ret2
    exact ⟨_, by rw [hf]; rfl, by rw [caL_no hf]; exact (Own.nil _ _).iv, Below.refl _ _⟩
  · have GOOD := Lib.hid (caB_good (L := L) (by omega))
    obtain ⟨n, hn⟩ : ∃ n, n = L.length := ⟨_, rfl⟩
    rw [← hn] at HR hlong hm ⊢
    have HN := Lib.hid hn
    clear hn
    have HT := Lib.hid hT
    clear hT
    go_enter Tryd.func14, Tryd.ntmps14
    go_wp2
    go_loopw [4, 5, 15] (fun p q i wr => ∃ k : Nat, k ≤ n ∧ i = .int .i64 k ∧ p = .int .i64 (cn L 0 k : Nat) ∧ q = .int .i64 (cn L 1 k : Nat) ∧ Below w.heap.size w wr ∧ Hid (∀ j, j < k → ckB 50 (rowAt L j) = true)) (fun p q i wr => n - (intOf i).toNat)
    case atStart => exact ⟨0, Nat.zero_le _, rfl, rfl, rfl, Below.refl _ _, Lib.hid fun j hj => by omega⟩
    case round =>
      obtain ⟨k, hk, rfl, rfl, rfl, hbl, hall⟩ := hrel
      have n0 := cn_le L 0 k
      have n1 := cn_le L 1 k
      have na := cn_all L k
      by_cases hlt : k < n
      · obtain ⟨gz, oz, u, ea, hgz, qK, hru⟩ := (HR.out.below hbl (Nat.le_refl _)).at_ HN.out k hlt
        subst ea
        have hsz := hbl.size
        have HRU := Lib.hid hru.rd
        have HTW := Lib.hid (HT.out.later hbl)
        obtain ⟨ua, uc, rfl, -⟩ := hru.2
        have HY0 := Lib.hid (fun h => cn_yes (L := L) (c := 0) (k := k) h)
        have HY1 := Lib.hid (fun h => cn_yes (L := L) (c := 1) (k := k) h)
        have HN0 := Lib.hid (fun h => cn_no (L := L) (c := 0) (k := k) h)
        have HN1 := Lib.hid (fun h => cn_no (L := L) (c := 1) (k := k) h)
        clear hru
        cases hw : ckB 50 (rowAt L k) with
        | false =>
          have hf := Lib.hid (caB_bad (by rw [← HN.out]; exact hlt) hw)
          go_wp2_with (go_at_call 21; refine (isCheckedWord_any _ (rowAt L k) _ HRU.out).mono ?_; rintro e w' ⟨rfl, rfl⟩)
          go_ret2
          exact ⟨_, by rw [hf.out]; rfl, by rw [caL_no hf.out]; exact (Own.nil _ _).iv, hbl⟩
        | true =>
          have hall' : Hid (∀ j, j < k + 1 → ckB 50 (rowAt L j) = true) := Lib.hid fun j hj => by
            by_cases e : j = k
            · rw [e]; exact hw
            · exact hall.out j (by omega)
          generalize cn L 0 k = c0 at *
          generalize cn L 1 k = c1 at *
          generalize cn L 2 k = c2 at *
          cases hh : hldB (rowAt L k) with
          | true =>
            have s0 := HY0.out (kd_0 hh)
            have s1 := HN1.out (by rw [kd_0 hh]; decide)
            go_wp2_with (first
              | (go_at_call 21; refine (isCheckedWord_any _ (rowAt L k) _ HRU.out).mono ?_; rintro e w' ⟨rfl, rfl⟩)
              | (go_at_call 23; refine (holds_i _ (rowAt L k) _ HRU.out hw).mono ?_; rintro e w' ⟨rfl, rfl⟩))
            go_roundw
            case rel => exact ⟨k + 1, by omega, by go_num, by rw [s0]; go_num, by rw [s1], hbl, hall'⟩
            case measure => simp [intOf]; omega
          | false =>
            cases hc : corB (rowAt L k) with
            | true =>
              have s0 := HN0.out (by rw [kd_1 hh hc]; decide)
              have s1 := HY1.out (kd_1 hh hc)
              go_wp2_with (first
                | (go_at_call 21; refine (isCheckedWord_any _ (rowAt L k) _ HRU.out).mono ?_; rintro e w' ⟨rfl, rfl⟩)
                | (go_at_call 23; refine (holds_i _ (rowAt L k) _ HRU.out hw).mono ?_; rintro e w' ⟨rfl, rfl⟩)
                | (go_at_call 7; refine (implCorrect_any _ (rowAt L k) _ HRU.out HTW.out).mono ?_; rintro e w1 ⟨v1, rfl, ho1, hb1⟩))
              go_roundw
              case rel => exact ⟨k + 1, by omega, by go_num, by rw [s0], by rw [s1]; go_num, hbl.trans (hb1.mono hsz), hall'⟩
              case measure => simp [intOf]; omega
            | false =>
              have s0 := HN0.out (by rw [kd_2 hh hc]; decide)
              have s1 := HN1.out (by rw [kd_2 hh hc]; decide)
              go_wp2_with (first
                | (go_at_call 21; refine (isCheckedWord_any _ (rowAt L k) _ HRU.out).mono ?_; rintro e w' ⟨rfl, rfl⟩)
                | (go_at_call 23; refine (holds_i _ (rowAt L k) _ HRU.out hw).mono ?_; rintro e w' ⟨rfl, rfl⟩)
                | (go_at_call 7; refine (implCorrect_any _ (rowAt L k) _ HRU.out HTW.out).mono ?_; rintro e w1 ⟨v1, rfl, ho1, hb1⟩))
              go_roundw
              case rel => exact ⟨k + 1, by omega, by go_num, by rw [s0], by rw [s1], hbl.trans (hb1.mono hsz), hall'⟩
              case measure => simp [intOf]; omega
      · obtain rfl : k = n := by omega
        have hf := Lib.hid (GOOD.out fun i hi => hall.out i (by have := HN.out; omega))
        have hend := Lib.hid (c3_end L k)
        generalize cn L 0 k = c0 at *
        generalize cn L 1 k = c1 at *
        have hsz := hbl.size
        go_wp2
        go_ret2
        exact ⟨_, by rw [hf.out]; rfl, by rw [caL_yes hf.out, ← HN.out, ← hend.out]; exact ((rd_new3 wr _ _ _).base hsz).iv, hbl.alloc hsz _⟩

set_option maxRecDepth 100000 in
set_option maxHeartbeats 2000000 in
theorem specCheckAll_any (v : Value) (L : List (List Int)) (w : World) (hr : RdJ w v L) :
    Calls Tryd.prog 12 #[v] w fun e w' => ∃ v', e = .returned (.tuple #[v', .bool (caB L)]) ∧ OwnI w' w.heap.size w'.heap.size v' (caL L) ∧ Below w.heap.size w w' := by
  obtain ⟨i0, hi, hz0, hz1, hz2⟩ := info_parts Tryd_info_int
  have hm := hr.max
  obtain ⟨a, cap, hv, -⟩ := hr.len
  have HR := Lib.hid hr
  clear hr
  subst hv
  by_cases hlong : 20 < (L.length : Int)
  · have hf := caB_long (L := L) (by omega)
    go_enter Tryd.func12, Tryd.ntmps12
    go_wp2
    go_ret2
    exact ⟨_, by rw [hf]; rfl, by rw [caL_no hf]; exact (Own.nil _ _).iv, Below.refl _ _⟩
  · have GOOD := Lib.hid (caB_good (L := L) (by omega))
    obtain ⟨n, hn⟩ : ∃ n, n = L.length := ⟨_, rfl⟩
    rw [← hn] at HR hlong hm ⊢
    have HN := Lib.hid hn
    clear hn
    have hST : c3 L 0 = [0, 0, 0] := rfl
    go_enter Tryd.func12, Tryd.ntmps12
    go_wp2_with (refine wpList_make_full _ rfl _ _ 22 rfl w.heap.size 3 i0 (.int .i64 0) 1 Tryd.underlying22 hi hz0 hz1 .i64 .i64 _ _ 3 rfl rfl rfl rfl (by rw [hz2]; omega) (by unfold maxLen; omega) (Nat.le_refl _) ?_; intro w1 hown1 hgrow1)
    have ho0 : Own w1 w.heap.size (.slice (some ⟨w.heap.size, 0, none⟩) 3 3) (c3 L 0) := by
      have e : (madeCells (Value.int IntKind.i64 0).cells (3 * 1)).toList = (c3 L 0).map (Value.int .i64) := by
        have := toList_madeCells_one (.int .i64 0) 3
        rw [Nat.mul_one]
        simpa [Value.cells, c3, cn] using this
      unfold Own
      rw [← e]
      exact hown1
    have hb0 : Below w.heap.size w w1 := (Below.refl _ _).grown hgrow1 (Nat.le_refl _) (fun k h => by cases h)
    clear hown1 hgrow1
    go_loopw [16] (fun i wr => ∃ k : Nat, k ≤ n ∧ i = .int .i64 k ∧ Own wr w.heap.size (.slice (some ⟨w.heap.size, 0, none⟩) 3 3) (c3 L k) ∧ Below w.heap.size w wr ∧ Hid (∀ j, j < k → ckB 50 (rowAt L j) = true)) (fun i wr => n - (intOf i).toNat)
    case atStart => exact ⟨0, Nat.zero_le _, rfl, ho0, hb0, Lib.hid fun j hj => by omega⟩
    case round =>
      obtain ⟨k, hk, rfl, hown, hbl, hall⟩ := hrel
      have n0 := cn_le L 0 k
      have n1 := cn_le L 1 k
      have n2 := cn_le L 2 k
      by_cases hlt : k < n
      · obtain ⟨gz, oz, u, ea, hgz, qK, hru⟩ := (HR.out.below hbl (Nat.le_refl _)).at_ HN.out k hlt
        subst ea
        have hsz := hbl.size
        have HRU := Lib.hid hru.rd
        obtain ⟨ua, uc, rfl, -⟩ := hru.2
        clear hru
        cases hw : ckB 50 (rowAt L k) with
        | false =>
          have hf := Lib.hid (caB_bad (by rw [← HN.out]; exact hlt) hw)
          go_wp2_with (go_at_call 17; refine (ckWord_any _ (rowAt L k) 50 _ HRU.out).mono ?_; rintro e w' ⟨rfl, rfl⟩)
          go_ret2
          exact ⟨_, by rw [hf.out]; rfl, by rw [caL_no hf.out]; exact (Own.nil _ _).iv, hbl⟩
        | true =>
          have hall' : Hid (∀ j, j < k + 1 → ckB 50 (rowAt L j) = true) := Lib.hid fun j hj => by
            by_cases e : j = k
            · rw [e]; exact hw
            · exact hall.out j (by omega)
          cases hh : hldB (rowAt L k) with
          | true =>
            have hkd := kd_0 hh
            have hc := corB_held hw hh
            have hst : (c3 L k).set 0 (nth (c3 L k) 0 + 1) = c3 L (k + 1) := by
              simp [c3, nth, cn, hkd]
            have hnb : 0 ≤ nth (c3 L k) 0 ∧ nth (c3 L k) 0 ≤ 20 := by
              simp only [c3, nth]; simp; omega
            go_wp2_with fail
            refine (ckWord_any _ (rowAt L k) 50 _ HRU.out).mono ?_
            rintro e w' ⟨rfl, rfl⟩
            rw [hw]
            go_wp2_with fail
            refine (specCorrect_any _ (rowAt L k) _ HRU.out).mono ?_
            rintro e w1 ⟨v1, rfl, ho1, hb1⟩
            have hO1 := hown.later hb1
            have hb2 := hbl.trans (hb1.mono hsz)
            have hR1 := Lib.hid (HRU.out.later hb1)
            obtain ⟨cK, fK⟩ := hO1.spot rfl 0 (by decide)
            obtain ⟨p1, g1⟩ := hO1.put rfl 0 (nth (c3 L k) 0 + 1)
            rw [hst] at p1
            have hb3 := hb2.grown g1 hb2.size (fun j hj => by cases hj; exact Nat.le_refl _)
            obtain ⟨x, hx⟩ : ∃ x, x = nth (c3 L k) 0 := ⟨_, rfl⟩
            rw [← hx] at cK p1 hb3 hnb
            have HO := Lib.hid p1
            have HB3 := Lib.hid hb3
            clear p1 hb3 hx hst ho1 hO1 hb1 hb2 g1
            rw [hc]
            go_wp2_with (go_at_call 28; refine (holds_s _ (rowAt L k) _ hR1.out hw).mono ?_; rintro e w' ⟨rfl, rfl⟩)
            go_roundw
            case rel => exact ⟨k + 1, by omega, by go_num, HO.out, HB3.out, hall'⟩
            case measure => simp [intOf]; omega
          | false =>
            cases hc : corB (rowAt L k) with
            | true =>
              have hkd := kd_1 hh hc
              have hst : (c3 L k).set 1 (nth (c3 L k) 1 + 1) = c3 L (k + 1) := by
                simp [c3, nth, cn, hkd]
              have hnb : 0 ≤ nth (c3 L k) 1 ∧ nth (c3 L k) 1 ≤ 20 := by
                simp only [c3, nth]; simp; omega
              go_wp2_with fail
              refine (ckWord_any _ (rowAt L k) 50 _ HRU.out).mono ?_
              rintro e w' ⟨rfl, rfl⟩
              rw [hw]
              go_wp2_with fail
              refine (specCorrect_any _ (rowAt L k) _ HRU.out).mono ?_
              rintro e w1 ⟨v1, rfl, ho1, hb1⟩
              have hO1 := hown.later hb1
              have hb2 := hbl.trans (hb1.mono hsz)
              have hR1 := Lib.hid (HRU.out.later hb1)
              obtain ⟨cK, fK⟩ := hO1.spot rfl 1 (by decide)
              obtain ⟨p1, g1⟩ := hO1.put rfl 1 (nth (c3 L k) 1 + 1)
              rw [hst] at p1
              have hb3 := hb2.grown g1 hb2.size (fun j hj => by cases hj; exact Nat.le_refl _)
              obtain ⟨x, hx⟩ : ∃ x, x = nth (c3 L k) 1 := ⟨_, rfl⟩
              rw [← hx] at cK p1 hb3 hnb
              have HO := Lib.hid p1
              have HB3 := Lib.hid hb3
              clear p1 hb3 hx hst ho1 hO1 hb1 hb2 g1
              rw [hc]
              go_wp2_with (go_at_call 28; refine (holds_s _ (rowAt L k) _ hR1.out hw).mono ?_; rintro e w' ⟨rfl, rfl⟩)
              go_roundw
              case rel => exact ⟨k + 1, by omega, by go_num, HO.out, HB3.out, hall'⟩
              case measure => simp [intOf]; omega
            | false =>
              have hkd := kd_2 hh hc
              have hst : (c3 L k).set 2 (nth (c3 L k) 2 + 1) = c3 L (k + 1) := by
                simp [c3, nth, cn, hkd]
              have hnb : 0 ≤ nth (c3 L k) 2 ∧ nth (c3 L k) 2 ≤ 20 := by
                simp only [c3, nth]; simp; omega
              go_wp2_with fail
              refine (ckWord_any _ (rowAt L k) 50 _ HRU.out).mono ?_
              rintro e w' ⟨rfl, rfl⟩
              rw [hw]
              go_wp2_with fail
              refine (specCorrect_any _ (rowAt L k) _ HRU.out).mono ?_
              rintro e w1 ⟨v1, rfl, ho1, hb1⟩
              have hO1 := hown.later hb1
              have hb2 := hbl.trans (hb1.mono hsz)
              have hR1 := Lib.hid (HRU.out.later hb1)
              obtain ⟨cK, fK⟩ := hO1.spot rfl 2 (by decide)
              obtain ⟨p1, g1⟩ := hO1.put rfl 2 (nth (c3 L k) 2 + 1)
              rw [hst] at p1
              have hb3 := hb2.grown g1 hb2.size (fun j hj => by cases hj; exact Nat.le_refl _)
              obtain ⟨x, hx⟩ : ∃ x, x = nth (c3 L k) 2 := ⟨_, rfl⟩
              rw [← hx] at cK p1 hb3 hnb
              have HO := Lib.hid p1
              have HB3 := Lib.hid hb3
              clear p1 hb3 hx hst ho1 hO1 hb1 hb2 g1
              rw [hc]
              go_wp2_with (go_at_call 28; refine (holds_s _ (rowAt L k) _ hR1.out hw).mono ?_; rintro e w' ⟨rfl, rfl⟩)
              go_roundw
              case rel => exact ⟨k + 1, by omega, by go_num, HO.out, HB3.out, hall'⟩
              case measure => simp [intOf]; omega
      · obtain rfl : k = n := by omega
        have hf := Lib.hid (GOOD.out fun i hi => hall.out i (by have := HN.out; omega))
        go_wp2
        go_ret2
        exact ⟨_, by rw [hf.out]; rfl, by rw [caL_yes hf.out, ← HN.out]; exact hown.iv, hbl⟩
end Go.Proofs.YtnkcmadjeofedaaDoor
