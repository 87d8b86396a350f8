/- Chapter 2: slices.Grow, slices.Concat at phrases. -/
import Derived.Test.YtkknmjioihnpkaaBkX2
namespace Go.Proofs.Ytkknmjioihnpkaa
open Go.RowKit
set_option linter.unusedSimpArgs false
set_option linter.unusedVariables false

set_option maxRecDepth 100000 in
theorem grow_any (n : Nat) (w : World) (hn : n ≤ 1048576) :
    Calls Try.prog 99 #[.slice none 0 0, .int .i64 n] w fun e w' => ∃ v', e = .returned v' ∧ w'.ownsRow w.heap.size 33 2 v' 0 [] ∧ Below w.heap.size w w' := by
  obtain ⟨i0, hi, hz0, hz1, hz2⟩ := info_parts Try_info_phrase
  by_cases h0 : n = 0
  · subst h0
    go_enter Try.func99, Try.ntmps99
    go_wp2
    go_ret
    exact ⟨_, rfl, World.ownsRow_nil _ _ _ _, Below.refl _ _⟩
  · have hG : n ≤ grownCap w n 0 33 := grownCap_ge w _ _ _
    have hG2 := grownCap_le_maxLen w n 0 33 (by unfold maxLen; omega)
    have hrz : ∀ ty, ∃ cur : Array Value, cur.size = grownCap w n 0 33 * 2 ∧ (Builtin.append_ #[23, 3] ty #[.slice none 0 0, .int .i64 (n : Int)]).run Try.prog w =
        .ok (.slice (some ⟨w.heap.size, 0, none⟩) n (grownCap w n 0 33)) (w.drew.alloc (.cells cur 33)) := fun ty => by
      have h := Lib.run_append_grow_zeros (P := Try.prog) w 23 3 ty 33 i0 _ .i64 .i64 Try.underlying23 Try.underlying3 hi hz0 none 0 0 [] (run_firstCells_none w.drew i0.size 0 0 0) n (by omega) (by omega) (by omega) (by omega) (by rw [hz2]; omega)
        (growslice_fits (by omega) (by rw [hz2]; omega))
      rw [Nat.zero_add] at h
      refine ⟨_, ?_, h⟩
      simp [size_zeroCells, Value.cells]
      omega
    obtain ⟨G, hGe⟩ : ∃ G, G = grownCap w n 0 33 := ⟨_, rfl⟩
    rw [← hGe] at hrz hG hG2
    obtain ⟨cur, hcur, hrz⟩ := hrz 23
    have hG3 : G ≤ 9223372036854775807 := by unfold maxLen at hG2; omega
    have hpos : 0 < n := by omega
    have hown := World.ownsRow_made (base := w.heap.size) (e := 33) (size := 2) w.drew cur G (by simp) hG2 hcur
    have hbl := (Below.refl w.heap.size w).drew.alloc (by simp) (.cells cur 33)
    have HO := Lib.hid hown
    clear hown hcur hGe hG2 h0
    go_enter Try.func99, Try.ntmps99
    go_wp2_with (at_builtin; refine Lib.wpList_append_run _ rfl _ _ _ _ rfl _ _ rfl rfl _ _ hrz ?_)
    go_ret
    exact ⟨_, rfl, HO.out, hbl⟩

def catTo (pss : Nat → List Ph) (k : Nat) : List Ph := (List.range k).flatMap pss
theorem catTo_succ (pss : Nat → List Ph) (k : Nat) : catTo pss (k + 1) = catTo pss k ++ pss k := by simp [catTo, List.range_succ]
theorem catTo_len {pss : Nat → List Ph} {m k : Nat} (hk : k ≤ m) (h : ∀ j, j < m → (pss j).length ≤ 100) : (catTo pss k).length ≤ k * 100 := by
  induction k with
  | zero => simp [catTo]
  | succ k ih =>
    rw [catTo_succ, List.length_append]
    have := h k (by omega)
    have := ih (by omega)
    omega

set_option maxRecDepth 100000 in
set_option maxHeartbeats 800000 in
theorem concat_any (h m : Nat) (parts : Nat → Value) (pss : Nat → List Ph) (w : World) (hm : m ≤ 8) (hh : h < w.heap.size)
    (hc : ∀ j, j < m → w.cell? ⟨h, j, none⟩ = some (parts j) ∧ RdPs w (parts j) (pss j) ∧ (pss j).length ≤ 100) :
    Calls Try.prog 76 #[.slice (some ⟨h, 0, none⟩) m m] w fun e w' => ∃ v', e = .returned v' ∧ RowG w w' w.heap.size v' (catTo pss m) := by
  have HC := Lib.hid hc
  have HLN : Hid (∀ k, k ≤ m → (catTo pss k).length ≤ 800) := Lib.hid fun k hk => by
    have := catTo_len hk (fun j hj => (hc j hj).2.2)
    omega
  clear hc
  go_enter Try.func76, Try.ntmps76
  go_wp2
  go_loopw [3, 11] (fun u i wr => ∃ k : Nat, k ≤ m ∧ i = .int .i64 k ∧ u = .int .i64 ((catTo pss k).length : Nat) ∧ w = wr) (fun u i wr => m - (intOf i).toNat)
  case atStart => exact ⟨0, Nat.zero_le _, rfl, rfl, rfl⟩
  case round =>
    obtain ⟨k, hk, rfl, rfl, rfl⟩ := hrel
    have hlk := HLN.out k hk
    by_cases hlt : k < m
    · obtain ⟨hc0, hr0, hl0⟩ := HC.out k hlt
      obtain ⟨pa, pc, hp, -⟩ := hr0.len
      rw [hp] at hc0
      have hnext : Hid ((catTo pss (k + 1)).length = (catTo pss k).length + (pss k).length) := Lib.hid (by rw [catTo_succ, List.length_append])
      clear hr0 hp
      generalize (catTo pss k).length = A at *
      generalize (pss k).length = C at *
      have hwr : IntKind.i64.wrap ((A : Int) + (C : Int)) = (A : Int) + (C : Int) := IntWalk.i64_in _ (by omega)
      have hwn : ¬ ((A : Int) + (C : Int) < 0) := by omega
      go_wp2
      go_roundw
      case rel => exact ⟨k + 1, by omega, by go_num, by rw [hnext.out]; simp, trivial⟩
      case measure => simp [intOf]; omega
    · obtain rfl : k = m := by omega
      have hlk2 : Hid ((catTo pss k).length ≤ 1048576) := Lib.hid (by omega)
      go_wp2_with fail
      refine (grow_any _ _ hlk2.out).mono ?_
      rintro e w1 ⟨v1, rfl, hown1, hb1⟩
      have hrow0 : RowG w w1 w.heap.size v1 (catTo pss 0) := ⟨Nat.le_refl _, hb1, hb1.size, fun _ => .slice none 0 0, hown1, fun i hi => absurd hi (by simp [catTo])⟩
      go_wp2
      go_loopw [6, 27] (fun u i ws => ∃ j : Nat, j ≤ k ∧ i = .int .i64 j ∧ RowG w ws w.heap.size u (catTo pss j)) (fun u i ws => k - (intOf i).toNat)
      case atStart => exact ⟨0, Nat.zero_le _, rfl, hrow0⟩
      case round =>
        obtain ⟨j, hj, rfl, hrow⟩ := hrel
        have hlj := HLN.out j hj
        by_cases hlt2 : j < k
        · obtain ⟨hc0, hr0, hl0⟩ := HC.out j hlt2
          obtain ⟨pa, pc, hp, -⟩ := hr0.len
          rw [hp] at hc0 hr0
          have hc1 := hc0 ▸ hrow.below.cell (p := ⟨h, j, none⟩) hh
          have hnext := Lib.hid (catTo_succ pss j)
          have HR0 := Lib.hid hr0
          clear hc0 hr0
          go_wp2_with (at_builtin; refine wpList_append_row rfl _ _ rfl w.heap.size _ (catTo pss j) (pss j) _ rfl rfl hrow HR0.out (by omega) ?_; intro v2 w2 hrow2 hg2)
          go_roundw
          case rel => exact ⟨j + 1, by omega, by go_num, by rw [hnext.out]; exact hrow2⟩
          case measure => simp [intOf]; omega
        · obtain rfl : j = k := by omega
          go_wp2
          go_ret
          exact ⟨_, rfl, hrow⟩
end Go.Proofs.Ytkknmjioihnpkaa
