/- slices.Clone, slices.Grow, slices.Concat at Link. Written by a generator of this claim's author. -/
import Derived.Test.YteickcpmicifgaaReLink
import Derived.Lib.AppendZerosOnto
import Derived.Lib.AppendZeros
import Derived.Lib.SliceRun
import Derived.Lib.Walk
namespace Go.Proofs.Yteickcpmicifgaa
open Go.RowKit
set_option linter.unusedSimpArgs false
set_option linter.unusedVariables false

set_option maxRecDepth 100000 in
theorem growLink_any (n : Nat) (w : World) (hn : n ≤ 1048576) :
    Calls Try.prog 86 #[.slice none 0 0, .int .i64 n] w fun e w' => ∃ v', e = .returned v' ∧ OwnR 53 c3 3 w' w.heap.size v' ([] : List T3) ∧ Below w.heap.size w w' := by
  obtain ⟨i0, hi, hz0, hz1, hz2⟩ := info_parts Try_info_Link
  by_cases h0 : n = 0
  · subst h0
    go_enter Try.func86, Try.ntmps86
    go_wp2
    go_ret
    exact ⟨_, rfl, OwnR.nil _ _, Below.refl _ _⟩
  · have hG : n ≤ grownCap w n 0 53 := grownCap_ge w _ _ _
    have hG2 := grownCap_le_maxLen w n 0 53 (by unfold maxLen; omega)
    have hrz : ∀ ty, ∃ cur : Array Value, cur.size = grownCap w n 0 53 * 3 ∧ (Builtin.append_ #[29, 3] ty #[.slice none 0 0, .int .i64 (n : Int)]).run Try.prog w =
        .ok (.slice (some ⟨w.heap.size, 0, none⟩) n (grownCap w n 0 53)) (w.drew.alloc (.cells cur 53)) := fun ty => by
      have h := Lib.run_append_grow_zeros (P := Try.prog) w 29 3 ty 53 i0 _ .i64 .i64 Try.underlying29 Try.underlying3 hi hz0 none 0 0 [] (run_firstCells_none w.drew i0.size 0 0 0) n (by omega) (by omega) (by omega) (by omega) (by rw [hz2]; omega)
        (growslice_fits (by omega) (by rw [hz2]; omega))
      rw [Nat.zero_add] at h
      refine ⟨_, ?_, h⟩
      simp [size_zeroCells, Value.cells]
      omega
    obtain ⟨G, hGe⟩ : ∃ G, G = grownCap w n 0 53 := ⟨_, rfl⟩
    rw [← hGe] at hrz hG hG2
    obtain ⟨cur, hcur, hrz⟩ := hrz 29
    have hG3 : G ≤ 9223372036854775807 := by unfold maxLen at hG2; omega
    have hpos : 0 < n := by omega
    have hown := World.ownsRow_made (base := w.heap.size) (e := 53) (size := 3) w.drew cur G (by simp) hG2 hcur
    have hbl := (Below.refl w.heap.size w).drew.alloc (by simp) (.cells cur 53)
    have HO := Lib.hid hown
    clear hown hcur hGe hG2 h0
    go_enter Try.func86, Try.ntmps86
    go_wp2_with (at_builtin; refine Lib.wpList_append_run _ rfl _ _ _ _ rfl _ _ rfl rfl _ _ hrz ?_)
    go_ret
    exact ⟨_, rfl, HO.out, hbl⟩

def catRLink (tss : Nat → List T3) (m : Nat) : List T3 := (List.range m).flatMap tss
theorem catRLink_succ (tss : Nat → List T3) (m : Nat) : catRLink tss (m + 1) = catRLink tss m ++ tss m := by simp [catRLink, List.range_succ]
theorem catRLink_len {tss : Nat → List T3} {m j : Nat} (hj : j ≤ m) (h : ∀ i, i < m → (tss i).length ≤ 1000) : (catRLink tss j).length ≤ j * 1000 := by
  induction j with
  | zero => simp [catRLink]
  | succ j ih =>
    rw [catRLink_succ, List.length_append]
    have := h j (by omega)
    have := ih (by omega)
    omega

set_option maxRecDepth 100000 in
set_option maxHeartbeats 1600000 in
theorem concatLink_any (h m : Nat) (parts : Nat → Value) (tss : Nat → List T3) (w : World) (hm : m ≤ 8) (hh : h < w.heap.size)
    (hc : ∀ j, j < m → w.cell? ⟨h, j, none⟩ = some (parts j) ∧ RdR c3 3 w (parts j) (tss j) ∧ (tss j).length ≤ 1000) :
    Calls Try.prog 71 #[.slice (some ⟨h, 0, none⟩) m m] w fun e w' => ∃ v', e = .returned v' ∧ OwnR 53 c3 3 w' w.heap.size v' (catRLink tss m) ∧ Below w.heap.size w w' := by
  have HC := Lib.hid hc
  have HLN : Hid (∀ j, j ≤ m → (catRLink tss j).length ≤ 8000) := Lib.hid fun j hj => by
    have := catRLink_len hj (fun i hi => (hc i hi).2.2)
    omega
  clear hc
  go_enter Try.func71, Try.ntmps71
  go_wp2
  go_loopw [3, 11] (fun u i wr => ∃ j : Nat, j ≤ m ∧ i = .int .i64 j ∧ u = .int .i64 ((catRLink tss j).length : Nat) ∧ w = wr) (fun u i wr => m - (intOf i).toNat)
  case atStart => exact ⟨0, Nat.zero_le _, rfl, rfl, rfl⟩
  case round =>
    obtain ⟨j, hj, rfl, rfl, rfl⟩ := hrel
    have hlk := HLN.out j hj
    by_cases hlt : j < m
    · obtain ⟨hc0, hr0, hl0⟩ := HC.out j hlt
      obtain ⟨pa, pc, hp, -⟩ := hr0.len
      rw [hp] at hc0
      have hnext : Hid ((catRLink tss (j + 1)).length = (catRLink tss j).length + (tss j).length) := Lib.hid (by rw [catRLink_succ, List.length_append])
      clear hr0 hp
      generalize (catRLink tss j).length = A at *
      generalize (tss j).length = C at *
      have hwr : IntKind.i64.wrap ((A : Int) + (C : Int)) = (A : Int) + (C : Int) := IntWalk.i64_in _ (by omega)
      have hwn : ¬ ((A : Int) + (C : Int) < 0) := by omega
      go_wp2
      go_roundw
      case rel => exact ⟨j + 1, by omega, by go_num, by rw [hnext.out]; simp, trivial⟩
      case measure => simp [intOf]; omega
    · obtain rfl : j = m := by omega
      have hlk2 : Hid ((catRLink tss j).length ≤ 1048576) := Lib.hid (by omega)
      go_wp2_with fail
      refine (growLink_any _ _ hlk2.out).mono ?_
      rintro e w1 ⟨v1, rfl, hown1, hb1⟩
      go_wp2
      go_loopw [6, 27] (fun u i ws => ∃ i0 : Nat, i0 ≤ j ∧ i = .int .i64 i0 ∧ OwnR 53 c3 3 ws w.heap.size u (catRLink tss i0) ∧ Below w.heap.size w ws) (fun u i ws => j - (intOf i).toNat)
      case atStart => exact ⟨0, Nat.zero_le _, rfl, hown1, hb1⟩
      case round =>
        obtain ⟨i0, hi0, rfl, hrow, hbl⟩ := hrel
        have hlj := HLN.out i0 hi0
        by_cases hlt2 : i0 < j
        · obtain ⟨hc0, hr0, hl0⟩ := HC.out i0 hlt2
          have hr1 := Lib.hid (hr0.below hbl (Nat.le_refl _))
          obtain ⟨pa, pc, hp, -⟩ := hr0.len
          rw [hp] at hc0 hr1
          have hc1 := hbl.cell (p := ⟨h, i0, none⟩) hh
          rw [hc0] at hc1
          have hnext := Lib.hid (catRLink_succ tss i0)
          have hsz := hbl.size
          clear hc0 hr0 hp
          go_wp2_with (at_builtin; refine append_LinkS rfl _ _ rfl w.heap.size _ _ (catRLink tss i0) (tss i0) rfl rfl hrow hr1.out (by omega) hsz ?_; intro v2 w2 hown2 hg2 hat2)
          go_roundw
          case rel => exact ⟨i0 + 1, by omega, by go_num, by rw [hnext.out]; exact hown2, hbl.grown hg2 hsz (fun i hi => (hrow.lt i hi).1)⟩
          case measure => simp [intOf]; omega
        · obtain rfl : i0 = j := by omega
          go_wp2
          go_ret
          exact ⟨_, rfl, hrow, hbl⟩

/-- 's[k:]': the slice, under one name. -/
theorem sliceLoLink {w : World} {a : Option Addr} {n cap : Nat} {ts : List T3} (hr : RdR c3 3 w (.slice a n cap) ts) (hn : n = ts.length) (hcap : n ≤ cap) (j : Nat) (hj : j ≤ n) :
    ∃ a' c', (∀ W : World, (Instr.sliceAt 29 (.slice a n cap) (some (.int .i64 (j : Int))) none none).run Try.prog W = .ok (.slice a' (n - j) c') W) ∧ (∀ W : World, (Instr.slice 29 (.slice a n cap) (some (.int .i64 (j : Int))) none none).run Try.prog W = .ok (.slice a' (n - j) c') W) ∧ RdR c3 3 w (.slice a' (n - j) c') (ts.drop j) := by
  have hsz : (Try.prog.info? 53).map (·.size) = some 3 := by
    obtain ⟨i0, hi, -, h1, -⟩ := info_parts Try_info_Link
    rw [hi, Option.map_some, h1]
  have hel : Try.prog.elem 29 = 53 := by kernel_rfl
  have run : ∀ W : World, (Instr.slice 29 (.slice a n cap) (some (.int .i64 (j : Int))) none none).run Try.prog W = .ok (sliced a j n cap 3) W := fun W => by
    rw [run_slice_l (P := Try.prog) W 29 a n cap (by rw [hel]; exact Try.underlying29) .i64 (j : Int) (by omega) (by omega), hel]
    obtain ⟨i0, hi, -, h1, -⟩ := info_parts Try_info_Link
    simp [sizeOf, typeInfo, hi, h1, go_sem]
  have run2 : ∀ W : World, (Instr.sliceAt 29 (.slice a n cap) (some (.int .i64 (j : Int))) none none).run Try.prog W = .ok (sliced a j n cap 3) W := fun W => by
    rw [run_sliceAt_slice (P := Try.prog) W 29 _ _ _ _ (by rw [hel]; exact Try.underlying29)]
    exact run W
  refine ⟨_, _, run2, run, ?_⟩
  by_cases hcj : cap = j
  · have hnj : n = j := by omega
    have hz : ts.drop j = [] := List.drop_of_length_le (by omega)
    rw [hz, if_pos hcj, hnj, Nat.sub_self, hcj, Nat.sub_self]
    exact .inl ⟨rfl, _, _, rfl, fun _ => rfl⟩
  · rw [if_neg hcj]
    cases a with
    | none =>
      rcases hr with ⟨h, a', c', hv, hnn⟩ | ⟨g, off, c', hv, -⟩
      · simp only [Value.slice.injEq] at hv
        obtain ⟨rfl, -, rfl⟩ := hv
        have := hnn rfl
        omega
      · simp only [Value.slice.injEq] at hv; cases hv.1
    | some ad =>
      by_cases h0 : n = 0
      · have hz : ts = [] := List.eq_nil_of_length_eq_zero (by omega)
        subst hz
        have hj0 : j = 0 := by omega
        subst hj0 h0
        exact .inl ⟨rfl, _, _, rfl, fun h => by cases h⟩
      · obtain ⟨g, off, had, -, -⟩ := hr.at_ hn 0 (by omega)
        simp only [Option.some.injEq] at had
        subst had
        have := hr.drop hj hcj
        have hadd : (⟨g, off, none⟩ : Addr).add (j * 3) = ⟨g, off + j * 3, none⟩ := by unfold Addr.add; split <;> simp_all
        simp only [Option.map_some, hadd]
        exact this

/-- 's[:k]': the slice, under one name. -/
theorem sliceHiLink {w : World} {a : Option Addr} {n cap : Nat} {ts : List T3} (hr : RdR c3 3 w (.slice a n cap) ts) (hn : n = ts.length) (hcap : n ≤ cap) (j : Nat) (hj : j ≤ n) :
    ∃ a', (∀ W : World, (Instr.sliceAt 29 (.slice a n cap) none (some (.int .i64 (j : Int))) none).run Try.prog W = .ok (.slice a' j cap) W) ∧ (∀ W : World, (Instr.slice 29 (.slice a n cap) none (some (.int .i64 (j : Int))) none).run Try.prog W = .ok (.slice a' j cap) W) ∧ RdR c3 3 w (.slice a' j cap) (ts.take j) := by
  have hel : Try.prog.elem 29 = 53 := by kernel_rfl
  have run : ∀ W : World, (Instr.slice 29 (.slice a n cap) none (some (.int .i64 (j : Int))) none).run Try.prog W = .ok (sliced a 0 j cap 3) W := fun W => by
    rw [run_slice_h (P := Try.prog) W 29 a n cap (by rw [hel]; exact Try.underlying29) .i64 (j : Int) (by omega) (by omega), hel]
    obtain ⟨i0, hi, -, h1, -⟩ := info_parts Try_info_Link
    simp [sizeOf, typeInfo, hi, h1, go_sem]
  have run2 : ∀ W : World, (Instr.sliceAt 29 (.slice a n cap) none (some (.int .i64 (j : Int))) none).run Try.prog W = .ok (sliced a 0 j cap 3) W := fun W => by
    rw [run_sliceAt_slice (P := Try.prog) W 29 _ _ _ _ (by rw [hel]; exact Try.underlying29)]
    exact run W
  refine ⟨_, run2, run, ?_⟩
  have ht := hr.take j hj
  by_cases hc0 : cap = 0
  · rw [if_pos hc0]; exact ht
  · rw [if_neg hc0]
    cases a with
    | none => exact ht
    | some ad =>
      by_cases h0 : n = 0
      · have hz : ts = [] := List.eq_nil_of_length_eq_zero (by omega)
        subst hz
        have hj0 : j = 0 := by omega
        subst hj0 h0
        exact .inl ⟨rfl, _, _, rfl, fun h => by cases h⟩
      · obtain ⟨g, off, had, -, -⟩ := hr.at_ hn 0 (by omega)
        simp only [Option.some.injEq] at had
        subst had
        have hadd : (⟨g, off, none⟩ : Addr).add (0 * 3) = ⟨g, off, none⟩ := by unfold Addr.add; split <;> simp_all
        simp only [Option.map_some, hadd]
        exact ht
end Go.Proofs.Yteickcpmicifgaa
