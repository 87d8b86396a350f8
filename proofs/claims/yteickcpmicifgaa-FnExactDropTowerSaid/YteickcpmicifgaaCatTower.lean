/- slices.Clone, slices.Grow, slices.Concat at Tower. Written by a generator of this claim's author. -/
import Derived.Test.YteickcpmicifgaaReTower
import Derived.Lib.AppendZerosOnto
import Derived.Lib.AppendZeros
import Derived.Lib.SliceRun
import Derived.Lib.Walk
namespace Go.Proofs.Yteickcpmicifgaa
open Go.RowKit
set_option linter.unusedSimpArgs false
set_option linter.unusedVariables false

set_option maxRecDepth 100000 in
theorem cloneTower_any (v : Value) (ts : List T3) (w : World) (hz : ts.length ≤ 1048576) (hr : RdR c3 3 w v ts) :
    Calls Try.prog 70 #[v] w fun e w' => ∃ v', e = .returned v' ∧ OwnR 62 c3 3 w' w.heap.size v' ts ∧ Below w.heap.size w w' := by
  have q22 : ∀ (w : World) (a : Option Addr) (n c n' c' : Nat), (binOp .eql 28 (.slice a n c) (.slice none n' c')).run Try.prog w = .ok (.bool a.isNone) w := fun w a n c n' c' => Lib.run_eql_slice_nil w _ _ a n c n' c' Try.underlying28
  obtain ⟨a, cap, hv, -⟩ := hr.len
  cases a with
  | none =>
    have h0 : ts = [] ∧ cap = 0 := by
      rcases hr with ⟨h, a', c', hv', hn⟩ | ⟨g, off, c', hv', -⟩
      · rw [hv] at hv'; simp only [Value.slice.injEq] at hv'; obtain ⟨rfl, -, rfl⟩ := hv'; exact ⟨h, hn rfl⟩
      · rw [hv] at hv'; simp only [Value.slice.injEq] at hv'; cases hv'.1
    obtain ⟨rfl, rfl⟩ := h0
    subst hv
    go_enter Try.func70, Try.ntmps70
    go_wp2
    go_ret
    exact ⟨_, rfl, OwnR.nil _ _, Below.refl _ _⟩
  | some ad =>
    have hbe := (Below.refl w.heap.size w).alloc (Nat.le_refl _) (.cells #[] 62)
    have HR := Lib.hid (hr.later hbe)
    have HE := Lib.hid (OwnR.emptyTower w w.heap.size (Nat.le_refl _))
    have HL : Hid (([] : List T3).length + ts.length ≤ 4194304) := Lib.hid (by simp; omega)
    obtain ⟨n, hn⟩ : ∃ n, ts.length = n := ⟨_, rfl⟩
    rw [hn] at hv
    clear hr hn
    subst hv
    go_enter Try.func70, Try.ntmps70
    go_wp2_with (at_builtin; refine append_TowerS rfl _ _ rfl w.heap.size _ _ [] ts rfl rfl HE.out HR.out HL.out (by simp) ?_; intro v1 w1 ho1 hg1 hat1; rw [List.nil_append] at ho1)
    go_ret
    exact ⟨_, rfl, ho1, hbe.grown hg1 (by simp) (fun i hi => (HE.out.lt i hi).1)⟩

set_option maxRecDepth 100000 in
theorem growTower_any (n : Nat) (w : World) (hn : n ≤ 1048576) :
    Calls Try.prog 87 #[.slice none 0 0, .int .i64 n] w fun e w' => ∃ v', e = .returned v' ∧ OwnR 62 c3 3 w' w.heap.size v' ([] : List T3) ∧ Below w.heap.size w w' := by
  obtain ⟨i0, hi, hz0, hz1, hz2⟩ := info_parts Try_info_Tower
  by_cases h0 : n = 0
  · subst h0
    go_enter Try.func87, Try.ntmps87
    go_wp2
    go_ret
    exact ⟨_, rfl, OwnR.nil _ _, Below.refl _ _⟩
  · have hG : n ≤ grownCap w n 0 62 := grownCap_ge w _ _ _
    have hG2 := grownCap_le_maxLen w n 0 62 (by unfold maxLen; omega)
    have hrz : ∀ ty, ∃ cur : Array Value, cur.size = grownCap w n 0 62 * 3 ∧ (Builtin.append_ #[28, 3] ty #[.slice none 0 0, .int .i64 (n : Int)]).run Try.prog w =
        .ok (.slice (some ⟨w.heap.size, 0, none⟩) n (grownCap w n 0 62)) (w.drew.alloc (.cells cur 62)) := fun ty => by
      have h := Lib.run_append_grow_zeros (P := Try.prog) w 28 3 ty 62 i0 _ .i64 .i64 Try.underlying28 Try.underlying3 hi hz0 none 0 0 [] (run_firstCells_none w.drew i0.size 0 0 0) n (by omega) (by omega) (by omega) (by omega) (by rw [hz2]; omega)
        (growslice_fits (by omega) (by rw [hz2]; omega))
      rw [Nat.zero_add] at h
      refine ⟨_, ?_, h⟩
      simp [size_zeroCells, Value.cells]
      omega
    obtain ⟨G, hGe⟩ : ∃ G, G = grownCap w n 0 62 := ⟨_, rfl⟩
    rw [← hGe] at hrz hG hG2
    obtain ⟨cur, hcur, hrz⟩ := hrz 28
    have hG3 : G ≤ 9223372036854775807 := by unfold maxLen at hG2; omega
    have hpos : 0 < n := by omega
    have hown := World.ownsRow_made (base := w.heap.size) (e := 62) (size := 3) w.drew cur G (by simp) hG2 hcur
    have hbl := (Below.refl w.heap.size w).drew.alloc (by simp) (.cells cur 62)
    have HO := Lib.hid hown
    clear hown hcur hGe hG2 h0
    go_enter Try.func87, Try.ntmps87
    go_wp2_with (at_builtin; refine Lib.wpList_append_run _ rfl _ _ _ _ rfl _ _ rfl rfl _ _ hrz ?_)
    go_ret
    exact ⟨_, rfl, HO.out, hbl⟩

def catRTower (tss : Nat → List T3) (m : Nat) : List T3 := (List.range m).flatMap tss
theorem catRTower_succ (tss : Nat → List T3) (m : Nat) : catRTower tss (m + 1) = catRTower tss m ++ tss m := by simp [catRTower, List.range_succ]
theorem catRTower_len {tss : Nat → List T3} {m j : Nat} (hj : j ≤ m) (h : ∀ i, i < m → (tss i).length ≤ 1000) : (catRTower tss j).length ≤ j * 1000 := by
  induction j with
  | zero => simp [catRTower]
  | succ j ih =>
    rw [catRTower_succ, List.length_append]
    have := h j (by omega)
    have := ih (by omega)
    omega

set_option maxRecDepth 100000 in
set_option maxHeartbeats 1600000 in
theorem concatTower_any (h m : Nat) (parts : Nat → Value) (tss : Nat → List T3) (w : World) (hm : m ≤ 8) (hh : h < w.heap.size)
    (hc : ∀ j, j < m → w.cell? ⟨h, j, none⟩ = some (parts j) ∧ RdR c3 3 w (parts j) (tss j) ∧ (tss j).length ≤ 1000) :
    Calls Try.prog 74 #[.slice (some ⟨h, 0, none⟩) m m] w fun e w' => ∃ v', e = .returned v' ∧ OwnR 62 c3 3 w' w.heap.size v' (catRTower tss m) ∧ Below w.heap.size w w' := by
  have HC := Lib.hid hc
  have HLN : Hid (∀ j, j ≤ m → (catRTower tss j).length ≤ 8000) := Lib.hid fun j hj => by
    have := catRTower_len hj (fun i hi => (hc i hi).2.2)
    omega
  clear hc
  go_enter Try.func74, Try.ntmps74
  go_wp2
  go_loopw [3, 11] (fun u i wr => ∃ j : Nat, j ≤ m ∧ i = .int .i64 j ∧ u = .int .i64 ((catRTower tss j).length : Nat) ∧ w = wr) (fun u i wr => m - (intOf i).toNat)
  case atStart => exact ⟨0, Nat.zero_le _, rfl, rfl, rfl⟩
  case round =>
    obtain ⟨j, hj, rfl, rfl, rfl⟩ := hrel
    have hlk := HLN.out j hj
    by_cases hlt : j < m
    · obtain ⟨hc0, hr0, hl0⟩ := HC.out j hlt
      obtain ⟨pa, pc, hp, -⟩ := hr0.len
      rw [hp] at hc0
      have hnext : Hid ((catRTower tss (j + 1)).length = (catRTower tss j).length + (tss j).length) := Lib.hid (by rw [catRTower_succ, List.length_append])
      clear hr0 hp
      generalize (catRTower tss j).length = A at *
      generalize (tss j).length = C at *
      have hwr : IntKind.i64.wrap ((A : Int) + (C : Int)) = (A : Int) + (C : Int) := IntWalk.i64_in _ (by omega)
      have hwn : ¬ ((A : Int) + (C : Int) < 0) := by omega
      go_wp2
      go_roundw
      case rel => exact ⟨j + 1, by omega, by go_num, by rw [hnext.out]; simp, trivial⟩
      case measure => simp [intOf]; omega
    · obtain rfl : j = m := by omega
      have hlk2 : Hid ((catRTower tss j).length ≤ 1048576) := Lib.hid (by omega)
      go_wp2_with fail
      refine (growTower_any _ _ hlk2.out).mono ?_
      rintro e w1 ⟨v1, rfl, hown1, hb1⟩
      go_wp2
      go_loopw [6, 27] (fun u i ws => ∃ i0 : Nat, i0 ≤ j ∧ i = .int .i64 i0 ∧ OwnR 62 c3 3 ws w.heap.size u (catRTower tss i0) ∧ Below w.heap.size w ws) (fun u i ws => j - (intOf i).toNat)
      case atStart => exact ⟨0, Nat.zero_le _, rfl, hown1, hb1⟩
      case round =>
        obtain ⟨i0, hi0, rfl, hrow, hbl⟩ := hrel
        have hlj := HLN.out i0 hi0
        by_cases hlt2 : i0 < j
        · obtain ⟨hc0, hr0, hl0⟩ := HC.out i0 hlt2
          have hr1 := Lib.hid (hr0.below hbl (Nat.le_refl _))
          obtain ⟨pa, pc, hp, -⟩ := hr0.len
          rw [hp] at hc0 hr1
          have hc1 := hbl.cell (p := ⟨h, i0, none⟩) hh
          rw [hc0] at hc1
          have hnext := Lib.hid (catRTower_succ tss i0)
          have hsz := hbl.size
          clear hc0 hr0 hp
          go_wp2_with (at_builtin; refine append_TowerS rfl _ _ rfl w.heap.size _ _ (catRTower tss i0) (tss i0) rfl rfl hrow hr1.out (by omega) hsz ?_; intro v2 w2 hown2 hg2 hat2)
          go_roundw
          case rel => exact ⟨i0 + 1, by omega, by go_num, by rw [hnext.out]; exact hown2, hbl.grown hg2 hsz (fun i hi => (hrow.lt i hi).1)⟩
          case measure => simp [intOf]; omega
        · obtain rfl : i0 = j := by omega
          go_wp2
          go_ret
          exact ⟨_, rfl, hrow, hbl⟩

/-- 's[k:]': the slice, under one name. -/
theorem sliceLoTower {w : World} {a : Option Addr} {n cap : Nat} {ts : List T3} (hr : RdR c3 3 w (.slice a n cap) ts) (hn : n = ts.length) (hcap : n ≤ cap) (j : Nat) (hj : j ≤ n) :
    ∃ a' c', (∀ W : World, (Instr.sliceAt 28 (.slice a n cap) (some (.int .i64 (j : Int))) none none).run Try.prog W = .ok (.slice a' (n - j) c') W) ∧ (∀ W : World, (Instr.slice 28 (.slice a n cap) (some (.int .i64 (j : Int))) none none).run Try.prog W = .ok (.slice a' (n - j) c') W) ∧ RdR c3 3 w (.slice a' (n - j) c') (ts.drop j) := by
  have hsz : (Try.prog.info? 62).map (·.size) = some 3 := by
    obtain ⟨i0, hi, -, h1, -⟩ := info_parts Try_info_Tower
    rw [hi, Option.map_some, h1]
  have hel : Try.prog.elem 28 = 62 := by kernel_rfl
  have run : ∀ W : World, (Instr.slice 28 (.slice a n cap) (some (.int .i64 (j : Int))) none none).run Try.prog W = .ok (sliced a j n cap 3) W := fun W => by
    rw [run_slice_l (P := Try.prog) W 28 a n cap (by rw [hel]; exact Try.underlying28) .i64 (j : Int) (by omega) (by omega), hel]
    obtain ⟨i0, hi, -, h1, -⟩ := info_parts Try_info_Tower
    simp [sizeOf, typeInfo, hi, h1, go_sem]
  have run2 : ∀ W : World, (Instr.sliceAt 28 (.slice a n cap) (some (.int .i64 (j : Int))) none none).run Try.prog W = .ok (sliced a j n cap 3) W := fun W => by
    rw [run_sliceAt_slice (P := Try.prog) W 28 _ _ _ _ (by rw [hel]; exact Try.underlying28)]
    exact run W
  refine ⟨_, _, run2, run, ?_⟩
  by_cases hcj : cap = j
  · have hnj : n = j := by omega
    have hz : ts.drop j = [] := List.drop_of_length_le (by omega)
    rw [hz, if_pos hcj, hnj, Nat.sub_self, hcj, Nat.sub_self]
    exact .inl ⟨rfl, _, _, rfl, fun _ => rfl⟩
  · rw [if_neg hcj]
    cases a with
    | none =>
      rcases hr with ⟨h, a', c', hv, hnn⟩ | ⟨g, off, c', hv, -⟩
      · simp only [Value.slice.injEq] at hv
        obtain ⟨rfl, -, rfl⟩ := hv
        have := hnn rfl
        omega
      · simp only [Value.slice.injEq] at hv; cases hv.1
    | some ad =>
      by_cases h0 : n = 0
      · have hz : ts = [] := List.eq_nil_of_length_eq_zero (by omega)
        subst hz
        have hj0 : j = 0 := by omega
        subst hj0 h0
        exact .inl ⟨rfl, _, _, rfl, fun h => by cases h⟩
      · obtain ⟨g, off, had, -, -⟩ := hr.at_ hn 0 (by omega)
        simp only [Option.some.injEq] at had
        subst had
        have := hr.drop hj hcj
        have hadd : (⟨g, off, none⟩ : Addr).add (j * 3) = ⟨g, off + j * 3, none⟩ := by unfold Addr.add; split <;> simp_all
        simp only [Option.map_some, hadd]
        exact this

/-- 's[:k]': the slice, under one name. -/
theorem sliceHiTower {w : World} {a : Option Addr} {n cap : Nat} {ts : List T3} (hr : RdR c3 3 w (.slice a n cap) ts) (hn : n = ts.length) (hcap : n ≤ cap) (j : Nat) (hj : j ≤ n) :
    ∃ a', (∀ W : World, (Instr.sliceAt 28 (.slice a n cap) none (some (.int .i64 (j : Int))) none).run Try.prog W = .ok (.slice a' j cap) W) ∧ (∀ W : World, (Instr.slice 28 (.slice a n cap) none (some (.int .i64 (j : Int))) none).run Try.prog W = .ok (.slice a' j cap) W) ∧ RdR c3 3 w (.slice a' j cap) (ts.take j) := by
  have hel : Try.prog.elem 28 = 62 := by kernel_rfl
  have run : ∀ W : World, (Instr.slice 28 (.slice a n cap) none (some (.int .i64 (j : Int))) none).run Try.prog W = .ok (sliced a 0 j cap 3) W := fun W => by
    rw [run_slice_h (P := Try.prog) W 28 a n cap (by rw [hel]; exact Try.underlying28) .i64 (j : Int) (by omega) (by omega), hel]
    obtain ⟨i0, hi, -, h1, -⟩ := info_parts Try_info_Tower
    simp [sizeOf, typeInfo, hi, h1, go_sem]
  have run2 : ∀ W : World, (Instr.sliceAt 28 (.slice a n cap) none (some (.int .i64 (j : Int))) none).run Try.prog W = .ok (sliced a 0 j cap 3) W := fun W => by
    rw [run_sliceAt_slice (P := Try.prog) W 28 _ _ _ _ (by rw [hel]; exact Try.underlying28)]
    exact run W
  refine ⟨_, run2, run, ?_⟩
  have ht := hr.take j hj
  by_cases hc0 : cap = 0
  · rw [if_pos hc0]; exact ht
  · rw [if_neg hc0]
    cases a with
    | none => exact ht
    | some ad =>
      by_cases h0 : n = 0
      · have hz : ts = [] := List.eq_nil_of_length_eq_zero (by omega)
        subst hz
        have hj0 : j = 0 := by omega
        subst hj0 h0
        exact .inl ⟨rfl, _, _, rfl, fun h => by cases h⟩
      · obtain ⟨g, off, had, -, -⟩ := hr.at_ hn 0 (by omega)
        simp only [Option.some.injEq] at had
        subst had
        have hadd : (⟨g, off, none⟩ : Addr).add (0 * 3) = ⟨g, off, none⟩ := by unfold Addr.add; split <;> simp_all
        simp only [Option.map_some, hadd]
        exact ht
end Go.Proofs.Yteickcpmicifgaa
