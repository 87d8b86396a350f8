/- Chapter 4: the order by impl.LeastLengths$1. Written by a generator of this claim's author. -/
import Derived.Test.YtgceaffcalkbgaaSr0
import Derived.RegionTactic
import Derived.Deep.QuietTactic
namespace Go.Proofs.Ytgceaffcalkbgaa
open Go.RowKit
set_option linter.unusedSimpArgs false
set_option linter.unusedVariables false

/-- Index x comes before y. -/
def ltW (ks : List Int) (x y : Nat) : Bool := decide (nth ks y < nth ks x)
def czW (ks : List Int) (i y : Nat) : Int := cmpZ (nth ks y) (nth ks i)
theorem ltW_iff (ks : List Int) (x y : Nat) : ltW ks x y = true ↔ czW ks x y < 0 := by simp [ltW, czW, cmpZ_neg]

theorem cloW_any (dv : Value) (ks : List Int) (D i y : Nat) (w : World) (hD : w.cell? ⟨D, 0, none⟩ = some dv) (h : Rd w dv ks) (hi : i < ks.length) (hy : y < ks.length) :
    Calls Try.prog 56 #[.int .i64 i, .int .i64 y, .pointer (some ⟨D, 0, none⟩)] w fun e w' => e = .returned (.int .i64 (czW ks i y)) ∧ ∃ n, w' = w.drewN n := by
  obtain ⟨a, cap, rfl⟩ := h.len
  obtain ⟨g, o, e1, hg, p1⟩ := h.at_ rfl i hi
  subst e1
  obtain ⟨g2, o2, e2, hg2, p2⟩ := h.at_ rfl y hy
  simp only [Option.some.injEq, Addr.mk.injEq, and_true] at e2
  obtain ⟨rfl, rfl⟩ := e2
  have HU : Hid (czW ks i y = cmpZ (nth ks y) (nth ks i)) := Lib.hid rfl
  unfold nth at HU
  obtain ⟨n, hn⟩ : ∃ n, n = ks.length := ⟨_, rfl⟩
  rw [← hn] at hi hy hD
  clear h hn
  obtain ⟨xi, hxi⟩ : ∃ x, x = ks[i]?.getD 0 := ⟨_, rfl⟩
  obtain ⟨xy, hxy⟩ : ∃ x, x = ks[y]?.getD 0 := ⟨_, rfl⟩
  rw [← hxi] at p1 HU
  rw [← hxy] at p2 HU
  clear hxi hxy
  go_enter Try.func56, Try.ntmps56
  go_wp2
  go_quiet ((go_at_call 57; exact Calls.quiet_of (compare_any _ _ _)))
  go_wp2
  go_ret
  exact ⟨ret_int HU.out.symm, _, rfl⟩

set_option maxRecDepth 100000 in
set_option maxHeartbeats 2000000 in
theorem insW_any (ks : List Int) (dv : Value) (D B g n cap : Nat) (w : World) (hn : n ≤ 20) (hk : ks.length = n) (hDB : D < B) (hB : B ≤ w.heap.size)
    (hD : w.cell? ⟨D, 0, none⟩ = some dv) (hr : ∀ W, Below B w W → Rd W dv ks) (ho : Own w B (.slice (some ⟨g, 0, none⟩) n cap) (ints (seqF 0 n))) (h1 : 1 ≤ n) :
    Calls Try.prog 104 #[.slice (some ⟨g, 0, none⟩) n cap, .int .i64 0, .int .i64 n, .func (.func 56) #[] #[.pointer (some ⟨D, 0, none⟩)]] w
      fun e w' => e = .returned (.tuple #[]) ∧ Own w' B (.slice (some ⟨g, 0, none⟩) n cap) (ints (ordTo (ltW ks) n)) ∧ Below B w w' := by
  have hgB := ho.lt g rfl
  have HO : Hid (Own w B (.slice (some ⟨g, 0, none⟩) n cap) (ints (rowO (ltW ks) n 1))) := Lib.hid (by rw [rowO_one _ _ h1]; exact ho)
  have HK := Lib.hid hk
  have HR := Lib.hid hr
  clear ho hk hr
  go_enter Try.func104, Try.ntmps104
  go_wp2
  go_loopw [8] (fun i wr => ∃ k : Nat, 1 ≤ k ∧ k ≤ n ∧ i = .int .i64 k ∧ Own wr B (.slice (some ⟨g, 0, none⟩) n cap) (ints (rowO (ltW ks) n k)) ∧ Below B w wr) (fun i wr => n - (intOf i).toNat)
  case atStart => exact ⟨1, Nat.le_refl _, h1, rfl, HO.out, Below.refl _ _⟩
  case round =>
    obtain ⟨k, hk1, hkn, rfl, hown, hbl⟩ := hrel
    obtain ⟨ws, hws⟩ : ∃ ws, ws = wr := ⟨_, rfl⟩
    subst hws
    by_cases hlt : k < n
    · rw [← rowI_start hlt] at hown
      go_wp2
      go_loopw [9] (fun i wr => ∃ j : Nat, j ≤ k ∧ i = .int .i64 j ∧ Own wr B (.slice (some ⟨g, 0, none⟩) n cap) (ints (rowI (ltW ks) n k j)) ∧ Below B w wr ∧ Hid (posF (fun y => ltW ks k y) (ordTo (ltW ks) k) k = posF (fun y => ltW ks k y) (ordTo (ltW ks) k) j)) (fun i wr => (intOf i).toNat)
      case atStart => exact ⟨k, Nat.le_refl _, rfl, hown, hbl, Lib.hid rfl⟩
      case round =>
        obtain ⟨j, hj, rfl, ho2, hb2, hpos⟩ := hrel
        cases j with
        | zero =>
          have hend : Hid (Own wr B (.slice (some ⟨g, 0, none⟩) n cap) (ints (rowO (ltW ks) n (k + 1)))) := Lib.hid (by rw [← rowI_end hlt (j := 0) (by rw [hpos.out]; rfl)]; exact ho2)
          have hE : ∀ m, Hid (Own (wr.drewN m) B (.slice (some ⟨g, 0, none⟩) n cap) (ints (rowO (ltW ks) n (k + 1)))) := fun m => Lib.hid (hend.out.drewN m)
          have hB2 := fun m => below_drewN hb2 m
          obtain ⟨z, hz⟩ : ∃ z : Int, z = ((0 : Nat) : Int) := ⟨_, rfl⟩
          have hzd : decide (0 < z) = false := by rw [hz]; rfl
          rw [← hz]
          clear hz ho2
          go_wp2
          go_quiet (fail)
          go_wp2
          go_roundw
          case rel => exact ⟨k + 1, by omega, by omega, by go_num, (hE _).out, hB2 _⟩
          case measure => simp [intOf]; omega
        | succ j =>
          have hrl := rowI_len (lt := ltW ks) hlt (j := j + 1) (by omega)
          have hown' : wr.ownsRow B 3 1 (.slice (some ⟨g, 0, none⟩) n cap) n ((ints (rowI (ltW ks) n k (j + 1))).map (Value.int .i64)) := by
            unfold Own at ho2; rw [ints_len, hrl] at ho2; exact ho2
          obtain ⟨y, hy⟩ : ∃ y, y = (ordTo (ltW ks) k).getD j 0 := ⟨_, rfl⟩
          have hyk : y < k := by rw [hy]; exact ordTo_lt (by omega)
          have c1 : wr.cell? ⟨g, j + 1, none⟩ = some (.int .i64 k) := by rw [hown'.cellAt (j + 1) (by omega), List.getElem?_map, rowI_at (by omega)]; rfl
          have c0 : wr.cell? ⟨g, j, none⟩ = some (.int .i64 y) := by rw [hown'.cellAt j (by omega), List.getElem?_map, rowI_before (by omega), hy]; rfl
          have hj1 : ((j + 1 : Nat) : Int) - 1 = (j : Int) := by omega
          have hD2 : ∀ m, (wr.drewN m).cell? ⟨D, 0, none⟩ = some dv := fun m => by rw [(below_drewN hb2 m).cell (p := ⟨D, 0, none⟩) hDB]; exact hD
          have hcl : ∀ m, Calls Try.prog 56 #[.int .i64 k, .int .i64 y, .pointer (some ⟨D, 0, none⟩)] (wr.drewN m) fun e w' => e = .returned (.int .i64 (czW ks k y)) ∧ ∃ n, w' = (wr.drewN m).drewN n := fun m =>
            cloW_any dv ks D k y (wr.drewN m) (hD2 m) (HR.out _ (below_drewN hb2 m)) (by rw [HK.out]; exact hlt) (by rw [HK.out]; omega)
          have HCL := Lib.hid hcl
          obtain ⟨j1, hje⟩ : ∃ j1 : Nat, j1 = j + 1 := ⟨_, rfl⟩
          rw [← hje] at c1 hj1 hj ⊢
          have hjp : 0 < j1 := by omega
          have hjn : j < n := by omega
          have hj1n : j1 < n := by omega
          have HJ := Lib.hid hje
          obtain ⟨z, hz⟩ : ∃ z : Int, z = czW ks k y := ⟨_, rfl⟩
          rw [← hz] at HCL
          clear hown' hcl hje
          cases hl : ltW ks k y with
          | false =>
            have hzn : ¬ z < 0 := fun h => by rw [hz] at h; rw [(ltW_iff ks k y).2 h] at hl; cases hl
            have hend : Hid (Own wr B (.slice (some ⟨g, 0, none⟩) n cap) (ints (rowO (ltW ks) n (k + 1)))) := Lib.hid (by
              rw [← rowI_end hlt (j := j + 1) (by rw [hpos.out]; exact posF_no (by rw [← hy]; exact hl))]; exact ho2)
            have hE : ∀ m, Hid (Own (wr.drewN m) B (.slice (some ⟨g, 0, none⟩) n cap) (ints (rowO (ltW ks) n (k + 1)))) := fun m => Lib.hid (hend.out.drewN m)
            have hB2 := fun m => below_drewN hb2 m
            clear hz hy ho2 hpos
            go_wp2
            go_quiet ((go_at_call 56; exact Calls.quiet_of (HCL.out _)))
            go_wp2
            go_roundw
            case rel => exact ⟨k + 1, by omega, by omega, by go_num, (hE _).out, hB2 _⟩
            case measure => simp [intOf]; omega
          | true =>
            have hzn : z < 0 := by rw [hz]; exact (ltW_iff ks k y).1 hl
            have hpos' : Hid (posF (fun y => ltW ks k y) (ordTo (ltW ks) k) k = posF (fun y => ltW ks k y) (ordTo (ltW ks) k) j) := Lib.hid (by
              rw [hpos.out]; exact posF_yes (by rw [← hy]; exact hl))
            have hSW : Hid (∀ m, Own (((wr.drewN m).setCell ⟨g, j1, none⟩ (.int .i64 y)).setCell ⟨g, j, none⟩ (.int .i64 k)) B (.slice (some ⟨g, 0, none⟩) n cap) (ints (rowI (ltW ks) n k j)) ∧ Below B w (((wr.drewN m).setCell ⟨g, j1, none⟩ (.int .i64 y)).setCell ⟨g, j, none⟩ (.int .i64 k))) := Lib.hid fun m => by
              have h0 := ho2.drewN m
              unfold Own at h0
              rw [ints_len, hrl] at h0
              obtain ⟨s1, g1⟩ := h0.stored (j + 1) (.int .i64 y)
              obtain ⟨s2, g2⟩ := s1.stored j (.int .i64 k)
              rw [HJ.out]
              refine ⟨?_, ((below_drewN hb2 m).setCell (p := ⟨g, j + 1, none⟩) hgB.1 _).setCell (p := ⟨g, j, none⟩) hgB.1 _⟩
              unfold Own
              rw [ints_len, rowI_len hlt (by omega)]
              rw [← rowI_swap (by omega : j + 1 ≤ k), ← hy]
              rw [List.map_set, List.map_set]
              exact s2
            have hfz : ∀ m x, (wr.drewN m).frozen? ⟨g, x, none⟩ = false := fun m x => by
              have h0 := ho2.drewN m
              unfold Own at h0
              rw [ints_len, hrl] at h0
              exact World.ownsRow.frozenAt h0 x
            have hcc : ∀ m x, (wr.drewN m).cell? ⟨g, x, none⟩ = wr.cell? ⟨g, x, none⟩ := fun m x => (below_drewN (Below.refl wr.heap.size wr) m).cell (p := ⟨g, x, none⟩) (ho2.lt g rfl).2
            have HFZ := Lib.hid hfz
            have HCC := Lib.hid hcc
            clear hz hy hpos ho2 hrl hfz hcc
            go_wp2
            go_quiet ((go_at_call 56; exact Calls.quiet_of (HCL.out _)))
            go_wp2
            generalize hwd : wr.drewN _ = wd
            have hw1 : wd.cell? ⟨g, j1, none⟩ = some (.int .i64 k) := by rw [← hwd, HCC.out]; exact c1
            have hw0 : wd.cell? ⟨g, j, none⟩ = some (.int .i64 y) := by rw [← hwd, HCC.out]; exact c0
            have hf1 : wd.frozen? ⟨g, j1, none⟩ = false := by rw [← hwd]; exact HFZ.out _ _
            have hf0 : wd.frozen? ⟨g, j, none⟩ = false := by rw [← hwd]; exact HFZ.out _ _
            have hsw : Hid (Own ((wd.setCell ⟨g, j1, none⟩ (.int .i64 y)).setCell ⟨g, j, none⟩ (.int .i64 k)) B (.slice (some ⟨g, 0, none⟩) n cap) (ints (rowI (ltW ks) n k j)) ∧ Below B w ((wd.setCell ⟨g, j1, none⟩ (.int .i64 y)).setCell ⟨g, j, none⟩ (.int .i64 k))) := Lib.hid (by rw [← hwd]; exact hSW.out _)
            clear hwd c1 c0 hD2
            go_region
            go_wp2
            go_roundw
            case rel => exact ⟨j, by omega, by first | rfl | go_num, hsw.out.1.drewN 1, hsw.out.2.drew, hpos'⟩
            case measure => simp [intOf]; omega
    · obtain rfl : k = n := by omega
      rw [rowO_all] at hown
      go_wp2
      go_end0
      exact ⟨rfl, hown, hbl⟩

theorem insNopW_any (g n cap : Nat) (v : Value) (w : World) (hn : n ≤ 20) :
    Calls Try.prog 104 #[.slice (some ⟨g, 0, none⟩) n cap, .int .i64 n, .int .i64 n, v] w
      fun e w' => e = .returned (.tuple #[]) ∧ w = w' := by
  go_enter Try.func104, Try.ntmps104
  go_wp2
  go_loop [8] (fun i => i = .int .i64 ((n : Int) + 1)) (fun i => 0)
  case atStart => rfl
  case round =>
    obtain rfl := hrel
    go_wp2
    go_end0
    exact ⟨rfl, rfl⟩

set_option maxRecDepth 100000 in
set_option maxHeartbeats 1000000 in
theorem stableW_any (ks : List Int) (dv : Value) (D B g n cap : Nat) (w : World) (hn : n ≤ 20) (hk : ks.length = n) (hDB : D < B) (hB : B ≤ w.heap.size)
    (hD : w.cell? ⟨D, 0, none⟩ = some dv) (hr : ∀ W, Below B w W → Rd W dv ks) (ho : Own w B (.slice (some ⟨g, 0, none⟩) n cap) (ints (seqF 0 n))) (h1 : 1 ≤ n) :
    Calls Try.prog 103 #[.slice (some ⟨g, 0, none⟩) n cap, .int .i64 n, .func (.func 56) #[] #[.pointer (some ⟨D, 0, none⟩)]] w
      fun e w' => e = .returned (.tuple #[]) ∧ Own w' B (.slice (some ⟨g, 0, none⟩) n cap) (ints (ordTo (ltW ks) n)) ∧ Below B w w' := by
  have HI := Lib.hid (insW_any ks dv D B g n cap w hn hk hDB hB hD hr ho h1)
  clear hr ho hD
  by_cases h20 : n = 20
  · subst h20
    have e20 : ((20 : Nat) : Int) = 20 := rfl
    rw [e20] at HI ⊢
    clear e20
    go_enter Try.func103, Try.ntmps103
    go_wp2
    go_loopw [7, 8] (fun a b wr => ∃ c : Bool, (c = false ∧ a = .int .i64 0 ∧ b = .int .i64 20 ∧ wr = w) ∨ (c = true ∧ a = .int .i64 20 ∧ b = .int .i64 40 ∧ Own wr B (.slice (some ⟨g, 0, none⟩) 20 cap) (ints (ordTo (ltW ks) 20)) ∧ Below B w wr)) (fun a b wr => 40 - (intOf b).toNat)
    case atStart => exact ⟨false, .inl ⟨rfl, rfl, rfl, rfl⟩⟩
    case round =>
      rcases hrel with ⟨c, ⟨rfl, rfl, rfl, rfl⟩ | ⟨rfl, rfl, rfl, hown, hbl⟩⟩
      · go_wp2_with fail
        refine HI.out.mono ?_
        rintro e w1 ⟨rfl, ho1, hb1⟩
        go_wp2
        go_roundw
        case rel => exact ⟨true, .inr ⟨rfl, rfl, rfl, ho1, hb1⟩⟩
        case measure => simp [intOf]
      · go_wp2_with fail
        refine (insNopW_any g 20 cap _ _ (by decide)).mono ?_
        rintro e w1 ⟨rfl, rfl⟩
        go_wp2
        go_loopw [6] (fun i wq => i = .int .i64 20 ∧ wq = wr) (fun i wq => 0)
        case atStart => exact ⟨rfl, rfl⟩
        case round =>
          obtain ⟨rfl, rfl⟩ := hrel
          go_wp2
          go_end0
          exact ⟨rfl, hown, hbl⟩
  · have hlt : (n : Int) < 20 := by omega
    go_enter Try.func103, Try.ntmps103
    go_wp2
    go_loopw [7, 8] (fun a b wr => a = .int .i64 0 ∧ b = .int .i64 20 ∧ wr = w) (fun a b wr => 0)
    case atStart => exact ⟨rfl, rfl, rfl⟩
    case round =>
      obtain ⟨rfl, rfl, rfl⟩ := hrel
      go_wp2_with fail
      refine HI.out.mono ?_
      rintro e w1 ⟨rfl, ho1, hb1⟩
      go_wp2
      go_loopw [6] (fun i wq => i = .int .i64 20 ∧ wq = w1) (fun i wq => 0)
      case atStart => exact ⟨rfl, rfl⟩
      case round =>
        obtain ⟨rfl, rfl⟩ := hrel
        go_wp2
        go_end0
        exact ⟨rfl, ho1, hb1⟩

theorem sortStW_any (ks : List Int) (dv : Value) (D B g n cap : Nat) (w : World) (hn : n ≤ 20) (hk : ks.length = n) (hDB : D < B) (hB : B ≤ w.heap.size)
    (hD : w.cell? ⟨D, 0, none⟩ = some dv) (hr : ∀ W, Below B w W → Rd W dv ks) (ho : Own w B (.slice (some ⟨g, 0, none⟩) n cap) (ints (seqF 0 n))) (h1 : 1 ≤ n) :
    Calls Try.prog 91 #[.slice (some ⟨g, 0, none⟩) n cap, .func (.func 56) #[] #[.pointer (some ⟨D, 0, none⟩)]] w
      fun e w' => e = .returned (.tuple #[]) ∧ Own w' B (.slice (some ⟨g, 0, none⟩) n cap) (ints (ordTo (ltW ks) n)) ∧ Below B w w' := by
  have HI := Lib.hid (stableW_any ks dv D B g n cap w hn hk hDB hB hD hr ho h1)
  clear hr ho hD
  go_enter Try.func91, Try.ntmps91
  go_wp2_with fail
  refine HI.out.mono ?_
  rintro e w1 ⟨rfl, ho1, hb1⟩
  go_wp2
  go_end0
  exact ⟨rfl, ho1, hb1⟩

set_option maxRecDepth 100000 in
set_option maxHeartbeats 1000000 in
theorem orderedW_any (ks : List Int) (dv : Value) (D n : Nat) (w : World) (hn : n ≤ 20) (h1 : 1 ≤ n) (hkn : ks.length = n) (hDs : D < w.heap.size) (hD : w.cell? ⟨D, 0, none⟩ = some dv) (hr : Rd w dv ks) :
    Calls Try.prog 55 #[.int .i64 n, .func (.func 56) #[] #[.pointer (some ⟨D, 0, none⟩)]] w
      fun e w' => ∃ v, e = .returned v ∧ Own w' w.heap.size v (ints (ordTo (ltW ks) n)) ∧ Below w.heap.size w w' := by
  obtain ⟨i0, hi, hz0, hz1, hz2⟩ := info_parts Try_info_int
  have HR := Lib.hid hr
  have HD := Lib.hid hD
  clear hr hD
  go_enter Try.func55, Try.ntmps55
  go_wp2_with (refine wpList_make_full _ rfl _ _ 23 rfl w.heap.size 3 i0 (.int .i64 0) 1 Try.underlying23 hi hz0 hz1 .i64 .i64 _ _ n rfl rfl rfl rfl (by rw [hz2]; omega) (by unfold maxLen; omega) (Nat.le_refl _) ?_; intro w1 hown1 hgrow1)
  have hzz : ∀ k, k ≤ n → (ints (seqF 0 k) ++ List.replicate (n - k) (0 : Int)).length = n := fun k hk => by simp [ints, seqF]; omega
  have ho0 : Own w1 w.heap.size (.slice (some ⟨w.heap.size, 0, none⟩) n n) (ints (seqF 0 0) ++ List.replicate (n - 0) (0 : Int)) := by
    unfold Own
    rw [hzz 0 (Nat.zero_le _)]
    have e : (madeCells (Value.int IntKind.i64 0).cells (n * 1)).toList = (ints (seqF 0 0) ++ List.replicate (n - 0) (0 : Int)).map (Value.int .i64) := by
      rw [Nat.mul_one]
      have := toList_madeCells_one (.int .i64 0) n
      simpa [Value.cells, ints, seqF] using this
    rw [← e]; exact hown1
  have hb0 : Below w.heap.size w w1 := (Below.refl _ _).grown hgrow1 (Nat.le_refl _) (fun k h => by cases h)
  have HZZ := Lib.hid hzz
  clear hown1 hgrow1 hzz
  go_loopw [11] (fun i wr => ∃ k : Nat, k ≤ n ∧ i = .int .i64 k ∧ Own wr w.heap.size (.slice (some ⟨w.heap.size, 0, none⟩) n n) (ints (seqF 0 k) ++ List.replicate (n - k) (0 : Int)) ∧ Below w.heap.size w wr) (fun i wr => n - (intOf i).toNat)
  case atStart => exact ⟨0, Nat.zero_le _, rfl, ho0, hb0⟩
  case round =>
    obtain ⟨k, hk, rfl, hown, hbel⟩ := hrel
    by_cases hlt : k < n
    · have hl := HZZ.out k hk
      have hown' : wr.ownsRow w.heap.size 3 1 (.slice (some ⟨w.heap.size, 0, none⟩) n n) n ((ints (seqF 0 k) ++ List.replicate (n - k) (0 : Int)).map (Value.int .i64)) := by
        unfold Own at hown; rw [hl] at hown; exact hown
      have hst := World.ownsRow.stored (g := w.heap.size) (n := n) (cap := n) hown' k (.int .i64 k)
      have hfz : wr.frozen? ⟨w.heap.size, k, none⟩ = false := World.ownsRow.frozenAt hown' k
      obtain ⟨u, hcell⟩ : ∃ u, wr.cell? ⟨w.heap.size, k, none⟩ = some u := by
        rw [World.ownsRow.cellAt hown' k (by omega)]
        exact ⟨_, List.getElem?_eq_getElem (by simp only [List.length_map]; rw [hl]; exact hlt)⟩
      have hstep : ((ints (seqF 0 k) ++ List.replicate (n - k) (0 : Int)).map (Value.int .i64)).set k (.int .i64 k) = (ints (seqF 0 (k + 1)) ++ List.replicate (n - (k + 1)) (0 : Int)).map (Value.int .i64) := by
        have e : List.replicate (n - k) (0 : Int) = 0 :: List.replicate (n - (k + 1)) 0 := by
          rw [show n - k = (n - (k + 1)) + 1 by omega, List.replicate_succ]
        have e2 : ints (seqF 0 (k + 1)) = ints (seqF 0 k) ++ [(k : Int)] := by simp [ints, seqF, List.range_succ]
        have l1 : ((ints (seqF 0 k)).map (Value.int .i64)).length = k := by simp [ints, seqF]
        rw [e, e2, List.map_append, List.set_append_right _ _ (by omega), l1, Nat.sub_self, List.map_cons, List.set_cons_zero]
        simp
      rw [hstep] at hst
      have hl' := HZZ.out (k + 1) (by omega)
      have HST := Lib.hid hst
      have HL := Lib.hid hl'
      clear hst hl hl' hown hown' hstep
      go_wp2
      go_roundw
      case rel => exact ⟨k + 1, by omega, by go_num, by unfold Own; rw [HL.out]; exact HST.out.1, hbel.setCell (Nat.le_refl _) _⟩
      case measure => simp [intOf]; omega
    · have : k = n := by omega
      subst this
      rw [Nat.sub_self, List.replicate_zero, List.append_nil] at hown
      have HI := Lib.hid (sortStW_any ks dv D w.heap.size w.heap.size k k wr hn hkn hDs hbel.size (by rw [hbel.cell (p := ⟨D, 0, none⟩) hDs]; exact HD.out) (fun W hW => HR.out.below (hbel.trans hW) (Nat.le_refl _)) hown h1)
      go_wp2_with fail
      refine HI.out.mono ?_
      rintro e w2 ⟨rfl, ho2, hb2⟩
      go_wp2
      go_ret
      exact ⟨_, rfl, ho2, hbel.trans hb2⟩
end Go.Proofs.Ytgceaffcalkbgaa
