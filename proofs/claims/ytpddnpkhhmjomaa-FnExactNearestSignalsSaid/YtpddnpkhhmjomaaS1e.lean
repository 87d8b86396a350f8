/- Chapter 1: the nearest signals. -/
import Derived.Test.YtpddnpkhhmjomaaS1b
namespace Go.Proofs.Ytpddnpkhhmjomaa
open Go.RowKit
set_option linter.unusedVariables false
set_option linter.unusedSimpArgs false

def minI (a b : Int) : Int := if a < b then a else b
theorem minI_bd (a b : Int) (h : 0 ≤ a) (h' : 0 ≤ b) (h6 : a ≤ 6) : 0 ≤ minI a b ∧ minI a b ≤ 6 := by unfold minI; split <;> omega
theorem minI_flip (a b : Int) : minI a b = if b < a then b else a := by unfold minI; split <;> split <;> omega
def leastTo (n : Int) (zs : List Int) : Nat → Int
  | 0 => 6
  | k + 1 => minI (leastTo n zs k) (dist n (zs[k]?.getD 0))
theorem leastTo_bd (n : Int) (zs : List Int) (k : Nat) : 0 ≤ leastTo n zs k ∧ leastTo n zs k ≤ 6 := by
  induction k with
  | zero => simp [leastTo]
  | succ k ih => have := dist_bd n (zs[k]?.getD 0); exact minI_bd _ _ ih.1 this.1 ih.2
def nearTo (n : Int) (zs : List Int) (m : Int) (k : Nat) : List Int := ((List.range k).filter fun i : Nat => dist n (zs[i]?.getD 0) == m).map fun i : Nat => (i : Int)
theorem nearTo_yes (n : Int) (zs : List Int) (m : Int) (k : Nat) (h : dist n (zs[k]?.getD 0) = m) : nearTo n zs m (k + 1) = nearTo n zs m k ++ [(k : Int)] := by
  simp [nearTo, List.range_succ, h]
theorem nearTo_no (n : Int) (zs : List Int) (m : Int) (k : Nat) (h : ¬ dist n (zs[k]?.getD 0) = m) : nearTo n zs m (k + 1) = nearTo n zs m k := by
  simp [nearTo, List.range_succ, h]
theorem nearTo_len (n : Int) (zs : List Int) (m : Int) (k : Nat) : (nearTo n zs m k).length ≤ k := by
  unfold nearTo; rw [List.length_map]; exact Nat.le_trans (List.length_filter_le _ _) (by simp)
def near (n : Int) (zs : List Int) : List Int := nearTo n zs (leastTo n zs zs.length) zs.length

theorem l1Least_any (a b : Int) (w : World) : Calls Try.prog 53 #[.int .i64 a, .int .i64 b] w fun e w' => e = .returned (.int .i64 (minI a b)) ∧ w = w' := by
  by_cases h : a < b
  · go_enter Try.func53, Try.ntmps53
    go_wp2
    go_ret
    exact ⟨ret_int (by unfold minI; split <;> omega), rfl⟩
  · go_enter Try.func53, Try.ntmps53
    go_wp2
    go_ret
    exact ⟨ret_int (by unfold minI; split <;> omega), rfl⟩

set_option maxHeartbeats 800000 in
theorem specNear_yes (n : Int) (v : Value) (zs : List Int) (w : World) (hr : Rd w v zs) (hn : isSig n = true) (hl : lsB zs = true) (h0 : zs ≠ []) :
    Calls Try.prog 35 #[.int .i64 n, v] w fun e w' => ∃ v', e = .returned (.tuple #[v', .bool true]) ∧ Own w' w.heap.size v' (near n zs) ∧ Below w.heap.size w w' := by
  have a0 := (isSig_iff.1 hn).1
  have a1 := (isSig_iff.1 hn).2
  have hlen := lsB_len hl
  rcases hr with ⟨h, -⟩ | ⟨g, off, cap, hv, hg, hm', hc⟩
  · exact absurd h h0
  have HR : Hid (Rd w v zs) := Lib.hid (.inr ⟨g, off, cap, hv, hg, hm', hc⟩)
  obtain ⟨c, hcn⟩ : ∃ c, c = zs.length := ⟨_, rfl⟩
  have hpos : 0 < c := by rw [hcn]; exact List.length_pos_iff.2 h0
  have hz0 : ((c : Int) == 0) = false := by simp; omega
  rw [← hcn] at hlen hv hm' hc
  subst hv
  have HN := Lib.hid hcn
  have HL := Lib.hid hl
  have HC := Lib.hid hc
  clear hcn hc hm' h0
  go_enter Try.func35, Try.ntmps35
  go_wp2_with (first
    | (go_at_call 38; refine (sgGood_any _ _).mono ?_; rintro e w' ⟨rfl, rfl⟩)
    | (go_at_call 49; refine (sgList_any _ zs _ HR.out).mono ?_; rintro e w' ⟨rfl, rfl⟩))
  go_loopw [6, 27] (fun m i wr => ∃ k : Nat, k ≤ c ∧ i = .int .i64 k ∧ m = .int .i64 (leastTo n zs k) ∧ Below w.heap.size w wr) (fun _ i _ => c - (intOf i).toNat)
  case atStart => exact ⟨0, Nat.zero_le _, rfl, rfl, Below.refl _ _⟩
  case round =>
    obtain ⟨k, hk, rfl, rfl, hb⟩ := hrel
    have hmb := leastTo_bd n zs k
    by_cases hlt : k < c
    · have q : wr.cell? ⟨g, off + k, none⟩ = some (.int .i64 (zs[k]?.getD 0)) := by rw [hb.cell (p := ⟨g, off + k, none⟩) hg]; exact HC.out k hlt
      have hx := lsB_get HL.out k (by rw [← HN.out]; exact hlt)
      have hd := dist_bd n (zs[k]?.getD 0)
      have hnext : Hid (leastTo n zs (k + 1) = minI (leastTo n zs k) (dist n (zs[k]?.getD 0))) := Lib.hid rfl
      obtain ⟨x, hxe⟩ : ∃ x, x = zs[k]?.getD 0 := ⟨_, rfl⟩
      rw [← hxe] at q hx hd hnext
      obtain ⟨m, hme⟩ : ∃ m, m = leastTo n zs k := ⟨_, rfl⟩
      rw [← hme] at hmb hnext ⊢
      clear hxe hme
      go_wp2_with (first | (go_at_call 46; refine (sgDistance_any _ _ _ a0 a1 hx.1 hx.2).mono ?_; rintro e w' ⟨rfl, hb'⟩) | (go_at_call 53; refine (l1Least_any _ _ _).mono ?_; rintro e w' ⟨rfl, rfl⟩))
      go_roundw
      case rel => exact ⟨k + 1, by omega, by go_num, by rw [hnext.out], hb.trans (hb'.mono hb.size)⟩
      case measure => simp [intOf]; omega
    · obtain rfl : k = c := by omega
      have HM : Hid (leastTo n zs k = leastTo n zs zs.length) := Lib.hid (by rw [← HN.out])
      obtain ⟨m, hme⟩ : ∃ m, m = leastTo n zs k := ⟨_, rfl⟩
      rw [← hme] at hmb HM ⊢
      clear hme
      go_wp2
      go_loopw [9, 39] (fun u i wr => ∃ j : Nat, j ≤ k ∧ i = .int .i64 j ∧ Own wr w.heap.size u (nearTo n zs m j) ∧ Below w.heap.size w wr) (fun _ i _ => k - (intOf i).toNat)
      case atStart => exact ⟨0, Nat.zero_le _, rfl, Own.nil _ _, hb⟩
      case round =>
        obtain ⟨j, hj, rfl, hown, hb⟩ := hrel
        have hln := nearTo_len n zs m j
        by_cases hlt : j < k
        · have q : wr.cell? ⟨g, off + j, none⟩ = some (.int .i64 (zs[j]?.getD 0)) := by rw [hb.cell (p := ⟨g, off + j, none⟩) hg]; exact HC.out j hlt
          have hx := lsB_get HL.out j (by rw [← HN.out]; exact hlt)
          by_cases hd : dist n (zs[j]?.getD 0) = m
          · have hnext := Lib.hid (nearTo_yes n zs m j hd)
            have hdt : (dist n (zs[j]?.getD 0) == m) = true := by simp [hd]
            clear hd
            obtain ⟨x, hxe⟩ : ∃ x, x = zs[j]?.getD 0 := ⟨_, rfl⟩
            rw [← hxe] at q hx hdt
            clear hxe
            go_wp2_with (first | (go_at_call 46; refine (sgDistance_any _ _ _ a0 a1 hx.1 hx.2).mono ?_; rintro e w1 ⟨rfl, hb'⟩; have hown1 := hown.later hb'; have hbb := hb.trans (hb'.mono hb.size); have hsz := hbb.size) | (at_builtin; refine append_int rfl _ _ rfl w.heap.size _ (nearTo n zs m j) (j : Int) _ rfl rfl (hown1.alloc _) (new_cell _ _ _) (by omega) (by simp; omega) ?_; intro v' w2 hown2 hgrow2))
            go_roundw
            case rel => exact ⟨j + 1, by omega, by go_num, by rw [hnext.out]; exact hown2, (hbb.alloc hsz _).grown hgrow2 (by simp; omega) (fun i hi => (hown1.lt i hi).1)⟩
            case measure => simp [intOf]; omega
          · have hnext := Lib.hid (nearTo_no n zs m j hd)
            have hdt : (dist n (zs[j]?.getD 0) == m) = false := by simp [hd]
            clear hd
            obtain ⟨x, hxe⟩ : ∃ x, x = zs[j]?.getD 0 := ⟨_, rfl⟩
            rw [← hxe] at q hx hdt
            clear hxe
            go_wp2_with (first | (go_at_call 46; refine (sgDistance_any _ _ _ a0 a1 hx.1 hx.2).mono ?_; rintro e w1 ⟨rfl, hb'⟩; have hown1 := hown.later hb'; have hbb := hb.trans (hb'.mono hb.size); have hsz := hbb.size))
            go_roundw
            case rel => exact ⟨j + 1, by omega, by go_num, by rw [hnext.out]; exact hown1, hbb⟩
            case measure => simp [intOf]; omega
        · obtain rfl : j = k := by omega
          go_wp2
          go_ret2
          exact ⟨_, rfl, by unfold near; rw [← HM.out, ← HN.out]; exact hown, hb⟩

set_option maxHeartbeats 800000 in
theorem implNear_yes (n : Int) (v : Value) (zs : List Int) (w : World) (hr : Rd w v zs) (hn : isSig n = true) (hl : lsB zs = true) (h0 : zs ≠ []) :
    Calls Try.prog 36 #[.int .i64 n, v] w fun e w' => ∃ v', e = .returned (.tuple #[v', .bool true]) ∧ Own w' w.heap.size v' (near n zs) ∧ Below w.heap.size w w' := by
  have a0 := (isSig_iff.1 hn).1
  have a1 := (isSig_iff.1 hn).2
  have hlen := lsB_len hl
  rcases hr with ⟨h, -⟩ | ⟨g, off, cap, hv, hg, hm', hc⟩
  · exact absurd h h0
  have HR : Hid (Rd w v zs) := Lib.hid (.inr ⟨g, off, cap, hv, hg, hm', hc⟩)
  obtain ⟨c, hcn⟩ : ∃ c, c = zs.length := ⟨_, rfl⟩
  have hpos : 0 < c := by rw [hcn]; exact List.length_pos_iff.2 h0
  have hz0 : ((c : Int) == 0) = false := by simp; omega
  rw [← hcn] at hlen hv hm' hc
  subst hv
  have HN := Lib.hid hcn
  have HL := Lib.hid hl
  have HC := Lib.hid hc
  clear hcn hc hm' h0
  go_enter Try.func36, Try.ntmps36
  go_wp2_with (first
    | (go_at_call 40; refine (isSignal_any _ _).mono ?_; rintro e w' ⟨rfl, rfl⟩)
    | (go_at_call 51; refine (areSignals_any _ zs _ HR.out).mono ?_; rintro e w' ⟨rfl, rfl⟩))
  go_loopw [6, 27] (fun m i wr => ∃ k : Nat, k ≤ c ∧ i = .int .i64 k ∧ m = .int .i64 (leastTo n zs k) ∧ Below w.heap.size w wr) (fun _ i _ => c - (intOf i).toNat)
  case atStart => exact ⟨0, Nat.zero_le _, rfl, rfl, Below.refl _ _⟩
  case round =>
    obtain ⟨k, hk, rfl, rfl, hb⟩ := hrel
    have hmb := leastTo_bd n zs k
    by_cases hlt : k < c
    · have q : wr.cell? ⟨g, off + k, none⟩ = some (.int .i64 (zs[k]?.getD 0)) := by rw [hb.cell (p := ⟨g, off + k, none⟩) hg]; exact HC.out k hlt
      have hx := lsB_get HL.out k (by rw [← HN.out]; exact hlt)
      have hd := dist_bd n (zs[k]?.getD 0)
      have hnext : Hid (leastTo n zs (k + 1) = minI (leastTo n zs k) (dist n (zs[k]?.getD 0))) := Lib.hid rfl
      obtain ⟨x, hxe⟩ : ∃ x, x = zs[k]?.getD 0 := ⟨_, rfl⟩
      rw [← hxe] at q hx hd hnext
      obtain ⟨m, hme⟩ : ∃ m, m = leastTo n zs k := ⟨_, rfl⟩
      rw [← hme] at hmb hnext ⊢
      clear hxe hme
      go_wp2_with (first | (go_at_call 47; refine (countChanged_any _ _ _ a0 a1 hx.1 hx.2).mono ?_; rintro e w' ⟨rfl, rfl⟩))
      go_roundw
      case rel => exact ⟨k + 1, by omega, by go_num, by rw [hnext.out, minI_flip], hb⟩
      case measure => simp [intOf]; omega
    · obtain rfl : k = c := by omega
      have HM : Hid (leastTo n zs k = leastTo n zs zs.length) := Lib.hid (by rw [← HN.out])
      obtain ⟨m, hme⟩ : ∃ m, m = leastTo n zs k := ⟨_, rfl⟩
      rw [← hme] at hmb HM ⊢
      clear hme
      go_wp2
      go_loopw [9, 39] (fun u i wr => ∃ j : Nat, j ≤ k ∧ i = .int .i64 j ∧ Own wr w.heap.size u (nearTo n zs m j) ∧ Below w.heap.size w wr) (fun _ i _ => k - (intOf i).toNat)
      case atStart => exact ⟨0, Nat.zero_le _, rfl, Own.nil _ _, hb⟩
      case round =>
        obtain ⟨j, hj, rfl, hown, hb⟩ := hrel
        have hln := nearTo_len n zs m j
        by_cases hlt : j < k
        · have q : wr.cell? ⟨g, off + j, none⟩ = some (.int .i64 (zs[j]?.getD 0)) := by rw [hb.cell (p := ⟨g, off + j, none⟩) hg]; exact HC.out j hlt
          have hx := lsB_get HL.out j (by rw [← HN.out]; exact hlt)
          by_cases hd : dist n (zs[j]?.getD 0) = m
          · have hnext := Lib.hid (nearTo_yes n zs m j hd)
            have hdt : (dist n (zs[j]?.getD 0) == m) = true := by simp [hd]
            clear hd
            obtain ⟨x, hxe⟩ : ∃ x, x = zs[j]?.getD 0 := ⟨_, rfl⟩
            rw [← hxe] at q hx hdt
            clear hxe
            go_wp2_with (first | (go_at_call 47; refine (countChanged_any _ _ _ a0 a1 hx.1 hx.2).mono ?_; rintro e w1 ⟨rfl, rfl⟩; have hown1 := hown; have hbb := hb; have hsz := hbb.size) | (at_builtin; refine append_int rfl _ _ rfl w.heap.size _ (nearTo n zs m j) (j : Int) _ rfl rfl (hown1.alloc _) (new_cell _ _ _) (by omega) (by simp; omega) ?_; intro v' w2 hown2 hgrow2))
            go_roundw
            case rel => exact ⟨j + 1, by omega, by go_num, by rw [hnext.out]; exact hown2, (hbb.alloc hsz _).grown hgrow2 (by simp; omega) (fun i hi => (hown1.lt i hi).1)⟩
            case measure => simp [intOf]; omega
          · have hnext := Lib.hid (nearTo_no n zs m j hd)
            have hdt : (dist n (zs[j]?.getD 0) == m) = false := by simp [hd]
            clear hd
            obtain ⟨x, hxe⟩ : ∃ x, x = zs[j]?.getD 0 := ⟨_, rfl⟩
            rw [← hxe] at q hx hdt
            clear hxe
            go_wp2_with (first | (go_at_call 47; refine (countChanged_any _ _ _ a0 a1 hx.1 hx.2).mono ?_; rintro e w1 ⟨rfl, rfl⟩; have hown1 := hown; have hbb := hb; have hsz := hbb.size))
            go_roundw
            case rel => exact ⟨j + 1, by omega, by go_num, by rw [hnext.out]; exact hown1, hbb⟩
            case measure => simp [intOf]; omega
        · obtain rfl : j = k := by omega
          go_wp2
          go_ret2
          exact ⟨_, rfl, by unfold near; rw [← HM.out, ← HN.out]; exact hown, hb⟩

theorem specNear_no (n : Int) (v : Value) (zs : List Int) (w : World) (hr : Rd w v zs) (h : isSig n = false ∨ lsB zs = false ∨ zs = []) :
    Calls Try.prog 35 #[.int .i64 n, v] w fun e w' => e = .returned (.tuple #[.slice none 0 0, .bool false]) ∧ w = w' := by
  obtain ⟨a, cap, hv⟩ := hr.len
  have HR := Lib.hid hr
  clear hr
  by_cases h1 : isSig n = false
  · clear h
    go_enter Try.func35, Try.ntmps35
    go_wp2_with (first
      | (go_at_call 38; refine (sgGood_any _ _).mono ?_; rintro e w' ⟨rfl, rfl⟩)
      | (go_at_call 49; refine (sgList_any _ zs _ HR.out).mono ?_; rintro e w' ⟨rfl, rfl⟩))
    go_ret2
    exact ⟨rfl, rfl⟩
  have h1 : isSig n = true := by simpa using h1
  by_cases h2 : lsB zs = false
  · clear h
    subst hv
    go_enter Try.func35, Try.ntmps35
    go_wp2_with (first
      | (go_at_call 38; refine (sgGood_any _ _).mono ?_; rintro e w' ⟨rfl, rfl⟩)
      | (go_at_call 49; refine (sgList_any _ zs _ HR.out).mono ?_; rintro e w' ⟨rfl, rfl⟩))
    go_ret2
    exact ⟨rfl, rfl⟩
  have h2 : lsB zs = true := by simpa using h2
  have h3 : zs = [] := by rcases h with h | h | h; (rw [h1] at h; cases h); (rw [h2] at h; cases h); exact h
  · subst h3
    subst hv
    clear h
    go_enter Try.func35, Try.ntmps35
    go_wp2_with (first
      | (go_at_call 38; refine (sgGood_any _ _).mono ?_; rintro e w' ⟨rfl, rfl⟩)
      | (go_at_call 49; refine (sgList_any _ [] _ HR.out).mono ?_; rintro e w' ⟨rfl, rfl⟩))
    go_ret2
    exact ⟨rfl, rfl⟩

theorem implNear_no (n : Int) (v : Value) (zs : List Int) (w : World) (hr : Rd w v zs) (h : isSig n = false ∨ lsB zs = false ∨ zs = []) :
    Calls Try.prog 36 #[.int .i64 n, v] w fun e w' => e = .returned (.tuple #[.slice none 0 0, .bool false]) ∧ w = w' := by
  obtain ⟨a, cap, hv⟩ := hr.len
  have HR := Lib.hid hr
  clear hr
  by_cases h1 : isSig n = false
  · clear h
    go_enter Try.func36, Try.ntmps36
    go_wp2_with (first
      | (go_at_call 40; refine (isSignal_any _ _).mono ?_; rintro e w' ⟨rfl, rfl⟩)
      | (go_at_call 51; refine (areSignals_any _ zs _ HR.out).mono ?_; rintro e w' ⟨rfl, rfl⟩))
    go_ret2
    exact ⟨rfl, rfl⟩
  have h1 : isSig n = true := by simpa using h1
  by_cases h2 : lsB zs = false
  · clear h
    subst hv
    go_enter Try.func36, Try.ntmps36
    go_wp2_with (first
      | (go_at_call 40; refine (isSignal_any _ _).mono ?_; rintro e w' ⟨rfl, rfl⟩)
      | (go_at_call 51; refine (areSignals_any _ zs _ HR.out).mono ?_; rintro e w' ⟨rfl, rfl⟩))
    go_ret2
    exact ⟨rfl, rfl⟩
  have h2 : lsB zs = true := by simpa using h2
  have h3 : zs = [] := by rcases h with h | h | h; (rw [h1] at h; cases h); (rw [h2] at h; cases h); exact h
  · subst h3
    subst hv
    clear h
    go_enter Try.func36, Try.ntmps36
    go_wp2_with (first
      | (go_at_call 40; refine (isSignal_any _ _).mono ?_; rintro e w' ⟨rfl, rfl⟩)
      | (go_at_call 51; refine (areSignals_any _ [] _ HR.out).mono ?_; rintro e w' ⟨rfl, rfl⟩))
    go_ret2
    exact ⟨rfl, rfl⟩
end Go.Proofs.Ytpddnpkhhmjomaa
