/- The helpers of the laws on slices of integers, by their contracts. -/
import Derived.Test.YtpmdjdlojbpcfaaChecked
import Derived.Test.YtpmdjdlojbpcfaaApp
import Derived.Maps.AppendAt
import Derived.WalkKit
import Derived.ProofKit
import Derived.Outline
import Derived.Deep.QuietTactic
import Derived.BigQuiet
import Derived.Lib.Hide
namespace Go.Proofs.Ytpmdjdlojbpcfaa
open Go.RowKit
set_option linter.unusedSimpArgs false
set_option linter.unusedVariables false


/-- eqIntS at two slices that read alike: true. -/
theorem eqIntS_true (v1 v2 : Value) (zs : List Int) (w : World) (h1 : Rd w v1 zs) (h2 : Rd w v2 zs) :
    Calls Try.prog 48 #[v1, v2] w fun e w' => e = .returned (.bool true) ∧ ∃ n, w' = w.drewN n := by
  rcases h1 with ⟨rfl, a1, c1, rfl, -⟩ | ⟨g1, o1, c1, rfl, hg1, hm, k1⟩
  · rcases h2 with ⟨-, a2, c2, rfl, -⟩ | ⟨g2, o2, c2, rfl, hg2, -, k2⟩
    all_goals
      go_enter Try.func48, Try.ntmps48
      go_wp2
      go_loopw [5] (fun i wr => i = .int .i64 0 ∧ wr = w) (fun i wr => 0)
      case atStart => exact ⟨rfl, rfl⟩
      case round =>
        obtain ⟨rfl, rfl⟩ := hrel
        go_wp2
        go_ret
        exact ⟨rfl, 0, rfl⟩
  · rcases h2 with ⟨rfl, a2, c2, rfl, -⟩ | ⟨g2, o2, c2, rfl, hg2, -, k2⟩
    · go_enter Try.func48, Try.ntmps48
      go_wp2
      go_loopw [5] (fun i wr => i = .int .i64 0 ∧ wr = w) (fun i wr => 0)
      case atStart => exact ⟨rfl, rfl⟩
      case round =>
        obtain ⟨rfl, rfl⟩ := hrel
        go_wp2
        go_ret
        exact ⟨rfl, 0, rfl⟩
    · unfold maxLen at hm
      obtain ⟨n, hn⟩ : ∃ n, n = zs.length := ⟨_, rfl⟩
      rw [← hn] at k1 k2 hm
      rw [← hn]
      clear hn
      go_enter Try.func48, Try.ntmps48
      go_wp2
      go_loopw [5] (fun i wr => ∃ k : Nat, k ≤ n ∧ i = .int .i64 k ∧ ∃ m, wr = w.drewN m) (fun i wr => n - (intOf i).toNat)
      case atStart => exact ⟨0, Nat.zero_le _, rfl, 0, rfl⟩
      case round =>
        obtain ⟨k, hk, rfl, m, rfl⟩ := hrel
        by_cases hlt : k < n
        · have q1 := k1 k hlt
          have q2 := k2 k hlt
          clear k1 k2
          go_wp2
          go_quiet (fail)
          go_wp2
          go_roundw
          case rel => exact ⟨k + 1, by omega, by go_num, _, rfl⟩
          case measure => simp [intOf]; omega
        · clear k1 k2
          go_wp2
          go_ret
          exact ⟨rfl, m, rfl⟩

/-- The numbers k0, k0 + 1 .. of markIntS. -/
def markZ (k0 : Int) (n : Nat) : List Int := (List.range n).map fun i : Nat => k0 + (i : Int)
theorem markZ_len (k0 : Int) (n : Nat) : (markZ k0 n).length = n := by simp [markZ]
theorem markZ_get (k0 : Int) (n i : Nat) (h : i < n) : (markZ k0 n)[i]?.getD 0 = k0 + i := by simp [markZ, h]
theorem mark_step (k0 : Int) (zs : List Int) (k : Nat) (h : k < zs.length) :
    ((markZ k0 k ++ zs.drop k).map (Value.int .i64)).set k (.int .i64 (k0 + k)) = (markZ k0 (k + 1) ++ zs.drop (k + 1)).map (Value.int .i64) := by
  have e : zs.drop k = zs[k] :: zs.drop (k + 1) := List.drop_eq_getElem_cons h
  rw [e]
  have hl : k = ((markZ k0 k).map (Value.int .i64)).length := by simp [markZ_len]
  rw [List.map_append, List.map_cons]
  conv => lhs; rw [List.set_append_right _ _ (by simp [markZ_len])]
  simp [markZ, List.range_succ]
theorem mark_len (k0 : Int) (zs : List Int) (k : Nat) (h : k ≤ zs.length) : (markZ k0 k ++ zs.drop k).length = zs.length := by simp [markZ_len]; omega

/-- markIntS writes k, k + 1 .. into a slice of the call's own. -/
theorem markIntS_any (B : Nat) (v : Value) (zs : List Int) (k0 : Int) (w : World) (h0 : 0 ≤ k0) (h1 : k0 ≤ 1099511627776) (hz : zs.length ≤ 1099511627776) (ho : Own w B v zs) :
    Calls Try.prog 50 #[v, .int .i64 k0] w fun e w' => e = .returned (.int .i64 (k0 + zs.length)) ∧ Own w' B v (markZ k0 zs.length) ∧ w.grownBy w' v.ownBlock := by
  rcases ho.cases with ⟨rfl, rfl⟩ | ⟨g, cap, rfl, hB, hg, hm⟩
  · go_enter Try.func50, Try.ntmps50
    go_wp2
    go_loopw [1, 5] (fun t i wr => i = .int .i64 0 ∧ t = .int .i64 k0 ∧ wr = w) (fun t i wr => 0)
    case atStart => exact ⟨rfl, rfl, rfl⟩
    case round =>
      obtain ⟨rfl, rfl, rfl⟩ := hrel
      go_wp2
      go_ret
      exact ⟨by simp, by simpa [markZ] using ho, World.grownBy.refl _ _⟩
  · obtain ⟨n, hn⟩ : ∃ n, n = zs.length := ⟨_, rfl⟩
    have HN := Lib.hid hn
    rw [← hn] at hz hm ⊢
    clear hn
    unfold maxLen at hm
    go_enter Try.func50, Try.ntmps50
    go_wp2
    go_loopw [1, 5] (fun t i wr => ∃ k : Nat, k ≤ n ∧ i = .int .i64 k ∧ t = .int .i64 (k0 + k) ∧ Own wr B (.slice (some ⟨g, 0, none⟩) n cap) (markZ k0 k ++ zs.drop k) ∧ w.grownBy wr (some g)) (fun t i wr => n - (intOf i).toNat)
    case atStart => exact ⟨0, Nat.zero_le _, rfl, by simp, by rw [HN.out] at *; simpa [markZ] using ho, World.grownBy.refl _ _⟩
    case round =>
      obtain ⟨k, hk, rfl, rfl, hown, hgr⟩ := hrel
      by_cases hlt : k < n
      · have hl := mark_len k0 zs k (by rw [← HN.out]; omega)
        have hst := World.ownsRow.stored (g := g) (n := n) (cap := cap) (by unfold Own at hown; rw [hl, ← HN.out] at hown; exact hown) k (.int .i64 (k0 + k))
        have hfz : wr.frozen? ⟨g, k, none⟩ = false := World.ownsRow.frozenAt (by unfold Own at hown; rw [hl, ← HN.out] at hown; exact hown) k
        obtain ⟨u, hcell⟩ : ∃ u, wr.cell? ⟨g, k, none⟩ = some u := by
          rw [World.ownsRow.cellAt (by unfold Own at hown; rw [hl, ← HN.out] at hown; exact hown) k (by omega)]
          exact ⟨_, List.getElem?_eq_getElem (by simp only [List.length_map]; rw [hl, ← HN.out]; exact hlt)⟩
        rw [mark_step k0 zs k (by rw [← HN.out]; exact hlt)] at hst
        have hl' := mark_len k0 zs (k + 1) (by rw [← HN.out]; omega)
        have HST := Lib.hid hst
        have HL := Lib.hid hl'
        clear hst hl hl' hown
        go_wp2
        go_roundw
        case rel => exact ⟨k + 1, by omega, by go_num, by go_num, by unfold Own; rw [HL.out, ← HN.out]; exact HST.out.1, hgr.trans HST.out.2⟩
        case measure => simp [intOf]; omega
      · have : k = n := by omega
        subst this
        go_wp2
        go_ret
        exact ⟨rfl, by rw [HN.out] at hown ⊢; simpa using hown, hgr⟩

/-- heldIntS at a slice that reads k, k + 1 ..: the sum. -/
theorem heldIntS_any (v : Value) (n : Nat) (k0 : Int) (w : World) (h0 : 0 ≤ k0) (h1 : k0 ≤ 1099511627776) (hz : n ≤ 1099511627776) (hr : Rd w v (markZ k0 n)) :
    Calls Try.prog 51 #[v, .int .i64 k0] w fun e w' => e = .returned (.int .i64 (k0 + n)) ∧ w' = w := by
  rcases hr with ⟨he, a1, c1, rfl, -⟩ | ⟨g, off, cap, rfl, hg, hm, hc⟩
  · obtain rfl : n = 0 := by have := markZ_len k0 n; rw [he] at this; simpa using this.symm
    go_enter Try.func51, Try.ntmps51
    go_wp2
    go_loopw [1, 5] (fun t i wr => i = .int .i64 0 ∧ t = .int .i64 k0 ∧ wr = w) (fun t i wr => 0)
    case atStart => exact ⟨rfl, rfl, rfl⟩
    case round =>
      obtain ⟨rfl, rfl, rfl⟩ := hrel
      go_wp2
      go_ret
      exact ⟨by simp, rfl⟩
  · rw [markZ_len] at hc hm ⊢
    have hc' : ∀ i, i < n → w.cell? ⟨g, off + i, none⟩ = some (.int .i64 (k0 + i)) := fun i hi => by rw [hc i hi, markZ_get k0 n i hi]
    clear hc
    unfold maxLen at hm
    go_enter Try.func51, Try.ntmps51
    go_wp2
    go_loopw [1, 5] (fun t i wr => ∃ k : Nat, k ≤ n ∧ i = .int .i64 k ∧ t = .int .i64 (k0 + k) ∧ wr = w) (fun t i wr => n - (intOf i).toNat)
    case atStart => exact ⟨0, Nat.zero_le _, rfl, by simp, rfl⟩
    case round =>
      obtain ⟨k, hk, rfl, rfl, rfl⟩ := hrel
      by_cases hlt : k < n
      · have q := hc' k hlt
        clear hc'
        go_wp2
        go_roundw
        case rel => exact ⟨k + 1, by omega, by go_num, by go_num, by first | rfl | trivial⟩
        case measure => simp [intOf]; omega
      · have : k = n := by omega
        subst this
        clear hc'
        go_wp2
        go_ret
        exact ⟨rfl, rfl⟩

theorem copy_step (zs : List Int) (n k : Nat) (hn : zs.length = n) (h : k < n) :
    (((zs.take k) ++ List.replicate (n - k) 0).map (Value.int .i64)).set k (.int .i64 (zs[k]?.getD 0)) = ((zs.take (k + 1)) ++ List.replicate (n - (k + 1)) 0).map (Value.int .i64) := by
  have e : List.replicate (n - k) (0 : Int) = 0 :: List.replicate (n - (k + 1)) 0 := by
    rw [show n - k = (n - (k + 1)) + 1 by omega, List.replicate_succ]
  rw [e, List.map_append, List.set_append_right _ _ (by simp; omega)]
  have hk : k - ((zs.take k).map (Value.int .i64)).length = 0 := by simp; omega
  rw [hk, List.take_succ_eq_append_getElem (by omega : k < zs.length)]
  have hk' : k < zs.length := by omega
  simp only [List.map_append, List.map_cons, List.set_cons_zero, List.append_assoc, List.cons_append, List.nil_append]
  simp [hk']
theorem copy_len (zs : List Int) (n k : Nat) (hn : zs.length = n) (h : k ≤ n) : (zs.take k ++ List.replicate (n - k) 0).length = n := by simp; omega

/-- toIntS makes a copy of its own. -/
theorem toIntS_any (v : Value) (zs : List Int) (w : World) (hz : zs.length ≤ 1099511627776) (hr : Rd w v zs) :
    Calls Try.prog 47 #[v] w fun e w' => ∃ v', e = .returned v' ∧ Own w' w.heap.size v' zs ∧ Below w.heap.size w w' := by
  obtain ⟨i0, hi, hz0, hz1, hz2⟩ := info_parts Try_info_int
  obtain ⟨a, cap, hv⟩ := hr.len
  obtain ⟨n, hn⟩ : ∃ n, zs.length = n := ⟨_, rfl⟩
  have HR : Hid (Rd w v zs) := Lib.hid hr
  clear hr
  rw [hn] at hz hv
  subst hv
  have HN := Lib.hid hn
  clear hn
  go_enter Try.func47, Try.ntmps47
  go_wp2_with (refine wpList_make_full _ rfl _ _ 26 rfl w.heap.size 3 i0 (.int .i64 0) 1 Try.underlying26 hi hz0 hz1 .i64 .i64 _ _ n rfl rfl rfl rfl (by rw [hz2]; omega) (by unfold maxLen; omega) (Nat.le_refl _) ?_; intro w1 hown1 hgrow1)
  have ho0 : Own w1 w.heap.size (.slice (some ⟨w.heap.size, 0, none⟩) n n) (zs.take 0 ++ List.replicate (n - 0) 0) := by
    unfold Own
    rw [copy_len zs n 0 HN.out (Nat.zero_le _)]
    have e : (madeCells (Value.int IntKind.i64 0).cells (n * 1)).toList = (zs.take 0 ++ List.replicate (n - 0) 0).map (Value.int .i64) := by
      rw [Nat.mul_one]
      have := toList_madeCells_one (.int .i64 0) n
      simpa [Value.cells] using this
    rw [← e]; exact hown1
  have hb0 : Below w.heap.size w w1 := (Below.refl _ _).grown hgrow1 (Nat.le_refl _) (fun k h => by cases h)
  clear hown1 hgrow1
  go_loopw [4] (fun i wr => ∃ k : Nat, k ≤ n ∧ i = .int .i64 k ∧ Own wr w.heap.size (.slice (some ⟨w.heap.size, 0, none⟩) n n) (zs.take k ++ List.replicate (n - k) 0) ∧ Below w.heap.size w wr ∧ w.heap.size < wr.heap.size) (fun i wr => n - (intOf i).toNat)
  case atStart => exact ⟨0, Nat.zero_le _, rfl, ho0, hb0, (Own.lt ho0 _ rfl).2⟩
  case round =>
    obtain ⟨k, hk, rfl, hown, hbel, hsz⟩ := hrel
    by_cases hlt : k < n
    · rcases HR.out with ⟨he, -⟩ | ⟨g, off, cap', hv, hg, hm, hc⟩
      · exfalso; have := HN.out; rw [he] at this; simp at this; omega
      · simp only [Value.slice.injEq] at hv
        obtain ⟨rfl, -, rfl⟩ := hv
        have q : wr.cell? ⟨g, off + k, none⟩ = some (.int .i64 (zs[k]?.getD 0)) := by
          rw [hbel.cell (p := ⟨g, off + k, none⟩) hg]; exact hc k (by rw [HN.out]; exact hlt)
        clear hc
        have hl := copy_len zs n k HN.out hk
        have hown' : wr.ownsRow w.heap.size 3 1 (.slice (some ⟨w.heap.size, 0, none⟩) n n) n ((zs.take k ++ List.replicate (n - k) 0).map (Value.int .i64)) := by
          unfold Own at hown; rw [hl] at hown; exact hown
        have hst := World.ownsRow.stored (g := w.heap.size) (n := n) (cap := n) hown' k (.int .i64 (zs[k]?.getD 0))
        have hfz : wr.frozen? ⟨w.heap.size, k, none⟩ = false := World.ownsRow.frozenAt hown' k
        obtain ⟨u, hcell⟩ : ∃ u, wr.cell? ⟨w.heap.size, k, none⟩ = some u := by
          rw [World.ownsRow.cellAt hown' k (by omega)]
          exact ⟨_, List.getElem?_eq_getElem (by simp only [List.length_map]; rw [hl]; exact hlt)⟩
        rw [copy_step zs n k HN.out hlt] at hst
        have hl' := copy_len zs n (k + 1) HN.out (by omega)
        have HST := Lib.hid hst
        have HL := Lib.hid hl'
        clear hst hl hl' hown hown'
        go_wp2
        go_roundw
        case rel => exact ⟨k + 1, by omega, by go_num, by unfold Own; rw [HL.out]; exact HST.out.1, hbel.setCell (Nat.le_refl _) _, by simpa using hsz⟩
        case measure => simp [intOf]; omega
    · have : k = n := by omega
      subst this
      go_wp2
      go_ret
      exact ⟨_, rfl, by rw [← HN.out] at hown ⊢; simpa using hown, hbel⟩
end Go.Proofs.Ytpmdjdlojbpcfaa
