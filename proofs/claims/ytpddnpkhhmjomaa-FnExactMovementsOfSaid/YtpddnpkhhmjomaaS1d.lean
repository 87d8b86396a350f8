/- Chapter 1: movements, with a closure over two variables. -/
import Derived.Test.YtpddnpkhhmjomaaS1b
import Derived.Deep.RegionWith
namespace Go.Proofs.Ytpddnpkhhmjomaa
open Go.RowKit
set_option linter.unusedVariables false
set_option linter.unusedSimpArgs false

/-- A variable of the call's own in block b. -/
def IntAt (w : World) (b : Nat) (x : Int) : Prop := w.cell? ⟨b, 0, none⟩ = some (.int .i64 x) ∧ w.frozen? ⟨b, 0, none⟩ = false

theorem show_any (n mv l : Int) (bm bs B : Nat) (w : World) (n0 : 0 ≤ n) (n1 : n ≤ 63) (l0 : 0 ≤ l) (l1 : l ≤ 63) (m0 : 0 ≤ mv) (m1 : mv ≤ 1000000) (hne : bm ≠ bs) (hBm : B ≤ bm) (hBs : B ≤ bs) (hm : IntAt w bm mv) (hs : IntAt w bs l) :
    Calls Try.prog 52 #[.int .i64 n, .pointer (some ⟨bm, 0, none⟩), .pointer (some ⟨bs, 0, none⟩)] w fun e w' => e = .returned (.tuple #[]) ∧ IntAt w' bm (mv + dist l n) ∧ IntAt w' bs n ∧ Below B w w' := by
  obtain ⟨hm1, hm2⟩ := hm
  obtain ⟨hs1, hs2⟩ := hs
  have hd := dist_bd l n
  have hwr : IntKind.i64.wrap (mv + dist l n) = mv + dist l n := IntWalk.i64_in _ (by omega)
  have hx : (w.setCell ⟨bm, 0, none⟩ (.int .i64 (mv + dist l n))).cell? ⟨bs, 0, none⟩ = some (.int .i64 l) := by
    rw [setc_far hne]; exact hs1
  have hm3 : (w.setCell ⟨bm, 0, none⟩ (.int .i64 (mv + dist l n))).cell? ⟨bm, 0, none⟩ = some (.int .i64 (mv + dist l n)) := setc_same hm1
  have HM3 := Lib.hid hm3
  clear hm3
  go_enter Try.func52, Try.ntmps52
  go_wp2
  go_region_with (go_at_call 47; refine (countChanged_any _ _ _ l0 l1 n0 n1).mono ?_; rintro e w' ⟨rfl, rfl⟩)
  all_goals
    go_wp2
    go_end0
    refine ⟨rfl, ⟨?_, ?_⟩, ⟨?_, ?_⟩, ?_⟩
    · rw [World.cell?_drew, setc_far (Ne.symm hne)]; exact HM3.out
    · simpa using hm2
    · rw [World.cell?_drew]; exact setc_same hx
    · simpa using hs2
    · exact (((Below.refl _ _).setCell hBm _).setCell hBs _).drew

theorem IntAt.below {w w' : World} {b C : Nat} {x : Int} (h : IntAt w b x) (hb : Below C w w') (hC : b < C) : IntAt w' b x :=
  ⟨by rw [hb.cell (p := ⟨b, 0, none⟩) hC]; exact h.1, by rw [hb.frozen (p := ⟨b, 0, none⟩) hC]; exact h.2⟩

theorem implMoves_yes (v : Value) (zs : List Int) (w : World) (hr : Rd w v zs) (hl : lsB zs = true) :
    Calls Try.prog 34 #[v] w fun e w' => e = .returned (.tuple #[.int .i64 (moves zs), .bool true]) ∧ Below w.heap.size w w' := by
  have hlen := lsB_len hl
  obtain ⟨a, cap, hv⟩ := hr.len
  subst hv
  obtain ⟨n, hn⟩ : ∃ n, n = zs.length := ⟨_, rfl⟩
  rw [← hn] at hlen ⊢
  have HN := Lib.hid hn
  have HR := Lib.hid hr
  have HL := Lib.hid hl
  clear hr hn
  go_enter Try.func34, Try.ntmps34
  go_wp2_with fail
  refine (areSignals_any _ zs _ (by rw [HN.out]; exact HR.out)).mono ?_
  rintro e w' ⟨rfl, rfl⟩
  go_wp2
  go_loopw [15] (fun i wr => ∃ k : Nat, k ≤ n ∧ i = .int .i64 k ∧ IntAt wr (w.heap.size + 1) (mvTo zs k) ∧ IntAt wr w.heap.size (lastTo zs k) ∧ Below w.heap.size w wr) (fun i _ => n - (intOf i).toNat)
  case atStart =>
    refine ⟨0, Nat.zero_le _, rfl, ⟨?_, ?_⟩, ⟨?_, ?_⟩, ((Below.refl _ _).alloc (Nat.le_refl _) _).alloc (by simp) _⟩
    · simp [go_sem, mvTo]
    · simp [go_sem]
    · simp [go_sem, lastTo]
    · simp [go_sem]
  case round =>
    obtain ⟨k, hk, rfl, hm, hs, hb⟩ := hrel
    have hmv := mvTo_bd zs k
    have hl := lastTo_range HL.out k (by rw [← HN.out]; exact hk)
    have hd := dist_bd (lastTo zs k) (zs[k]?.getD 0)
    by_cases hlt : k < n
    · rcases HR.out with ⟨h, -⟩ | ⟨g, off, cap', hv, hg, hm', hc⟩
      · exfalso; have := HN.out; rw [h] at this; simp at this; omega
      · simp only [Value.slice.injEq] at hv
        obtain ⟨rfl, -, rfl⟩ := hv
        have q := hc k (by rw [← HN.out]; exact hlt)
        have hx := lsB_get HL.out k (by rw [← HN.out]; exact hlt)
        clear hc hm'
        obtain ⟨x, hxe⟩ : ∃ x, x = zs[k]?.getD 0 := ⟨_, rfl⟩
        rw [← hxe] at q hx hd
        obtain ⟨l, hle⟩ : ∃ l, l = lastTo zs k := ⟨_, rfl⟩
        rw [← hle] at hl hd hs
        obtain ⟨m, hme⟩ : ∃ m, m = mvTo zs k := ⟨_, rfl⟩
        rw [← hme] at hmv hm
        have q' : wr.cell? ⟨g, off + k, none⟩ = some (.int .i64 x) := by
          rw [hb.cell (p := ⟨g, off + k, none⟩) hg]; exact q
        have HXE := Lib.hid hxe
        have HLE := Lib.hid hle
        have HME := Lib.hid hme
        have HM := Lib.hid hm
        have HS := Lib.hid hs
        clear hxe hle hme q hm hs
        go_wp2_with (go_at_call 52; refine (show_any x m l (w.heap.size + 1) w.heap.size w.heap.size _ hx.1 hx.2 hl.1 hl.2 hmv.1 (by omega) (by omega) (by omega) (Nat.le_refl _) HM.out HS.out).mono ?_; rintro e w' ⟨rfl, hm', hs', hb'⟩)
        go_roundw
        case rel => exact ⟨k + 1, by omega, by go_num, by simp only [mvTo]; rw [← HXE.out, ← HLE.out, ← HME.out]; exact hm', by rw [lastTo_succ, ← HXE.out]; exact hs', hb.trans hb'⟩
        case measure => simp [intOf]; omega
    · obtain rfl : k = n := by omega
      have hd0 := dist_bd (lastTo zs k) 0
      have HT : Hid (mvTo zs k + dist (lastTo zs k) 0 = moves zs) := Lib.hid (by unfold moves; rw [← HN.out])
      obtain ⟨l, hle⟩ : ∃ l, l = lastTo zs k := ⟨_, rfl⟩
      rw [← hle] at hl hd0 hs HT
      obtain ⟨m, hme⟩ : ∃ m, m = mvTo zs k := ⟨_, rfl⟩
      rw [← hme] at hmv hm HT
      have HM := Lib.hid hm
      have HS := Lib.hid hs
      clear hle hme hm hs hd
      go_wp2_with (go_at_call 52; refine (show_any 0 m l (w.heap.size + 1) w.heap.size w.heap.size _ (by omega) (by omega) hl.1 hl.2 hmv.1 (by omega) (by omega) (by omega) (Nat.le_refl _) HM.out HS.out).mono ?_; rintro e w' ⟨rfl, hm', hs', hb'⟩; have hmc := hm'.1)
      go_ret2
      exact ⟨by rw [HT.out]; rfl, hb.trans hb'⟩
theorem implMoves_no (v : Value) (zs : List Int) (w : World) (hr : Rd w v zs) (hl : lsB zs = false) :
    Calls Try.prog 34 #[v] w fun e w' => e = .returned (.tuple #[.int .i64 0, .bool false]) ∧ Below w.heap.size w w' := by
  go_enter Try.func34, Try.ntmps34
  go_wp2_with (go_at_call 51; refine (areSignals_any _ zs _ hr).mono ?_; rintro e w' ⟨rfl, rfl⟩)
  go_ret2
  exact ⟨rfl, Below.refl _ _⟩
theorem specMoves_no (v : Value) (zs : List Int) (w : World) (hr : Rd w v zs) (hl : lsB zs = false) :
    Calls Try.prog 32 #[v] w fun e w' => e = .returned (.tuple #[.int .i64 0, .bool false]) ∧ Below w.heap.size w w' := by
  go_enter Try.func32, Try.ntmps32
  go_wp2_with (go_at_call 49; refine (sgList_any _ zs _ hr).mono ?_; rintro e w' ⟨rfl, rfl⟩)
  go_ret2
  exact ⟨rfl, Below.refl _ _⟩
theorem specMoves_yes (v : Value) (zs : List Int) (w : World) (hr : Rd w v zs) (hl : lsB zs = true) :
    Calls Try.prog 32 #[v] w fun e w' => e = .returned (.tuple #[.int .i64 (moves zs), .bool true]) ∧ Below w.heap.size w w' := by
  go_enter Try.func32, Try.ntmps32
  go_wp2_with (first
    | (go_at_call 49; refine (sgList_any _ zs _ hr).mono ?_; rintro e w' ⟨rfl, rfl⟩)
    | (go_at_call 50; refine (sgMoves_any _ zs _ hr hl).mono ?_; rintro e w' ⟨rfl, hb⟩))
  go_ret2
  exact ⟨rfl, hb⟩

theorem walk_FnExactMovementsOf (a0 : Option Addr) (len0 cap0 : Nat) (z0 : List Int) (w : World) (w0 : IsRow .i64 w a0 len0 cap0 z0) :
    Calls Try.prog 11 #[.slice a0 len0 cap0] w fun e w' => e = .returned (.bool true) ∧ Below w.heap.size w w' := by
  by_cases hlong : 1048576 < len0
  · clear w0
    go_enter Try.func11, Try.ntmps11
    go_wp2
    go_ret
    exact ⟨rfl, Below.refl _ _⟩
  · have hr := w0.rd
    have hl0 := w0.len
    obtain ⟨zs, hzs⟩ : ∃ zs, zs = z0.take len0 := ⟨_, rfl⟩
    rw [← hzs] at hr hl0
    have HR := Lib.hid hr
    have HL0 := Lib.hid hl0
    clear hr hzs w0 hl0
    have hlz : zs.length ≤ 1048576 := by rw [HL0.out]; omega
    cases hls : lsB zs with
    | true =>
      go_enter Try.func11, Try.ntmps11
      go_wp2_with fail
      refine (toIntS_any _ zs _ (by omega) HR.out).mono ?_
      rintro e w1 ⟨v1, rfl, ho1, hb1⟩
      go_wp2_with fail
      refine (specMoves_yes _ zs _ ho1.rd hls).mono ?_
      rintro e w2 ⟨rfl, hb2⟩
      have hb := hb1.trans (hb2.mono hb1.size)
      go_wp2_with fail
      refine (toIntS_any _ zs _ (by omega) (HR.out.later hb)).mono ?_
      rintro e w3 ⟨v3, rfl, ho3, hb3⟩
      have hb := hb.trans (hb3.mono hb.size)
      go_wp2_with fail
      refine (implMoves_yes _ zs _ ho3.rd hls).mono ?_
      rintro e w4 ⟨rfl, hb4⟩
      have ho3 := ho3.later hb4
      have hb := hb.trans (hb4.mono hb.size)
      go_wp2_with fail
      refine (toIntS_any _ zs _ (by omega) (HR.out.later hb)).mono ?_
      rintro e w5 ⟨v5, rfl, ho5, hb5⟩
      have ho3 := ho3.later hb5
      have hb := hb.trans (hb5.mono hb.size)
      go_wp2_with fail
      refine (eqIntS_true _ _ _ _ ho3.rd ho5.rd).mono ?_
      rintro e w6 ⟨rfl, n6, rfl⟩
      have hb := below_drewN hb n6
      go_wp2
      go_ret
      exact ⟨rfl, hb⟩
    | false =>
      go_enter Try.func11, Try.ntmps11
      go_wp2_with fail
      refine (toIntS_any _ zs _ (by omega) HR.out).mono ?_
      rintro e w1 ⟨v1, rfl, ho1, hb1⟩
      go_wp2_with fail
      refine (specMoves_no _ zs _ ho1.rd hls).mono ?_
      rintro e w2 ⟨rfl, hb2⟩
      have hb := hb1.trans (hb2.mono hb1.size)
      go_wp2_with fail
      refine (toIntS_any _ zs _ (by omega) (HR.out.later hb)).mono ?_
      rintro e w3 ⟨v3, rfl, ho3, hb3⟩
      have hb := hb.trans (hb3.mono hb.size)
      go_wp2_with fail
      refine (implMoves_no _ zs _ ho3.rd hls).mono ?_
      rintro e w4 ⟨rfl, hb4⟩
      have ho3 := ho3.later hb4
      have hb := hb.trans (hb4.mono hb.size)
      go_wp2_with fail
      refine (toIntS_any _ zs _ (by omega) (HR.out.later hb)).mono ?_
      rintro e w5 ⟨v5, rfl, ho5, hb5⟩
      have ho3 := ho3.later hb5
      have hb := hb.trans (hb5.mono hb.size)
      go_wp2_with fail
      refine (eqIntS_true _ _ _ _ ho3.rd ho5.rd).mono ?_
      rintro e w6 ⟨rfl, n6, rfl⟩
      have hb := below_drewN hb n6
      go_wp2
      go_ret
      exact ⟨rfl, hb⟩
end Go.Proofs.Ytpddnpkhhmjomaa
