/- Chapter 8: greedy covers of the program. -/
import Derived.Test.YtpmdjdlojbpcfaaStK
import Derived.Test.YtpmdjdlojbpcfaaStJ
namespace Go.Proofs.Ytpmdjdlojbpcfaa
open Go.RowKit
set_option linter.unusedSimpArgs false
set_option linter.unusedVariables false

theorem pop_gain {L : List (List Int)} {n k left y : Nat} {out : List Int} (ok : StOk L n) (hl : ∀ j, left.testBit j = (decide (j < n) && unB L out j)) (hy : y = vw L k &&& left) : popN y 16 = gain L n out k := by
  have hyn : y < 2 ^ n := by rw [hy]; exact Nat.lt_of_le_of_lt Nat.and_le_left (ok.vw_lt k)
  unfold popN
  rw [nums_top hyn ok.n2]
  unfold nums gain
  rw [List.length_map, ← List.countP_eq_length_filter]
  refine List.countP_congr fun j hj => ?_
  simp only [List.mem_range] at hj
  rw [hy, Nat.testBit_and, ok.vw_bit, hl, decide_eq_true hj, Bool.true_and]
theorem left_zero {L : List (List Int)} {n left : Nat} {out : List Int} (hl : ∀ j, left.testBit j = (decide (j < n) && unB L out j)) : covB L n out 1 = decide (left = 0) := by
  rw [Bool.eq_iff_iff, covB_iff, decide_eq_true_eq]
  constructor
  · intro h
    refine Nat.eq_of_testBit_eq fun j => ?_
    rw [hl]
    by_cases hj : j < n
    · have := h j hj
      have h2 : unB L out j = false := by unfold unB; rw [beq_eq_false_iff_ne]; omega
      simp [h2]
    · simp [hj]
  · intro h j hj
    have := hl j
    rw [h, decide_eq_true hj] at this
    simp only [Nat.zero_testBit, Bool.true_and] at this
    have h2 : ¬ cntS L out j = 0 := by unfold unB at this; intro e; rw [e] at this; simp at this
    omega
theorem left_step {L : List (List Int)} {n left b x : Nat} {out : List Int} (ok : StOk L n) (hl : ∀ j, left.testBit j = (decide (j < n) && unB L out j)) (hx : ∀ j, x.testBit j = (left.testBit j && !(vw L b).testBit j)) :
    ∀ j, x.testBit j = (decide (j < n) && unB L (out ++ [(b : Int)]) j) := by
  intro j
  rw [hx, hl, ok.vw_bit]
  unfold unB
  rw [cntS_snoc, Int.toNat_natCast]
  cases hsB L b j <;> simp
set_option maxRecDepth 100000 in
set_option maxHeartbeats 4000000 in
theorem implGreedyCover_any (v : Value) (L : List (List Int)) (n : Int) (w : World) (hr : RdJ w v L) :
    Calls Try.prog 19 #[v, .int .i64 n] w (GrPost L n w) := by
  have C0 := Lib.hid (implAreSites_any v L n w hr)
  have HR := Lib.hid hr
  cases hs : stB L n with
  | false =>
    have hf : Hid (grA L n = false) := Lib.hid (by simp [grA, hs])
    rw [hs] at C0
    clear hs hr
    go_enter Try.func19, Try.ntmps19
    go_wp2_with fail
    refine C0.out.mono ?_
    rintro e w1 ⟨rfl, hb1⟩
    go_wp2
    go_ret2
    exact GrPost.no hf.out hb1
  | true =>
    rw [hs] at C0
    have HS := Lib.hid hs
    obtain ⟨ok, hne⟩ := stB_iff.1 hs
    obtain ⟨N, hN⟩ : ∃ N, n.toNat = N := ⟨_, rfl⟩
    rw [hN] at ok hne
    subst hne
    have hm2 := ok.m2
    have hn2 := ok.n2
    have h16 := two16 hn2
    have OK := Lib.hid ok
    clear hs hN ok
    have hP16 : 2 ^ N - 1 < 65536 := by omega
    have HL0 : Hid (∀ j, (2 ^ N - 1 : Nat).testBit j = (decide (j < N) && unB L [] j)) := Lib.hid fun j => by rw [all_bit]; simp [unB, cntS]
    clear h16
    go_enter Try.func19, Try.ntmps19
    go_wp2_with fail
    refine C0.out.mono ?_
    rintro e w1 ⟨rfl, hb1⟩
    go_wp2_with fail
    refine (outlookOf_any _ L N _ OK.out (HR.out.later hb1)).mono ?_
    rintro e w2 ⟨uv, rfl, hv, hb2⟩
    have hB2 := hb1.trans (hb2.mono hb1.size)
    obtain ⟨au, cu, rfl⟩ := hv.len
    have hbx := Var2.new w2 (.int .u64 ((2 ^ N - 1 : Nat) : Int)) (.slice au L.length cu) 65
    have hal := (Below.refl w2.heap.size w2).alloc (Nat.le_refl _) (.cells #[.int .u64 ((2 ^ N - 1 : Nat) : Int), .slice au L.length cu] 65)
    have hB3 := hB2.trans (hal.mono hB2.size)
    have HV := Lib.hid (hv.later hal)
    clear hv hal hb2 hB2 hb1 hr
    generalize 2 ^ N - 1 = P1 at *
    obtain ⟨m, hme⟩ : ∃ m, m = L.length := ⟨_, rfl⟩
    rw [← hme] at hbx HV hB3 hm2 ⊢
    have HM := Lib.hid hme
    clear hme
    go_wp2
    generalize w2.alloc (.cells #[.int .u64 P1, .slice au m cu] 65) = w3 at *
    go_loopg [7, 8] N (fun kx ov lv wr => ∃ (k left : Nat) (out : List Int), lv = .int .u64 left ∧ left < 65536 ∧ Hid (∀ j, left.testBit j = (decide (j < N) && unB L out j)) ∧ Hid (GrI L N k out) ∧ unc L N out ≤ kx ∧ Own wr w3.heap.size ov out ∧ Below w3.heap.size w3 wr)
    case atStart => exact ⟨0, P1, [], rfl, hP16, HL0, Lib.hid (GrI.zero L N), unc_le _ _ _, Own.nil _ _, Below.refl _ _⟩
    case round =>
      obtain ⟨k, left, out, rfl, hl16, hleft, hI, hun, hown, hb⟩ := hrel
      have hbr := hbx.next hb
      have x1 := hbr.c1
      have hcov := left_zero hleft.out
      have hkl := hI.out.len
      have hBB := hB3.trans (hb.mono hB3.size)
      by_cases h0 : left = 0
      · have hc : Hid (covB L N out 1 = true) := Lib.hid (by rw [hcov]; simp [h0])
        have hz : ((left : Int) != 0) = false := by simp [h0]
        have HO := Lib.hid (hown.base (show w.heap.size ≤ w3.heap.size from hB3.size))
        clear hcov h0 hown
        go_wp2
        go_ret2
        exact GrPost.yes HS.out (by rw [Int.toNat_natCast]; exact hI.out) (by rw [Int.toNat_natCast]; exact hc.out) HO.out hBB
      · have hc : Hid (covB L N out 1 = false) := Lib.hid (by rw [hcov]; simp [h0])
        have hz : ((left : Int) != 0) = true := by rw [bne_iff_ne]; omega
        have HO := Lib.hid hown
        have HU := Lib.hid hun
        clear hcov h0 hown hun
        have HG : Hid (∀ i, ∃ y : Nat, bits BinOp.and IntKind.u64 (vw L i : Int) (left : Int) = (y : Int) ∧ y < 65536 ∧ popN y 16 = gain L N out i) := Lib.hid fun i => by
          have hv16 : vw L i < 65536 := Nat.lt_of_lt_of_le (OK.out.vw_lt i) (two16 hn2)
          exact ⟨vw L i &&& left, bits_and_u64_nat _ _ (by omega) (by omega), Nat.lt_of_le_of_lt Nat.and_le_left hv16, pop_gain OK.out hleft.out rfl⟩
        have hgb := fun k => gbTo_le (gain_le L N out) k
        go_wp2
        go_loop [9, 10, 28] (fun bv mv iv => ∃ (i b M : Nat), i ≤ m ∧ iv = .int .i64 i ∧ bv = .int .i64 b ∧ mv = .int .i64 M ∧ Hid (gbTo (gain L N out) i = (b, M))) (fun _ _ iv => m - (intOf iv).toNat)
        case atStart => exact ⟨0, 0, 0, Nat.zero_le _, rfl, rfl, rfl, Lib.hid rfl⟩
        case round =>
          clear x1
          obtain ⟨i, b, M, hi, rfl, rfl, rfl, hbM⟩ := hrel
          have hbd := hgb i
          rw [hbM.out] at hbd
          by_cases hlt : i < m
          · obtain ⟨g, off, rfl, hg, q⟩ := (HV.out.below hb (Nat.le_refl _)).at_ HM.out i hlt
            obtain ⟨y, e1, hy16, hpg⟩ := HG.out i
            have CS := fun W => Lib.hid (size_any y W hy16)
            rw [hpg] at CS
            have hgi := gain_le L N out i
            generalize vw L i = vi at q e1
            by_cases hgt : M < gain L N out i
            · have hs := Lib.hid (gbTo_yes (g := gain L N out) (k := i) (by rw [hbM.out]; exact hgt))
              clear hpg
              generalize gain L N out i = G at *
              go_wp2_with (go_at_call 65; refine (CS _).out.mono ?_; rintro e w' ⟨rfl, rfl⟩)
              go_round
              case rel => exact ⟨i + 1, i, G, by omega, by go_num, rfl, rfl, hs⟩
              case measure => simp [intOf]; omega
            · have hs := Lib.hid ((gbTo_no (g := gain L N out) (k := i) (by rw [hbM.out]; exact hgt)).trans hbM.out)
              clear hpg
              generalize gain L N out i = G at *
              go_wp2_with (go_at_call 65; refine (CS _).out.mono ?_; rintro e w' ⟨rfl, rfl⟩)
              go_round
              case rel => exact ⟨i + 1, b, M, by omega, by go_num, rfl, rfl, hs⟩
              case measure => simp [intOf]; omega
          · obtain rfl : i = m := by omega
            have hbest : Hid (gBest L N out = (b, M)) := Lib.hid (by unfold gBest; rw [← HM.out]; exact hbM.out)
            by_cases hM0 : M = 0
            · have hz2 : ((M : Int) == 0) = true := by simp [hM0]
              have hf : Hid (grA L (N : Int) = false) := Lib.hid (by
                unfold grA
                rw [Int.toNat_natCast, best_none hc.out (by rw [hbest.out]; exact hM0), Bool.and_false])
              clear hM0
              go_wp2
              go_ret2
              exact GrPost.no hf.out hBB
            · have hz2 : ((M : Int) == 0) = false := by rw [beq_eq_false_iff_ne]; omega
              have hst := hI.out.step (b := b) hc.out (by rw [hbest.out]) (by rw [hbest.out]; show 0 < M; omega)
              have HI' := Lib.hid hst.1
              have hbm : b < i := by rw [HM.out]; exact hst.2
              obtain ⟨g, off, rfl, hg, q⟩ := (HV.out.below hb (Nat.le_refl _)).at_ HM.out b hbm
              have hv16 : vw L b < 65536 := Nat.lt_of_lt_of_le (OK.out.vw_lt b) (two16 hn2)
              obtain ⟨x, e2, hx16, hx⟩ := andNot_bit left (vw L b) hl16 hv16
              have HX := Lib.hid (left_step OK.out hleft.out hx)
              have hun' : Hid (unc L N (out ++ [(b : Int)]) < unc L N out) := Lib.hid (unc_step (by
                have h1 := gbTo_at (gain L N out) L.length
                rw [show gbTo (gain L N out) L.length = (b, M) from hbest.out] at h1
                rcases h1 with h1 | ⟨-, h1, -⟩
                · simp at h1; omega
                · show 0 < gain L N out b
                  rw [show gain L N out b = M from h1]; omega))
              have hbrr := hbx.next hb
              have hlen : out.length ≤ 1099511627776 := by omega
              have hsz := hb.size
              have hgw : Hid (∀ W, Below w3.heap.size w3 W → W.cell? ⟨g, off + b, none⟩ = some (.int .u64 (vw L b))) := Lib.hid fun W hW => by
                obtain ⟨g', off', he, hg', hc'⟩ := HV.out.at_ HM.out b hbm
                simp only [Option.some.injEq, Addr.mk.injEq, and_true] at he
                obtain ⟨rfl, rfl⟩ := he
                exact (hW.cell (p := ⟨g, off + b, none⟩) hg').trans hc'
              clear hst hx hM0 hgb hv16 q
              generalize vw L b = vb at *
              go_wp2_with (at_builtin; refine append_int rfl _ _ rfl w3.heap.size _ out (b : Int) wr.heap.size rfl rfl (HO.out.alloc _) (new_cell _ _ _) hlen (by simp; omega) ?_; intro v5 w5 ho5 hg5; have hb5 := (hb.alloc hsz _).grown hg5 (by simp; omega) (fun j hj => (HO.out.lt j hj).1); have x1 := (hbx.next hb5).c1; have q := hgw.out _ hb5)
              go_roundg (unc L N (out ++ [(b : Int)]))
              case measure => have := hun'.out; have := HU.out; omega
              case rel => exact ⟨k + 1, x, out ++ [(b : Int)], rfl, hx16, HX, HI', Nat.le_refl _, ho5, hb5⟩
end Go.Proofs.Ytpmdjdlojbpcfaa
