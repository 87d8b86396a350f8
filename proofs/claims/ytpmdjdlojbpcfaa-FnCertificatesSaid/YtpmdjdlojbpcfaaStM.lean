/- Chapter 8: greedy covers of the model. -/
import Derived.Test.YtpmdjdlojbpcfaaStL
namespace Go.Proofs.Ytpmdjdlojbpcfaa
open Go.RowKit
set_option linter.unusedSimpArgs false
set_option linter.unusedVariables false

/-- What the first q spots of site i add. -/
def gnTo (L : List (List Int)) (out : List Int) (i q : Nat) : Nat := ((rowAt L i).take q).countP fun x => unB L out x.toNat
theorem gnTo_step {L : List (List Int)} {out : List Int} {i q : Nat} (hq : q < (rowAt L i).length) : gnTo L out i (q + 1) = gnTo L out i q + if unB L out ((rowAt L i)[q]?.getD 0).toNat then 1 else 0 := by
  unfold gnTo
  rw [List.take_succ_eq_append_getElem hq, List.countP_append]
  simp [List.countP_cons, hq]
theorem gnTo_all {L : List (List Int)} {n i : Nat} {out : List Int} (ok : StOk L n) : gnTo L out i (rowAt L i).length = gain L n out i := by
  unfold gnTo gain
  rw [List.take_length]
  have e : rowAt L i = nums (vw L i) n := (nums_setN (ok.ris i)).symm
  rw [e]
  unfold nums
  rw [List.countP_map, List.countP_filter]
  refine List.countP_congr fun j _ => ?_
  simp [ok.vw_bit, Bool.and_comm]
theorem gnTo_le (L : List (List Int)) (out : List Int) (i q : Nat) : gnTo L out i q ≤ q := Nat.le_trans List.countP_le_length (by simp; omega)

set_option maxRecDepth 100000 in
set_option maxHeartbeats 8000000 in
theorem specGreedyCover_any (v : Value) (L : List (List Int)) (n : Int) (w : World) (hr : RdJ w v L) :
    Calls Try.prog 20 #[v, .int .i64 n] w (GrPost L n w) := by
  have C0 := Lib.hid (stGood_any v L n w hr)
  cases hs : stB L n with
  | false =>
    have hf : Hid (grA L n = false) := Lib.hid (by simp [grA, hs])
    rw [hs] at C0
    clear hs hr
    go_enter Try.func20, Try.ntmps20
    go_wp2_with fail
    refine C0.out.mono ?_
    rintro e w1 ⟨rfl, rfl⟩
    go_wp2
    go_ret2
    exact GrPost.no hf.out (Below.refl _ _)
  | true =>
    rw [hs] at C0
    have HS := Lib.hid hs
    obtain ⟨ok, hne⟩ := stB_iff.1 hs
    obtain ⟨N, hN⟩ : ∃ N, n.toNat = N := ⟨_, rfl⟩
    rw [hN] at ok hne
    subst hne
    have hm2 := ok.m2
    have hn2 := ok.n2
    have OK := Lib.hid ok
    have HR := Lib.hid hr
    have C1 := Lib.hid (stAll_any v L w hm2 hr)
    have CC := Lib.hid (fun (u : Value) (zs : List Int) (W : World) (hW : Below w.heap.size w W) (hz : ∀ x ∈ zs, 0 ≤ x ∧ x < (L.length : Int)) (hl : zs.length ≤ 12) (hu : Rd W u zs) => stCoversG_any v u L N zs 1 W ok hz hl (hr.below hW (Nat.le_refl _)) hu)
    have CT := Lib.hid (fun (u : Value) (zs : List Int) (W : World) (hW : Below w.heap.size w W) (hz : ∀ x ∈ zs, 0 ≤ x ∧ x < (L.length : Int)) (hl : zs.length ≤ 12) (hu : Rd W u zs) => stTimes_any v u L N zs W ok hz (by omega) (hr.below hW (Nat.le_refl _)) hu)
    obtain ⟨a, cap, rfl, -⟩ := hr.len
    obtain ⟨m, hme⟩ : ∃ m, m = L.length := ⟨_, rfl⟩
    rw [← hme] at hm2 C0 HR C1 CT CC ⊢
    have HM := Lib.hid hme
    clear hs hN ok hme hr
    cases ha : covB L N (allL m) 1 with
    | false =>
      have hf : Hid (grA L (N : Int) = false) := Lib.hid (by unfold grA; rw [Int.toNat_natCast, ← HM.out, ha, Bool.and_false])
      go_enter Try.func20, Try.ntmps20
      go_wp2_with fail
      refine C0.out.mono ?_
      rintro e w1 ⟨rfl, rfl⟩
      go_wp2_with fail
      refine C1.out.mono ?_
      rintro e w1 ⟨v1, rfl, ho1, hb1⟩
      have C2 := Lib.hid (CC.out v1 (allL m) w1 hb1 (allL_ris m).2 (by rw [allL_len]; exact hm2) ho1.rd)
      rw [ha] at C2
      obtain ⟨a1, y1, c1, rfl, -⟩ := ho1.f
      clear ho1 ha
      go_wp2_with fail
      refine C2.out.mono ?_
      rintro e w2 ⟨rfl, hb2⟩
      have hB2 := hb1.trans (hb2.mono hb1.size)
      go_wp2
      go_ret2
      exact GrPost.no hf.out hB2
    | true =>
      have HA := Lib.hid ha
      clear ha
      go_enter Try.func20, Try.ntmps20
      go_wp2_with fail
      refine C0.out.mono ?_
      rintro e w1 ⟨rfl, rfl⟩
      go_wp2_with fail
      refine C1.out.mono ?_
      rintro e w1 ⟨v1, rfl, ho1, hb1⟩
      have C2 := Lib.hid (CC.out v1 (allL m) w1 hb1 (allL_ris m).2 (by rw [allL_len]; exact hm2) ho1.rd)
      rw [HA.out] at C2
      obtain ⟨a1, y1, c1, rfl, -⟩ := ho1.f
      clear ho1 C1
      go_wp2_with fail
      refine C2.out.mono ?_
      rintro e w2 ⟨rfl, hb2⟩
      have hB2 := hb1.trans (hb2.mono hb1.size)
      clear C2 hb2 hb1
      go_wp2
      go_loopg [6] N (fun kx ov wr => ∃ (k : Nat) (out : List Int), Hid (GrI L N k out) ∧ unc L N out ≤ kx ∧ Own wr w2.heap.size ov out ∧ Below w2.heap.size w2 wr)
      case atStart => exact ⟨0, [], Lib.hid (GrI.zero L N), unc_le _ _ _, Own.nil _ _, Below.refl _ _⟩
      case round =>
        obtain ⟨k, out, hI, hun, hown, hb⟩ := hrel
        have hBr := hB2.trans (hb.mono hB2.size)
        have hl12 : out.length ≤ 12 := by have := hI.out.len; have := HM.out; omega
        have hrg : ∀ x ∈ out, 0 ≤ x ∧ x < (m : Int) := by rw [HM.out]; exact hI.out.rg
        have C3 := CC.out _ out _ hBr hrg hl12 hown.rd
        have C4 := Lib.hid (fun W (hW : Below wr.heap.size wr W) => CT.out _ out W (hB2.trans ((hb.trans (hW.mono hb.size)).mono hB2.size)) hrg hl12 (hown.rd.later hW))
        have HO := Lib.hid hown
        have HU := Lib.hid hun
        obtain ⟨a3, y3, c3, rfl, -⟩ := hown.f
        clear hown hun hrg
        cases hc : covB L N out 1 with
        | true =>
          rw [hc] at C3
          have C5 := Lib.hid C3
          have HC := Lib.hid hc
          clear C3 hc C4
          go_wp2_with fail
          refine C5.out.mono ?_
          rintro e w4 ⟨rfl, hb4⟩
          have hBB := hBr.trans (hb4.mono hBr.size)
          have HO2 := Lib.hid ((HO.out.later hb4).base (show w.heap.size ≤ w2.heap.size from hB2.size))
          go_wp2
          go_ret2
          exact GrPost.yes HS.out (by rw [Int.toNat_natCast]; exact hI.out) (by rw [Int.toNat_natCast]; exact HC.out) HO2.out hBB
        | false =>
          rw [hc] at C3
          have C5 := Lib.hid C3
          have HC := Lib.hid hc
          clear C3 hc
          go_wp2_with fail
          refine C5.out.mono ?_
          rintro e w4 ⟨rfl, hb4⟩
          have C6 := Lib.hid (C4.out w4 hb4)
          clear C4
          go_wp2_with fail
          refine C6.out.mono ?_
          rintro e w5 ⟨v5, rfl, ho5, hb5⟩
          have hb45 := hb4.trans (hb5.mono hb4.size)
          have hB5 := hb.trans (hb45.mono hb.size)
          have hBr5 := hB2.trans (hB5.mono hB2.size)
          have HO5 := Lib.hid (HO.out.later hb45)
          have HRD := Lib.hid ho5.rd
          obtain ⟨a5, y5, c5, rfl, hy5⟩ := ho5.f
          rw [cntL_len] at hy5
          subst hy5
          clear ho5 HO C5 C6 hb45 hb4 hb5
          have hgb := fun k => gbTo_le (gain_le L N out) k
          go_wp2
          go_loop [8, 9, 38] (fun bv mv iv => ∃ (i b M : Nat), i ≤ m ∧ iv = .int .i64 i ∧ bv = .int .i64 b ∧ mv = .int .i64 M ∧ Hid (gbTo (gain L N out) i = (b, M))) (fun _ _ iv => m - (intOf iv).toNat)
          case atStart => exact ⟨0, 0, 0, Nat.zero_le _, rfl, rfl, rfl, Lib.hid rfl⟩
          case round =>
            obtain ⟨i, b, M, hi, rfl, rfl, rfl, hbM⟩ := hrel
            have hbd := hgb i
            rw [hbM.out] at hbd
            by_cases hlt : i < m
            · obtain ⟨g, off, ur, rfl, hg, q2, hrow⟩ := (HR.out.below hBr5 (Nat.le_refl _)).at_ HM.out i hlt
              obtain ⟨ra, rc, rfl⟩ := hrow.rd.len
              have hrl := hrow.rd.max
              unfold maxLen at hrl
              obtain ⟨r, hre⟩ : ∃ r, r = (rowAt L i).length := ⟨_, rfl⟩
              have HRE := Lib.hid hre
              have HROW := Lib.hid hrow.rd
              rw [← hre] at hrl HROW q2
              clear hre hrow
              go_wp2
              go_loop [12, 45] (fun kv qv => ∃ q : Nat, q ≤ r ∧ qv = .int .i64 q ∧ kv = .int .i64 (gnTo L out i q : Int)) (fun _ qv => r - (intOf qv).toNat)
              case atStart => exact ⟨0, Nat.zero_le _, rfl, by simp [gnTo]⟩
              case round =>
                obtain ⟨q, hq, rfl, rfl⟩ := hrel
                have hgl := gnTo_le L out i q
                by_cases hqr : q < r
                · obtain ⟨g3, o3, rfl, hg3, q3⟩ := HROW.out.at_ HRE.out q hqr
                  have hql : q < (rowAt L i).length := by have := HRE.out; omega
                  have hge := (OK.out.ris i).get q hql
                  obtain ⟨s, hs⟩ : ∃ s : Nat, (rowAt L i)[q]?.getD 0 = (s : Int) := ⟨((rowAt L i)[q]?.getD 0).toNat, by omega⟩
                  have hst := gnTo_step (out := out) hql
                  rw [hs] at q3 hge hst
                  rw [Int.toNat_natCast] at hst
                  have hsN : s < N := by omega
                  obtain ⟨g4, o4, rfl, hg4, q4⟩ := HRD.out.at_ (by rw [cntL_len]) s hsN
                  rw [cntL_get _ _ _ _ hsN] at q4
                  have hc12 := Nat.le_trans (cntS_le L out s) hl12
                  cases hu : unB L out s with
                  | true =>
                    rw [hu] at hst
                    have hz : ((cntS L out s : Int) == 0) = true := by unfold unB at hu; simpa using hu
                    have HST := Lib.hid hst
                    clear hst hu hs hge
                    generalize cntS L out s = x at q4 hz hc12
                    generalize gnTo L out i q = G at *
                    go_wp2
                    go_round
                    case rel => exact ⟨q + 1, by omega, by go_num, by rw [HST.out]; go_num⟩
                    case measure => simp [intOf]; omega
                  | false =>
                    rw [hu] at hst
                    have hz : ((cntS L out s : Int) == 0) = false := by
                      unfold unB at hu
                      rw [beq_eq_false_iff_ne] at hu ⊢
                      omega
                    have HST := Lib.hid hst
                    clear hst hu hs hge
                    generalize cntS L out s = x at q4 hz hc12
                    generalize gnTo L out i q = G at *
                    go_wp2
                    go_round
                    case rel => exact ⟨q + 1, by omega, by go_num, by rw [HST.out]; simp⟩
                    case measure => simp [intOf]; omega
                · obtain rfl : q = r := by omega
                  have HE : Hid (gnTo L out i q = gain L N out i) := Lib.hid (by rw [HRE.out]; exact gnTo_all OK.out)
                  by_cases hgt : M < gnTo L out i q
                  · have hs := Lib.hid (gbTo_yes (g := gain L N out) (k := i) (by rw [hbM.out, ← HE.out]; exact hgt))
                    rw [← HE.out] at hs
                    generalize gnTo L out i q = G at *
                    go_wp2
                    go_round
                    case rel => exact ⟨i + 1, i, G, by omega, by go_num, rfl, rfl, hs⟩
                    case measure => simp [intOf]; omega
                  · have hs := Lib.hid ((gbTo_no (g := gain L N out) (k := i) (by rw [hbM.out, ← HE.out]; exact hgt)).trans hbM.out)
                    generalize gnTo L out i q = G at *
                    go_wp2
                    go_round
                    case rel => exact ⟨i + 1, b, M, by omega, by go_num, rfl, rfl, hs⟩
                    case measure => simp [intOf]; omega
            · obtain rfl : i = m := by omega
              have hbest : gBest L N out = (b, M) := by unfold gBest; rw [← HM.out]; exact hbM.out
              have hpos := best_pos HC.out (by rw [← HM.out]; exact HA.out)
              have hst := hI.out.step (b := b) HC.out (by rw [hbest]) hpos
              have HI' := Lib.hid hst.1
              have hun' : Hid (unc L N (out ++ [(b : Int)]) < unc L N out) := Lib.hid (unc_step (by
                have h1 := gbTo_at (gain L N out) L.length
                rw [show gbTo (gain L N out) L.length = (b, M) from hbest] at h1
                rw [hbest] at hpos
                rcases h1 with h1 | ⟨-, h1, -⟩
                · simp at h1; simp at hpos; omega
                · show 0 < gain L N out b
                  rw [show gain L N out b = M from h1]; exact hpos))
              have hlen : out.length ≤ 1099511627776 := by omega
              have hsz := hB5.size
              clear hst hpos hbest hgb
              go_wp2_with (at_builtin; refine append_int rfl _ _ rfl w2.heap.size _ out (b : Int) w5.heap.size rfl rfl (HO5.out.alloc _) (new_cell _ _ _) hlen (by simp; omega) ?_; intro v6 w6 ho6 hg6; have hb6 := (hB5.alloc hsz _).grown hg6 (by simp; omega) (fun j hj => (HO5.out.lt j hj).1))
              go_roundg (unc L N (out ++ [(b : Int)]))
              case measure => have := hun'.out; have := HU.out; omega
              case rel => exact ⟨k + 1, out ++ [(b : Int)], HI', Nat.le_refl _, ho6, hb6⟩
end Go.Proofs.Ytpmdjdlojbpcfaa
