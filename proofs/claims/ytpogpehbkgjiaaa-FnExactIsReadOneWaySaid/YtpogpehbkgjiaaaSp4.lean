/- Chapter 3: the program's steps over signals, walked. -/
import Derived.Test.YtpogpehbkgjiaaaSp3
import Derived.Deep.RegionHeld3
namespace Go.Proofs.Ytpogpehbkgjiaaa
open Go.RowKit
set_option linter.unusedSimpArgs false
set_option linter.unusedVariables false

set_option maxRecDepth 100000 in
set_option maxHeartbeats 2000000 in
theorem signalSteps_any (v u : Value) (ps : List Ph) (zs : List Int) (w : World) (hb : bookB ps = true) (hz : zs.length ≤ 60) (hr : RdPs w v ps) (hu : RdC w u zs) :
    Calls Try.prog 70 #[.agg #[v], u] w fun e w' => ∃ v', e = .returned v' ∧ RdSS w' v' zs.length (sigSt ps zs) ∧ Below w.heap.size w w' := by
  obtain ⟨i0, hi, hz0, hz1, hz2⟩ := info_parts Try_info_steps
  obtain ⟨a, cap, rfl, -⟩ := hr.len
  obtain ⟨-, au, cu, rfl, hcu⟩ := id hu
  have hp40 := (bookB_len hb).2
  obtain ⟨n, hn⟩ : ∃ n, n = zs.length := ⟨_, rfl⟩
  obtain ⟨np, hnp⟩ : ∃ np, np = ps.length := ⟨_, rfl⟩
  have HN := Lib.hid hn
  have HNP := Lib.hid hnp
  have HB := Lib.hid hb
  have hb0 := (Below.refl w.heap.size w).alloc (Nat.le_refl _) (.cells #[.slice a ps.length cap] 31)
  have HR := Lib.hid (hr.later hb0)
  have HU := Lib.hid (hu.later hb0)
  have hx0 : (w.alloc (.cells #[.slice a ps.length cap] 31)).cell? ⟨w.heap.size, 0, none⟩ = some (.slice a ps.length cap) := by simp [go_sem]
  have hsz0 : w.heap.size < (w.alloc (.cells #[.slice a ps.length cap] 31)).heap.size := by simp
  rw [← hn] at hz hcu ⊢
  rw [← hnp] at hb0 hx0 hsz0 HR hp40 HU ⊢
  rw [← hn] at HU
  clear hn hnp hb hr hu
  go_enter Try.func70, Try.ntmps70
  go_wp2_with (generalize w.alloc (.cells #[.slice a np cap] 31) = W at *; refine wpList_make_full _ rfl _ _ 56 rfl W.heap.size 69 i0 (.slice none 0 0) 1 Try.underlying56 hi hz0 hz1 .i64 .i64 _ _ n rfl rfl rfl rfl (by rw [hz2]; omega) (by unfold maxLen; omega) (Nat.le_refl _) ?_; intro w1 hown1 hgrow1; have ho0 := SSat.begun (ss := sigSt ps zs) hown1 hgrow1; obtain ⟨ho0, hb1⟩ := ho0; clear hown1 hgrow1)
  go_loopw [16] (fun i wr => ∃ k : Nat, k ≤ n ∧ i = .int .i64 k ∧ (∃ C uu, SSat wr W.heap.size n k (sigSt ps zs) C uu []) ∧ Below W.heap.size W wr) (fun i _ => n - (intOf i).toNat)
  case atStart => exact ⟨0, Nat.zero_le _, rfl, ⟨_, _, ho0⟩, hb1⟩
  case round =>
    obtain ⟨at_, hk, rfl, ⟨C, uu, hss⟩, hbl⟩ := hrel
    by_cases hlt : at_ < n
    · have hss2 : SSat wr W.heap.size n at_ (sigSt ps zs) C uu (sigTo ps zs at_ 0) := hss
      have hxw := hx0 ▸ hbl.cell (p := ⟨w.heap.size, 0, none⟩) hsz0
      have ha2 : (at_ : Int) < (n : Int) := by omega
      obtain ⟨gu, offu, hau⟩ := HU.out.some_ (by omega)
      have HUD : Hid (∀ wx, Below W.heap.size W wx → RdC wx (.slice (some ⟨gu, offu + at_, none⟩) (n - at_) (cu - at_)) (zs.drop at_)) := Lib.hid fun wx hx => by
        have h := HU.out.below hx (Nat.le_refl _)
        rw [hau] at h
        exact h.drop at_ (by omega)
      subst hau
      have hcu2 : (n : Int) ≤ (cu : Int) := by omega
      have hcu3 : at_ ≤ cu := by omega
      have hcu4 : (at_ : Int) ≤ (n : Int) := by omega
      have hcu5 : at_ ≤ n := by omega
      have hcu6 : ¬ cu = at_ := by omega
      clear hss
      rename World => WL
      go_wp2
      go_loopw [22] (fun i wr => ∃ q : Nat, q ≤ np ∧ i = .int .i64 q ∧ (∃ C uu, SSat wr W.heap.size n at_ (sigSt ps zs) C uu (sigTo ps zs at_ q)) ∧ Below W.heap.size W wr) (fun i _ => np - (intOf i).toNat)
      case atStart => exact ⟨0, Nat.zero_le _, rfl, ⟨_, _, hss2⟩, hbl⟩
      case round =>
        obtain ⟨q, hq, rfl, ⟨C2, u2, hss⟩, hblq⟩ := hrel
        by_cases hltq : q < np
        · obtain ⟨g, off, us, hag, hg, hts, hd0, hd1, hru⟩ := (HR.out.below hblq (Nat.le_refl _)).at_ HNP.out q hltq
          subst hag
          obtain ⟨ua, uc, rfl⟩ := hru.rd.len
          have hbA := (Below.refl wr.heap.size wr).alloc (Nat.le_refl _) (.cells #[.string (phAt ps q).txt, .slice ua (phAt ps q).sig.length uc] 65)
          have HSA := Lib.hid (hss.later hbA)
          have HSG := Lib.hid (hru.later hbA)
          have hblA := hblq.trans (hbA.mono hblq.size)
          have HDR := Lib.hid (HUD.out _ hblA)
          have hx1 : (wr.alloc (.cells #[.string (phAt ps q).txt, .slice ua (phAt ps q).sig.length uc] 65)).cell? ⟨wr.heap.size, 1, none⟩ = some (.slice ua (phAt ps q).sig.length uc) := by simp [go_sem]
          have hszB : wr.heap.size < (wr.alloc (.cells #[.string (phAt ps q).txt, .slice ua (phAt ps q).sig.length uc] 65)).heap.size := by simp
          obtain ⟨hs1, hs3⟩ := book_sig HB.out (by rw [← HNP.out]; exact hltq)
          obtain ⟨sl, hsl⟩ : ∃ sl, sl = (phAt ps q).sig.length := ⟨_, rfl⟩
          have HSL := Lib.hid hsl
          rw [← hsl] at hx1 hs1 hs3 hszB hblA HSA HSG HDR hd1 hbA
          clear hru hss hblq hsl
          go_wp2
          generalize wr.alloc (.cells #[.string (phAt ps q).txt, .slice ua sl uc] 65) = WX at *
          generalize wr.heap.size = BX at *
          have hbD := (Below.refl WX.heap.size WX).drew
          have hcD : WX.drew.cell? ⟨BX, 1, none⟩ = some (.slice ua sl uc) := by simpa [go_sem] using hx1
          have K1 : Hid (∀ w1 : World, (∃ k, w1 = WX.drew.drewN k) → w1.cell? ⟨BX, 1, none⟩ = some (.slice ua sl uc)) := Lib.hid fun w1 ⟨k, h⟩ => by
            rw [h, (below_drewN (Below.refl _ _) k).cell (p := ⟨BX, 1, none⟩) (by simpa using hszB)]; exact hcD
          rcases kind_cases (phAt ps q).sig (zs.drop at_) with ⟨hfit, hkk⟩ | ⟨hfit, hkk⟩
          · rcases hkk with hkk | hkk
            · go_region_held3 (fun w' => w'.cell? ⟨BX, 1, none⟩ = some (.slice ua sl uc))
                (first | go_keep | exact K1.out _ ⟨_, rfl⟩)
                ((go_at_call 96; refine (whichBegins_is _ _ (phAt ps q).sig (zs.drop at_) 1 WX.drew hkk (HSG.out.later hbD) (HDR.out.later hbD)).mono ?_; rintro e wq ⟨vR, rfl, nR, rfl⟩))
              have hbD2 := below_drewN (Below.refl WX.heap.size WX) (1 + nR)
              have HSY := Lib.hid (HSA.out.later hbD2)
              have hblY := hblA.trans (hbD2.mono hblA.size)
              have hxY : (WX.drewN (1 + nR)).cell? ⟨BX, 1, none⟩ = some (.slice ua sl uc) := by rw [hbD2.cell (p := ⟨BX, 1, none⟩) hszB]; exact hx1
              have hszY : BX < (WX.drewN (1 + nR)).heap.size := by simpa using hszB
              have hle := begsB_le hfit
              have hsn : sigTo ps zs at_ (q + 1) = sigTo ps zs at_ q ++ [(q, at_ + (phAt ps q).sig.length)] := stepsOf_yes hfit
              rw [List.length_drop, ← HN.out, ← HSL.out] at hle
              rw [← HSL.out] at hsn
              obtain ⟨en, hen⟩ : ∃ en, en = at_ + sl := ⟨_, rfl⟩
              have HEN := Lib.hid hen
              have hwe : IntKind.i64.wrap ((at_ : Int) + (sl : Int)) = (en : Int) := by rw [hen]; exact IntWalk.i64_in _ (by omega)
              rw [← hen] at hsn
              have HSN := Lib.hid hsn
              have HLN : Hid ((sigTo ps zs at_ q).length ≤ 1048576) := Lib.hid (by have := stepsOf_len (fun i => begsB (phAt ps i).sig (zs.drop at_)) (fun i => at_ + (phAt ps i).sig.length) q; unfold sigTo; omega)
              clear hen hsn
              clear hcD hx1 K1
              go_wp2
              generalize WX.drewN (1 + nR) = WY at *
              obtain ⟨hca, hfa, -, hBC, hCs, hBs⟩ := HSY.out.cell hlt
              have hcD2 : WY.drew.cell? ⟨BX, 1, none⟩ = some (.slice ua sl uc) := by simpa [go_sem] using hxY
              have HZ : Hid (∀ wz, Below WY.heap.size WY wz → SSat wz W.heap.size n at_ (sigSt ps zs) C2 u2 (sigTo ps zs at_ q)) := Lib.hid fun wz h => HSY.out.later h
              have HBZ : Hid (Below WY.heap.size WY (WY.drew.alloc (.cells #[.int .i64 q, .int .i64 en] 71))) := Lib.hid ((Below.refl _ _).drew.alloc (by simp) _)
              go_region_law (refine step_append_st rfl (.tmp 45) (.tmp 53) rfl C2 u2 (sigTo ps zs at_ q) (q, en) WY.heap.size (by simp [Act.eval, Act.put]) (by simp [Act.eval, Act.put]) ((HZ.out _ HBZ.out).cell hlt).2.2.1 (by simp [go_sem]) (by simp [go_sem]) HLN.out (Nat.le_trans hCs HBZ.out.size) ?_; intro v' w' ho' hg'; obtain ⟨av, cv, rfl, -⟩ := ho'.len; have q1 := (HZ.out _ HBZ.out).kept hg' hlt; obtain ⟨q1, q2⟩ := q1; have HM := Lib.hid ((HZ.out _ HBZ.out).more ho' hg'); clear ho' hg')
              all_goals
                go_wp2
                go_roundw
                case rel =>
                  refine ⟨q + 1, by omega, by go_num, ⟨C2, .slice av ((sigTo ps zs at_ q).length + 1) cv, ?_⟩, ?_⟩
                  · rw [HSN.out]; simpa using HM.out.1
                  · have h9 := HM.out.2
                    rw [List.length_append, List.length_singleton] at h9
                    exact (hblY.trans (HBZ.out.mono hblY.size)).trans h9
                case measure => simp [intOf]; omega
            · go_region_held3 (fun w' => w'.cell? ⟨BX, 1, none⟩ = some (.slice ua sl uc))
                (first | go_keep | exact K1.out _ ⟨_, rfl⟩)
                ((go_at_call 96; refine (whichBegins_is _ _ (phAt ps q).sig (zs.drop at_) 3 WX.drew hkk (HSG.out.later hbD) (HDR.out.later hbD)).mono ?_; rintro e wq ⟨vR, rfl, nR, rfl⟩))
              have hbD2 := below_drewN (Below.refl WX.heap.size WX) (1 + nR)
              have HSY := Lib.hid (HSA.out.later hbD2)
              have hblY := hblA.trans (hbD2.mono hblA.size)
              have hxY : (WX.drewN (1 + nR)).cell? ⟨BX, 1, none⟩ = some (.slice ua sl uc) := by rw [hbD2.cell (p := ⟨BX, 1, none⟩) hszB]; exact hx1
              have hszY : BX < (WX.drewN (1 + nR)).heap.size := by simpa using hszB
              have hle := begsB_le hfit
              have hsn : sigTo ps zs at_ (q + 1) = sigTo ps zs at_ q ++ [(q, at_ + (phAt ps q).sig.length)] := stepsOf_yes hfit
              rw [List.length_drop, ← HN.out, ← HSL.out] at hle
              rw [← HSL.out] at hsn
              obtain ⟨en, hen⟩ : ∃ en, en = at_ + sl := ⟨_, rfl⟩
              have HEN := Lib.hid hen
              have hwe : IntKind.i64.wrap ((at_ : Int) + (sl : Int)) = (en : Int) := by rw [hen]; exact IntWalk.i64_in _ (by omega)
              rw [← hen] at hsn
              have HSN := Lib.hid hsn
              have HLN : Hid ((sigTo ps zs at_ q).length ≤ 1048576) := Lib.hid (by have := stepsOf_len (fun i => begsB (phAt ps i).sig (zs.drop at_)) (fun i => at_ + (phAt ps i).sig.length) q; unfold sigTo; omega)
              clear hen hsn
              clear hcD hx1 K1
              go_wp2
              generalize WX.drewN (1 + nR) = WY at *
              obtain ⟨hca, hfa, -, hBC, hCs, hBs⟩ := HSY.out.cell hlt
              have hcD2 : WY.drew.cell? ⟨BX, 1, none⟩ = some (.slice ua sl uc) := by simpa [go_sem] using hxY
              have HZ : Hid (∀ wz, Below WY.heap.size WY wz → SSat wz W.heap.size n at_ (sigSt ps zs) C2 u2 (sigTo ps zs at_ q)) := Lib.hid fun wz h => HSY.out.later h
              have HBZ : Hid (Below WY.heap.size WY (WY.drew.alloc (.cells #[.int .i64 q, .int .i64 en] 71))) := Lib.hid ((Below.refl _ _).drew.alloc (by simp) _)
              go_region_law (refine step_append_st rfl (.tmp 45) (.tmp 53) rfl C2 u2 (sigTo ps zs at_ q) (q, en) WY.heap.size (by simp [Act.eval, Act.put]) (by simp [Act.eval, Act.put]) ((HZ.out _ HBZ.out).cell hlt).2.2.1 (by simp [go_sem]) (by simp [go_sem]) HLN.out (Nat.le_trans hCs HBZ.out.size) ?_; intro v' w' ho' hg'; obtain ⟨av, cv, rfl, -⟩ := ho'.len; have q1 := (HZ.out _ HBZ.out).kept hg' hlt; obtain ⟨q1, q2⟩ := q1; have HM := Lib.hid ((HZ.out _ HBZ.out).more ho' hg'); clear ho' hg')
              all_goals
                go_wp2
                go_roundw
                case rel =>
                  refine ⟨q + 1, by omega, by go_num, ⟨C2, .slice av ((sigTo ps zs at_ q).length + 1) cv, ?_⟩, ?_⟩
                  · rw [HSN.out]; simpa using HM.out.1
                  · have h9 := HM.out.2
                    rw [List.length_append, List.length_singleton] at h9
                    exact (hblY.trans (HBZ.out.mono hblY.size)).trans h9
                case measure => simp [intOf]; omega
          · rcases hkk with hkk | hkk
            · go_region_held3 (fun w' => w'.cell? ⟨BX, 1, none⟩ = some (.slice ua sl uc))
                (first | go_keep | exact K1.out _ ⟨_, rfl⟩)
                ((go_at_call 96; refine (whichBegins_is _ _ (phAt ps q).sig (zs.drop at_) 2 WX.drew hkk (HSG.out.later hbD) (HDR.out.later hbD)).mono ?_; rintro e wq ⟨vR, rfl, nR, rfl⟩))
              have hbD2 := below_drewN (Below.refl WX.heap.size WX) (1 + nR)
              have HSY := Lib.hid (HSA.out.later hbD2)
              have hblY := hblA.trans (hbD2.mono hblA.size)
              have hxY : (WX.drewN (1 + nR)).cell? ⟨BX, 1, none⟩ = some (.slice ua sl uc) := by rw [hbD2.cell (p := ⟨BX, 1, none⟩) hszB]; exact hx1
              have HST : Hid (sigTo ps zs at_ (q + 1) = sigTo ps zs at_ q) := Lib.hid (stepsOf_no hfit)
              go_wp2
              go_roundw
              case rel => exact ⟨q + 1, by omega, by go_num, ⟨_, _, by rw [HST.out]; exact HSY.out⟩, hblY⟩
              case measure => simp [intOf]; omega
            · go_region_held3 (fun w' => w'.cell? ⟨BX, 1, none⟩ = some (.slice ua sl uc))
                (first | go_keep | exact K1.out _ ⟨_, rfl⟩)
                ((go_at_call 96; refine (whichBegins_is _ _ (phAt ps q).sig (zs.drop at_) 0 WX.drew hkk (HSG.out.later hbD) (HDR.out.later hbD)).mono ?_; rintro e wq ⟨vR, rfl, nR, rfl⟩))
              have hbD2 := below_drewN (Below.refl WX.heap.size WX) (1 + nR)
              have HSY := Lib.hid (HSA.out.later hbD2)
              have hblY := hblA.trans (hbD2.mono hblA.size)
              have hxY : (WX.drewN (1 + nR)).cell? ⟨BX, 1, none⟩ = some (.slice ua sl uc) := by rw [hbD2.cell (p := ⟨BX, 1, none⟩) hszB]; exact hx1
              have HST : Hid (sigTo ps zs at_ (q + 1) = sigTo ps zs at_ q) := Lib.hid (stepsOf_no hfit)
              go_wp2
              go_roundw
              case rel => exact ⟨q + 1, by omega, by go_num, ⟨_, _, by rw [HST.out]; exact HSY.out⟩, hblY⟩
              case measure => simp [intOf]; omega
        · have : q = np := by omega
          subst this
          have hse : sigSt ps zs at_ = sigTo ps zs at_ q := by rw [HNP.out]; rfl
          rw [← hse] at hss
          have hnx := hss.next
          clear hss hse
          go_wp2
          go_roundw
          case rel => exact ⟨at_ + 1, by omega, by go_num, ⟨_, _, hnx⟩, hblq⟩
          case measure => simp [intOf]; omega
    · have : at_ = n := by omega
      subst this
      go_wp2
      go_ret
      exact ⟨_, rfl, hss.done, hb0.trans (hbl.mono hb0.size)⟩
end Go.Proofs.Ytpogpehbkgjiaaa
