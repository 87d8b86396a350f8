/- Chapter 3: the reference's first reading. -/
import Derived.Test.YtpogpehbkgjiaaaSp7
import Derived.Test.YtpogpehbkgjiaaaSp5
namespace Go.Proofs.Ytpogpehbkgjiaaa
open Go.RowKit
set_option linter.unusedSimpArgs false
set_option linter.unusedVariables false

/-- A phrase that fits and behind which there is a way. -/
def goodI (ps : List Ph) (zs : List Int) (f : Nat → Int) (a i : Nat) : Bool := begsB (phAt ps i).sig (zs.drop a) && decide (0 < f (a + (phAt ps i).sig.length))
def BestOf (ps : List Ph) (zs : List Int) (f : Nat → Int) (a q : Nat) (bz : Int) : Prop := (bz = -1 ∧ ∀ j, j < q → goodI ps zs f a j = false) ∨ ∃ b : Nat, b < q ∧ bz = b ∧ goodI ps zs f a b = true ∧ ∀ j, j < b → goodI ps zs f a j = false
theorem BestOf.skip {ps : List Ph} {zs : List Int} {f : Nat → Int} {a q : Nat} {bz : Int} (h : BestOf ps zs f a q bz) (hg : goodI ps zs f a q = false) : BestOf ps zs f a (q + 1) bz := by
  rcases h with ⟨h1, h2⟩ | ⟨b, h1, h2, h3, h4⟩
  · refine .inl ⟨h1, fun j hj => ?_⟩
    by_cases e : j = q
    · subst e; exact hg
    · exact h2 j (by omega)
  · exact .inr ⟨b, by omega, h2, h3, h4⟩
/-- What r says where there is a way: the first good phrase. -/
def FirstGood (ps : List Ph) (zs : List Int) (f : Nat → Int) (r : Nat → Rst) : Prop := ∀ a, a < zs.length → (r a).ex = true → (r a).ph < ps.length ∧ goodI ps zs f a (r a).ph = true ∧ (∀ j, j < (r a).ph → goodI ps zs f a j = false) ∧ (r a).nx = a + (phAt ps (r a).ph).sig.length
theorem BestOf.is {ps : List Ph} {zs : List Int} {f : Nat → Int} {a p : Nat} {bz : Int} (h : BestOf ps zs f a ps.length bz) (h1 : p < ps.length) (h2 : goodI ps zs f a p = true) (h3 : ∀ j, j < p → goodI ps zs f a j = false) : bz = p := by
  rcases h with ⟨-, h5⟩ | ⟨b, h4, h5, h6, h7⟩
  · rw [h5 p h1] at h2; cases h2
  · rcases Nat.lt_trichotomy b p with e | e | e
    · rw [h3 b e] at h6; cases h6
    · omega
    · rw [h7 p e] at h2; cases h2

set_option maxRecDepth 100000 in
set_option maxHeartbeats 1000000 in
theorem spDecode_any (v u : Value) (ps : List Ph) (zs : List Int) (f : Nat → Int) (r : Nat → Rst) (L : List Int) (w : World) (hb : bookB ps = true) (hz : zs.length ≤ 60) (hr : RdPs w v ps) (hu : RdC w u zs) (hf : Counts zs.length (sigSt ps zs) f)
    (h0 : f 0 = 0 ↔ (r 0).ex = false) (hg : FirstGood ps zs f r) (hlead : Leads zs.length r) (hL : (r 0).ex = true → PathTo r zs.length 0 L) :
    Calls Try.prog 71 #[.agg #[v], u] w (LeastPost r L w) := by
  obtain ⟨a0, cap, rfl, -⟩ := hr.len
  obtain ⟨-, au, cu, rfl, hcu⟩ := id hu
  have hp40 := (bookB_len hb).2
  obtain ⟨n, hn⟩ : ∃ n, n = zs.length := ⟨_, rfl⟩
  obtain ⟨np, hnp⟩ : ∃ np, np = ps.length := ⟨_, rfl⟩
  have HN := Lib.hid hn
  have HNP := Lib.hid hnp
  have HB := Lib.hid hb
  have HF := Lib.hid hf
  have H0 := Lib.hid h0
  have HG := Lib.hid hg
  have HLD := Lib.hid hlead
  have HPT := Lib.hid hL
  have hb0 := (Below.refl w.heap.size w).alloc (Nat.le_refl _) (.cells #[.slice a0 ps.length cap] 31)
  have HR := Lib.hid (hr.later hb0)
  have HU := Lib.hid (hu.later hb0)
  have hx0 : (w.alloc (.cells #[.slice a0 ps.length cap] 31)).cell? ⟨w.heap.size, 0, none⟩ = some (.slice a0 ps.length cap) := by simp [go_sem]
  have hsz0 : w.heap.size < (w.alloc (.cells #[.slice a0 ps.length cap] 31)).heap.size := by simp
  rw [← hn] at hz hcu HLD HPT ⊢
  rw [← hnp] at hb0 hx0 hsz0 HR hp40 HU ⊢
  rw [← hn] at HU
  clear hn hnp hb hf hr hu h0 hg hlead hL
  go_enter Try.func71, Try.ntmps71
  go_wp2_with fail
  generalize w.alloc (.cells #[.slice a0 np cap] 31) = W at *
  refine (spWays_any _ _ ps zs f _ HB.out (by rw [← HN.out]; exact hz) (by have := HR.out; exact this) (by have := HU.out; exact this) HF.out).mono ?_
  rintro e w1 ⟨g, rfl, hrow, hb1⟩
  have hB1 := hb0.trans (hb1.mono hb0.size)
  have hg1 := hrow.lt.2
  obtain ⟨m, hm⟩ : ∃ m, m = n + 1 := ⟨_, rfl⟩
  have HM := Lib.hid hm
  rw [← HN.out, ← hm] at hrow
  rw [← HN.out, ← hm]
  have HROW := Lib.hid hrow
  have hc0 : w1.cell? ⟨g, 0, none⟩ = some (.int .i64 (f 0)) := hrow.at_ 0 (by omega)
  have hm2 : (0 : Int) < (m : Int) := by omega
  have hxw1 := hx0 ▸ hb1.cell (p := ⟨w.heap.size, 0, none⟩) hsz0
  have hsz1 : w.heap.size < w1.heap.size := Nat.lt_of_lt_of_le hsz0 hb1.size
  clear hm hrow hx0
  cases hex : (r 0).ex with
  | false =>
    have hf0 : f 0 = 0 := H0.out.2 hex
    rw [hf0] at hc0
    have hE := Lib.hid hex
    clear hex hf0
    go_wp2
    go_ret2
    exact ⟨_, by rw [hE.out]; rfl, by rw [hE.out, if_neg (by simp)]; exact Own.nil _ _, hB1⟩
  | true =>
    have hE := Lib.hid hex
    have hf0 : ¬ f 0 = 0 := fun e => by have := H0.out.1 e; rw [hex] at this; cases this
    have hf1 : (f 0 == 0) = false := by simpa using hf0
    have HPATH := Lib.hid (HPT.out hex)
    clear hex
    go_wp2
    go_loopw [7, 8] (fun vl i wr => ∃ (a : Nat) (l1 l2 : List Int), a ≤ n ∧ i = .int .i64 a ∧ Hid (L = l1 ++ l2) ∧ Hid (PathTo r n a l2) ∧ Hid ((r a).ex = true) ∧ l1.length ≤ 60 ∧ Own wr w1.heap.size vl l1 ∧ Below w1.heap.size w1 wr) (fun _ i _ => n - (intOf i).toNat)
    case atStart => exact ⟨0, [], L, Nat.zero_le _, rfl, Lib.hid rfl, HPATH, hE, by simp, Own.nil _ _, Below.refl _ _⟩
    case round =>
      obtain ⟨a, l1, l2, han, rfl, hl12, hpath, hexa, hl1, hown, hbl⟩ := hrel
      by_cases hlt : a < n
      · obtain ⟨hx1, hx2, l3, hl2, hp3⟩ := hpath.out.go hlt
        obtain ⟨hfg1, hfg2, hfg3, hfg4⟩ := HG.out a (by rw [← HN.out]; exact hlt) hexa.out
        have hexn := (HLD.out a hlt hexa.out).2.2
        obtain ⟨xp, hxp⟩ : ∃ xp, xp = (r a).ph := ⟨_, rfl⟩
        obtain ⟨xe, hxe⟩ : ∃ xe, xe = (r a).nx := ⟨_, rfl⟩
        rw [← hxp] at hfg1 hfg2 hfg3 hfg4
        rw [← hxe] at hx1 hx2 hfg4 hexn
        have HNX : Hid (L = (l1 ++ [(xp : Int)]) ++ l3) := Lib.hid (by rw [hl12.out, hl2, hxp]; simp)
        have HP3 : Hid (PathTo r n xe l3) := Lib.hid (by rw [hxe]; exact hp3)
        have HEXN := Lib.hid hexn
        have HFG : Hid (∀ bz, BestOf ps zs f a np bz → bz = xp) := Lib.hid fun bz h => by rw [HNP.out] at h; exact h.is hfg1 hfg2 hfg3
        have HFE := Lib.hid hfg4
        have hxpn : xp < np := by rw [HNP.out]; exact hfg1
        have hLL : (l1 ++ [(xp : Int)]).length ≤ 60 := by have := (HPATH.out).len; rw [HNX.out] at this; simp at this ⊢; omega
        have hxw := hxw1 ▸ hbl.cell (p := ⟨w.heap.size, 0, none⟩) hsz1
        have hlI : (a : Int) < (n : Int) := by omega
        obtain ⟨gu, offu, hau⟩ := HU.out.some_ (by omega)
        have HUD : Hid (∀ wx, Below W.heap.size W wx → RdC wx (.slice (some ⟨gu, offu + a, none⟩) (n - a) (cu - a)) (zs.drop a)) := Lib.hid fun wx hx => by
          have h := HU.out.below hx (Nat.le_refl _)
          rw [hau] at h
          exact h.drop a (by omega)
        subst hau
        have hcu2 : (n : Int) ≤ (cu : Int) := by omega
        have hcu3 : a ≤ cu := by omega
        have hcu4 : (a : Int) ≤ (n : Int) := by omega
        have hcu5 : a ≤ n := by omega
        have hcu6 : ¬ cu = a := by omega
        have hszl := hbl.size
        clear hxp hxe hl2 hp3 hpath hfg1 hfg2 hfg3 hfg4 hexn
        rename World => WL
        go_wp2
        go_loopw [9, 26] (fun bv i wr => ∃ (q : Nat) (bz : Int), q ≤ np ∧ i = .int .i64 q ∧ bv = .int .i64 bz ∧ Hid (BestOf ps zs f a q bz) ∧ Below WL.heap.size WL wr) (fun _ i _ => np - (intOf i).toNat)
        case atStart => exact ⟨0, -1, Nat.zero_le _, rfl, rfl, Lib.hid (.inl ⟨rfl, fun j hj => by omega⟩), Below.refl _ _⟩
        case round =>
          obtain ⟨q, bz, hq, rfl, rfl, hbest, hblq⟩ := hrel
          have hbW1 := hbl.trans (hblq.mono hbl.size)
          have hbW := hb1.trans (hbW1.mono hb1.size)
          by_cases hltq : q < np
          · obtain ⟨gp, off, us, hag, hgp, hts, hd0, hd1, hru⟩ := (HR.out.below hbW (Nat.le_refl _)).at_ HNP.out q hltq
            subst hag
            obtain ⟨ua, uc, rfl⟩ := hru.rd.len
            have hbA := (Below.refl wr.heap.size wr).alloc (Nat.le_refl _) (.cells #[.string (phAt ps q).txt, .slice ua (phAt ps q).sig.length uc] 65)
            have HSG := Lib.hid (hru.later hbA)
            have hblA := hblq.trans (hbA.mono hblq.size)
            have HDR := Lib.hid (HUD.out _ (hbW.trans (hbA.mono hbW.size)))
            have hx1' : (wr.alloc (.cells #[.string (phAt ps q).txt, .slice ua (phAt ps q).sig.length uc] 65)).cell? ⟨wr.heap.size, 1, none⟩ = some (.slice ua (phAt ps q).sig.length uc) := by simp [go_sem]
            obtain ⟨sl, hsl⟩ : ∃ sl, sl = (phAt ps q).sig.length := ⟨_, rfl⟩
            have HSL := Lib.hid hsl
            have hs3 := (book_sig HB.out (by rw [← HNP.out]; exact hltq)).2
            have HROWX := Lib.hid (HROW.out.below (hbW1.trans (hbA.mono hbW1.size)) (fun k hk => by cases hk; exact hg1))
            rw [← hsl] at hx1' hblA HSG HDR hd1 hbA hs3 HROWX
            clear hru hsl
            rcases hbest.out with ⟨hm1, hbno⟩ | ⟨b, hbq, hbb, hb3, hb4⟩
            · subst hm1
              cases hfit : begsB (phAt ps q).sig (zs.drop a) with
              | false =>
                have HGQ : Hid (goodI ps zs f a q = false) := Lib.hid (by unfold goodI; rw [hfit]; rfl)
                clear hbno
                go_wp2
                generalize wr.alloc (.cells #[.string (phAt ps q).txt, .slice ua sl uc] 65) = WX at *
                generalize wr.heap.size = BX at *
                go_quiet ((go_at_call 94; exact Calls.quiet_of (bkBegins_is _ _ (phAt ps q).sig (zs.drop a) false _ hfit (HSG.out.drewN _) (HDR.out.drewN _))))
                have hbD := below_drewN (Below.refl WX.heap.size WX) nq
                go_wp2
                go_roundw
                case rel => exact ⟨q + 1, -1, by omega, by go_num, rfl, Lib.hid (hbest.out.skip HGQ.out), hblA.trans (hbD.mono hblA.size)⟩
                case measure => simp [intOf]; omega
              | true =>
                have hle := begsB_le hfit
                rw [List.length_drop, ← HN.out, ← HSL.out] at hle
                obtain ⟨en, hen⟩ : ∃ en, en = a + sl := ⟨_, rfl⟩
                have HEN := Lib.hid hen
                have hwe : IntKind.i64.wrap ((a : Int) + (sl : Int)) = (en : Int) := by rw [hen]; exact IntWalk.i64_in _ (by omega)
                have heI : (en : Int) < (m : Int) := by have := HM.out; omega
                have hce := HROWX.out.at_ en (by have := HM.out; omega)
                obtain ⟨fe, hfe⟩ : ∃ fe, fe = f en := ⟨_, rfl⟩
                have HFE2 := Lib.hid hfe
                rw [← hfe] at hce
                clear hen hfe hbno
                by_cases hpos : 0 < fe
                · have HGQ : Hid (goodI ps zs f a q = true) := Lib.hid (by unfold goodI; rw [hfit, ← HSL.out, ← HEN.out, ← HFE2.out]; simp [hpos])
                  have HNX2 : Hid (BestOf ps zs f a (q + 1) (q : Int)) := Lib.hid (by
                    rcases hbest.out with ⟨-, h5⟩ | ⟨b, -, h6, -⟩
                    · exact .inr ⟨q, by omega, rfl, HGQ.out, h5⟩
                    · omega)
                  go_wp2
                  generalize wr.alloc (.cells #[.string (phAt ps q).txt, .slice ua sl uc] 65) = WX at *
                  generalize wr.heap.size = BX at *
                  go_quiet ((go_at_call 94; exact Calls.quiet_of (bkBegins_is _ _ (phAt ps q).sig (zs.drop a) true _ hfit (HSG.out.drewN _) (HDR.out.drewN _))))
                  have hbD := below_drewN (Below.refl WX.heap.size WX) nq
                  go_wp2
                  go_roundw
                  case rel => exact ⟨q + 1, (q : Int), by omega, by go_num, rfl, Lib.hid (HNX2.out), hblA.trans (hbD.mono hblA.size)⟩
                  case measure => simp [intOf]; omega
                · have HGQ : Hid (goodI ps zs f a q = false) := Lib.hid (by unfold goodI; rw [hfit, ← HSL.out, ← HEN.out, ← HFE2.out]; simp; omega)
                  go_wp2
                  generalize wr.alloc (.cells #[.string (phAt ps q).txt, .slice ua sl uc] 65) = WX at *
                  generalize wr.heap.size = BX at *
                  go_quiet ((go_at_call 94; exact Calls.quiet_of (bkBegins_is _ _ (phAt ps q).sig (zs.drop a) true _ hfit (HSG.out.drewN _) (HDR.out.drewN _))))
                  have hbD := below_drewN (Below.refl WX.heap.size WX) nq
                  go_wp2
                  go_roundw
                  case rel => exact ⟨q + 1, -1, by omega, by go_num, rfl, Lib.hid (hbest.out.skip HGQ.out), hblA.trans (hbD.mono hblA.size)⟩
                  case measure => simp [intOf]; omega
            · have HNX3 : Hid (BestOf ps zs f a (q + 1) bz) := Lib.hid (.inr ⟨b, by omega, hbb, hb3, hb4⟩)
              have hbd : decide (bz < 0) = false := by rw [hbb]; simp
              clear hb3 hb4 hbb
              go_wp2
              generalize wr.alloc (.cells #[.string (phAt ps q).txt, .slice ua sl uc] 65) = WX at *
              generalize wr.heap.size = BX at *
              go_quiet (fail)
              have hbD := below_drewN (Below.refl WX.heap.size WX) nq
              go_wp2
              go_roundw
              case rel => exact ⟨q + 1, bz, by omega, by go_num, rfl, Lib.hid (HNX3.out), hblA.trans (hbD.mono hblA.size)⟩
              case measure => simp [intOf]; omega
          · have : q = np := by omega
            subst this
            have hbx := HFG.out _ hbest.out
            subst hbx
            obtain ⟨gp, off, us, hag, hgp, hts, hd0, hd1, hru⟩ := HR.out.at_ HNP.out xp hxpn
            subst hag
            obtain ⟨ua, uc, rfl⟩ := hru.rd.len
            obtain ⟨sl, hsl⟩ : ∃ sl, sl = (phAt ps xp).sig.length := ⟨_, rfl⟩
            have hs3 := (book_sig HB.out (by rw [← HNP.out]; exact hxpn)).2
            have HSL := Lib.hid hsl
            rw [← hsl] at hd1 hs3
            have hxe' : xe = a + sl := by rw [HFE.out, hsl]
            have hwe : IntKind.i64.wrap ((a : Int) + (sl : Int)) = (xe : Int) := by rw [hxe']; exact IntWalk.i64_in _ (by omega)
            have hown2 := hown.later hblq
            have hpI : (xp : Int) < (q : Int) := by omega
            have hcb : (wr.alloc (.cells #[.int .i64 xp] 3)).cell? ⟨wr.heap.size, 0, none⟩ = some (.int .i64 xp) := by simp [go_sem]
            have hszr := hbW1.size
            have c3b : ∀ (vx : Value) (w' : World), Own wr w1.heap.size vx l1 → (wr.alloc (.cells #[.int .i64 xp] 3)).grownBy w' vx.ownBlock → w'.cell? ⟨w.heap.size, 0, none⟩ = some (.slice (some ⟨gp, off, none⟩) q cap) ∧ w'.cell? ⟨gp, off + xp * 2 + 1, none⟩ = some (.slice ua sl uc) := fun vx w' hox hg => by
              have hb := ((Below.refl w1.heap.size wr).alloc hbW1.size (.cells #[.int .i64 xp] 3)).grown hg (by simp; omega) (fun j hj => (hox.lt j hj).1)
              have hb2 := hbW1.trans hb
              exact ⟨by rw [hb2.cell (p := ⟨w.heap.size, 0, none⟩) hsz1]; exact hxw1, by rw [hb2.cell (p := ⟨gp, off + xp * 2 + 1, none⟩) (by show gp < _; have := hb1.size; omega), hb1.cell (p := ⟨gp, off + xp * 2 + 1, none⟩) hgp]; exact hd1⟩
            clear hsl hxe' hru hd0 hd1 hown hbest
            go_wp2_with (at_builtin; refine append_int rfl _ _ rfl w1.heap.size _ l1 (xp : Int) wr.heap.size rfl rfl (hown2.alloc _) hcb (by omega) (by simp; omega) ?_; intro v' w2 hown3 hgrow2; have c3c := c3b _ _ hown2 hgrow2; obtain ⟨c3c, c3d⟩ := c3c)
            go_roundw
            case rel => exact ⟨xe, l1 ++ [(xp : Int)], l3, hx2, rfl, HNX, HP3, HEXN, hLL, hown3, (hbW1.alloc hszr _).grown hgrow2 (by simp; omega) (fun j hj => (hown2.lt j hj).1)⟩
            case measure => simp [intOf]; omega
      · obtain rfl : a = n := by omega
        have HLE : Hid (L = l1) := Lib.hid (by rw [hl12.out, hpath.out.at_end, List.append_nil])
        go_wp2
        go_ret2
        exact ⟨_, by rw [hE.out]; rfl, by rw [hE.out, if_pos rfl, HLE.out]; exact hown.base hB1.size, hB1.trans (hbl.mono hB1.size)⟩
end Go.Proofs.Ytpogpehbkgjiaaa
