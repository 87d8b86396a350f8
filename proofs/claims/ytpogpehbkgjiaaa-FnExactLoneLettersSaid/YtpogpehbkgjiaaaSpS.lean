/- Chapter 3: the reference's least list over letters. Written by a generator of this claim's author, after the walk of the first reading. -/
import Derived.Test.YtpogpehbkgjiaaaSpR
import Derived.Test.YtpogpehbkgjiaaaSp7
namespace Go.Proofs.Ytpogpehbkgjiaaa
open Go.RowKit
set_option linter.unusedSimpArgs false
set_option linter.unusedVariables false

/-- A phrase that fits, and with which the least length is reached. -/
def goodT (ps : List Ph) (s : ByteArray) (r : Nat → Rst) (a i : Nat) : Bool := fitT (phAt ps i).txt s a && (decide (0 ≤ tv (r (a + (phAt ps i).txt.size))) && decide (wrap64 (((phAt ps i).sig.length : Int) + tv (r (a + (phAt ps i).txt.size))) = tv (r a)))
def BestT (ps : List Ph) (s : ByteArray) (r : Nat → Rst) (a q : Nat) (bz : Int) : Prop := (bz = -1 ∧ ∀ j, j < q → goodT ps s r a j = false) ∨ ∃ b : Nat, b < q ∧ bz = b ∧ goodT ps s r a b = true ∧ ∀ j, j < b → goodT ps s r a j = false
theorem BestT.skip {ps : List Ph} {s : ByteArray} {r : Nat → Rst} {a q : Nat} {bz : Int} (h : BestT ps s r a q bz) (hg : goodT ps s r a q = false) : BestT ps s r a (q + 1) bz := by
  rcases h with ⟨h1, h2⟩ | ⟨b, h1, h2, h3, h4⟩
  · refine .inl ⟨h1, fun j hj => ?_⟩
    by_cases e : j = q
    · subst e; exact hg
    · exact h2 j (by omega)
  · exact .inr ⟨b, by omega, h2, h3, h4⟩
theorem BestT.is {ps : List Ph} {s : ByteArray} {r : Nat → Rst} {a p : Nat} {bz : Int} (h : BestT ps s r a ps.length bz) (h1 : p < ps.length) (h2 : goodT ps s r a p = true) (h3 : ∀ j, j < p → goodT ps s r a j = false) : bz = p := by
  rcases h with ⟨-, h5⟩ | ⟨b, h4, h5, h6, h7⟩
  · rw [h5 p h1] at h2; cases h2
  · rcases Nat.lt_trichotomy b p with e | e | e
    · rw [h3 b e] at h6; cases h6
    · omega
    · rw [h7 p e] at h2; cases h2
def FirstT (ps : List Ph) (s : ByteArray) (r : Nat → Rst) : Prop := ∀ a, a < s.size → (r a).ex = true → (r a).ph < ps.length ∧ goodT ps s r a (r a).ph = true ∧ (∀ j, j < (r a).ph → goodT ps s r a j = false) ∧ (r a).nx = a + (phAt ps (r a).ph).txt.size
theorem firstT_is {ps : List Ph} {s : ByteArray} {r : Nat → Rst} (hb : bookB ps = true) (hs : s.size ≤ 40) (hR : Rests ps s.size (txSt ps allS s) r) : FirstT ps s r := by
  intro a ha hx
  have hm := (tx_fold hb (by omega) hR ha ps.length (Nat.le_refl _)).1
  have hra := hR.2 a ha
  have htr : tv (r a) = (r a).len := tv_yes hx
  have hcost : ∀ j, j < ps.length → fitT (phAt ps j).txt s a = true → (r (a + (phAt ps j).txt.size)).ex = true → wrap64 (((phAt ps j).sig.length : Int) + tv (r (a + (phAt ps j).txt.size))) = costJ ps r (fun i => a + (phAt ps i).txt.size) j := by
    intro j hj hf hxj
    have h1 := (fitT_le hf).1
    have h2 := tx_small hb (by omega) hR s.size (a + (phAt ps j).txt.size) (by omega) h1 hxj
    have h3 := book_sig hb hj
    rw [tv_yes hxj, IntWalk.wrap64_in _ (by omega)]; rfl
  have hgood : ∀ j, j < ps.length → (goodT ps s r a j = true ↔ (fitT (phAt ps j).txt s a = true ∧ (r (a + (phAt ps j).txt.size)).ex = true ∧ costJ ps r (fun i => a + (phAt ps i).txt.size) j = (r a).len)) := by
    intro j hj
    unfold goodT
    simp only [Bool.and_eq_true, decide_eq_true_eq]
    constructor
    · rintro ⟨h1, h2, h3⟩
      have hxj : (r (a + (phAt ps j).txt.size)).ex = true := by
        cases h : (r (a + (phAt ps j).txt.size)).ex with
        | true => rfl
        | false => rw [tv_no h] at h2; omega
      rw [hcost j hj h1 hxj, htr] at h3
      exact ⟨h1, hxj, h3⟩
    · rintro ⟨h1, h2, h3⟩
      refine ⟨h1, ?_, ?_⟩
      · rw [tv_yes h2]
        exact (tx_small hb (by omega) hR s.size _ (by omega) (fitT_le h1).1 h2).1
      · rw [hcost j hj h1 h2, h3, htr]
  rw [show (r a) = foldR ps r (stepsOf (fun i => allS i && fitT (phAt ps i).txt s a) (fun i => a + (phAt ps i).txt.size) ps.length) from hra] at hx hgood ⊢
  rcases hm with ⟨h1, -⟩ | ⟨h1, h2, h3, h4, h5, h6, h7⟩
  · rw [h1] at hx; cases hx
  · simp only [Bool.and_eq_true] at h3
    refine ⟨h2, (hgood _ h2).2 ⟨h3.1.2, h3.2, h5.symm⟩, fun j hj => ?_, h4⟩
    cases hg : goodT ps s r a j with
    | false => rfl
    | true =>
      obtain ⟨g1, g2, g3⟩ := (hgood j (by omega)).1 hg
      have := h7 j hj (by simp [g1, g2])
      omega

set_option maxRecDepth 100000 in
set_option maxHeartbeats 1000000 in
theorem spSpell_any (v : Value) (ps : List Ph) (s : ByteArray) (r : Nat → Rst) (L : List Int) (w : World) (hb : bookB ps = true) (hs : s.size ≤ 40) (hr : RdPs w v ps) (hR : Rests ps s.size (txSt ps allS s) r)
    (hL : (r 0).ex = true → PathTo r s.size 0 L) :
    Calls Try.prog 49 #[.agg #[v], .string s] w (LeastPost r L w) := by
  obtain ⟨a0, cap, rfl, -⟩ := hr.len
  have hp40 := (bookB_len hb).2
  obtain ⟨np, hnp⟩ : ∃ np, np = ps.length := ⟨_, rfl⟩
  have HNP := Lib.hid hnp
  have HB := Lib.hid hb
  have HF := Lib.hid hR
  have HG := Lib.hid (firstT_is hb hs hR)
  have HLD := Lib.hid (rests_lead hR (txSt_ahead hb allS s))
  have HPT := Lib.hid hL
  have hsm : s.size ≤ maxLen := by unfold maxLen; omega
  have hb0 := (Below.refl w.heap.size w).alloc (Nat.le_refl _) (.cells #[.slice a0 ps.length cap] 31)
  have HR := Lib.hid (hr.later hb0)
  have hx0 : (w.alloc (.cells #[.slice a0 ps.length cap] 31)).cell? ⟨w.heap.size, 0, none⟩ = some (.slice a0 ps.length cap) := by simp [go_sem]
  have hsz0 : w.heap.size < (w.alloc (.cells #[.slice a0 ps.length cap] 31)).heap.size := by simp
  rw [← hnp] at hb0 hx0 hsz0 HR hp40 ⊢
  clear hnp hb hr hR hL
  go_enter Try.func49, Try.ntmps49
  go_wp2_with fail
  generalize w.alloc (.cells #[.slice a0 np cap] 31) = W at *
  refine (spTable_any _ ps s r _ HB.out hs HR.out HF.out).mono ?_
  rintro e w1 ⟨g, rfl, hrow, hb1⟩
  have hB1 := hb0.trans (hb1.mono hb0.size)
  have hg1 := hrow.lt.2
  obtain ⟨m, hm⟩ : ∃ m, m = s.size + 1 := ⟨_, rfl⟩
  have HM := Lib.hid hm
  rw [← hm] at hrow
  rw [← hm]
  have HROW := Lib.hid hrow
  have hc0 : w1.cell? ⟨g, 0, none⟩ = some (.int .i64 (tv (r 0))) := hrow.at_ 0 (by omega)
  have hm2 : (0 : Int) < (m : Int) := by omega
  have hxw1 := hx0 ▸ hb1.cell (p := ⟨w.heap.size, 0, none⟩) hsz0
  have hsz1 : w.heap.size < w1.heap.size := Nat.lt_of_lt_of_le hsz0 hb1.size
  clear hm hrow hx0
  cases hex : (r 0).ex with
  | false =>
    rw [tv_no hex] at hc0
    have hE := Lib.hid hex
    clear hex
    go_wp2
    go_ret2
    exact ⟨_, by rw [hE.out]; rfl, by rw [hE.out, if_neg (by simp)]; exact Own.nil _ _, hB1⟩
  | true =>
    have hE := Lib.hid hex
    obtain ⟨t0, ht0⟩ : ∃ t0, t0 = tv (r 0) := ⟨_, rfl⟩
    have hn0 : ¬ t0 < 0 := by
      have := (tx_small HB.out (by omega) HF.out s.size 0 (by omega) (by omega) hex).1
      rw [ht0, tv_yes hex]; omega
    rw [← ht0] at hc0
    clear ht0
    have HPATH := Lib.hid (HPT.out hex)
    clear hex
    go_wp2
    go_loopw [7, 8] (fun vl i wr => ∃ (a : Nat) (l1 l2 : List Int), a ≤ s.size ∧ i = .int .i64 a ∧ Hid (L = l1 ++ l2) ∧ Hid (PathTo r s.size a l2) ∧ Hid ((r a).ex = true) ∧ l1.length ≤ 60 ∧ Own wr w1.heap.size vl l1 ∧ Below w1.heap.size w1 wr) (fun _ i _ => s.size - (intOf i).toNat)
    case atStart => exact ⟨0, [], L, Nat.zero_le _, rfl, Lib.hid rfl, HPATH, hE, by simp, Own.nil _ _, Below.refl _ _⟩
    case round =>
      obtain ⟨a, l1, l2, han, rfl, hl12, hpath, hexa, hl1, hown, hbl⟩ := hrel
      by_cases hlt : a < s.size
      · obtain ⟨hx1, hx2, l3, hl2, hp3⟩ := hpath.out.go hlt
        obtain ⟨hfg1, hfg2, hfg3, hfg4⟩ := HG.out a hlt hexa.out
        have hexn := (HLD.out a hlt hexa.out).2.2
        obtain ⟨xp, hxp⟩ : ∃ xp, xp = (r a).ph := ⟨_, rfl⟩
        obtain ⟨xe, hxe⟩ : ∃ xe, xe = (r a).nx := ⟨_, rfl⟩
        rw [← hxp] at hfg1 hfg2 hfg3 hfg4
        rw [← hxe] at hx1 hx2 hfg4 hexn
        have HNX : Hid (L = (l1 ++ [(xp : Int)]) ++ l3) := Lib.hid (by rw [hl12.out, hl2, hxp]; simp)
        have HP3 : Hid (PathTo r s.size xe l3) := Lib.hid (by rw [hxe]; exact hp3)
        have HEXN := Lib.hid hexn
        have HFG : Hid (∀ bz, BestT ps s r a np bz → bz = xp) := Lib.hid fun bz h => by rw [HNP.out] at h; exact h.is hfg1 hfg2 hfg3
        have HFE := Lib.hid hfg4
        have hxpn : xp < np := by rw [HNP.out]; exact hfg1
        have hLL : (l1 ++ [(xp : Int)]).length ≤ 60 := by have := (HPATH.out).len; rw [HNX.out] at this; simp at this ⊢; omega
        have hxw := hxw1 ▸ hbl.cell (p := ⟨w.heap.size, 0, none⟩) hsz1
        have hlI : (a : Int) < (s.size : Int) := by omega
        have hat1 : a ≤ s.size := by omega
        have hat2 : (a : Int) ≤ (s.size : Int) := by omega
        have hamI : (a : Int) < (m : Int) := by have := HM.out; omega
        obtain ⟨ta, hta⟩ : ∃ ta, ta = tv (r a) := ⟨_, rfl⟩
        have HTA := Lib.hid hta
        clear hta
        have hszl := hbl.size
        clear hxp hxe hl2 hp3 hpath hfg1 hfg2 hfg3 hfg4 hexn
        rename World => WL
        go_wp2
        go_loopw [9, 26] (fun bv i wr => ∃ (q : Nat) (bz : Int), q ≤ np ∧ i = .int .i64 q ∧ bv = .int .i64 bz ∧ Hid (BestT ps s r a q bz) ∧ Below WL.heap.size WL wr) (fun _ i _ => np - (intOf i).toNat)
        case atStart => exact ⟨0, -1, Nat.zero_le _, rfl, rfl, Lib.hid (.inl ⟨rfl, fun j hj => by omega⟩), Below.refl _ _⟩
        case round =>
          obtain ⟨q, bz, hq, rfl, rfl, hbest, hblq⟩ := hrel
          have hbW1 := hbl.trans (hblq.mono hbl.size)
          have hbW := hb1.trans (hbW1.mono hb1.size)
          by_cases hltq : q < np
          · obtain ⟨gp, off, us, hag, hgp, hts, hd0, hd1, hru⟩ := (HR.out.below hbW (Nat.le_refl _)).at_ HNP.out q hltq
            subst hag
            obtain ⟨ua, uc, rfl⟩ := hru.rd.len
            obtain ⟨T, hT⟩ : ∃ T, T = (phAt ps q).txt := ⟨_, rfl⟩
            obtain ⟨sl, hsl⟩ : ∃ sl, sl = (phAt ps q).sig.length := ⟨_, rfl⟩
            have HT := Lib.hid hT
            have HSL := Lib.hid hsl
            have ht12 := (book_tx HB.out (i := q) (by rw [← HNP.out]; exact hltq)).2
            have hs3 := (book_sig HB.out (i := q) (by rw [← HNP.out]; exact hltq)).2
            rw [← hT] at hd0 hts ht12
            rw [← hsl] at hd1 hs3
            have hbA := (Below.refl wr.heap.size wr).alloc (Nat.le_refl _) (.cells #[.string T, .slice ua sl uc] 65)
            have hblA := hblq.trans (hbA.mono hblq.size)
            have hx1' : (wr.alloc (.cells #[.string T, .slice ua sl uc] 65)).cell? ⟨wr.heap.size, 0, none⟩ = some (.string T) := by simp [go_sem]
            have hx2' : (wr.alloc (.cells #[.string T, .slice ua sl uc] 65)).cell? ⟨wr.heap.size, 1, none⟩ = some (.slice ua sl uc) := by simp [go_sem]
            have HROWX := Lib.hid (HROW.out.below (hbW1.trans (hbA.mono hbW1.size)) (fun k hk => by cases hk; exact hg1))
            have hcaX := HROWX.out.at_ a (by have := HM.out; omega)
            rw [← HTA.out] at hcaX
            clear hru hsl hT
            rcases hbest.out with ⟨hm1, hbno⟩ | ⟨b, hbq, hbb, hb3, hb4⟩
            · subst hm1
              cases hfit : fitT T s a with
              | false =>
                have HGQ : Hid (goodT ps s r a q = false) := Lib.hid (by unfold goodT; rw [← HT.out, hfit]; rfl)
                clear hbno
                go_wp2
                generalize wr.alloc (.cells #[.string T, .slice ua sl uc] 65) = WX at *
                generalize wr.heap.size = BX at *
                go_quiet ((go_at_call 61; exact Calls.quiet_of_same (spBegins_is s T a false _ hat1 hfit hsm hts)))
                have hbD := below_drewN (Below.refl WX.heap.size WX) nq
                go_wp2
                go_roundw
                case rel => exact ⟨q + 1, -1, by omega, by go_num, rfl, Lib.hid (hbest.out.skip HGQ.out), hblA.trans (hbD.mono hblA.size)⟩
                case measure => simp [intOf]; omega
              | true =>
                have hle := (fitT_le hfit).1
                obtain ⟨en, hen⟩ : ∃ en, en = a + T.size := ⟨_, rfl⟩
                have HEN := Lib.hid hen
                have hwe : IntKind.i64.wrap ((a : Int) + (T.size : Int)) = (en : Int) := by rw [hen]; exact IntWalk.i64_in _ (by omega)
                have heI : (en : Int) < (m : Int) := by have := HM.out; omega
                have hce := HROWX.out.at_ en (by have := HM.out; omega)
                obtain ⟨te, hte⟩ : ∃ te, te = tv (r en) := ⟨_, rfl⟩
                have HTE := Lib.hid hte
                rw [← hte] at hce
                clear hen hte hbno
                have HGD : Hid (goodT ps s r a q = (decide (0 ≤ te) && decide (wrap64 ((sl : Int) + te) = ta))) := Lib.hid (by
                  unfold goodT; rw [← HT.out, hfit, ← HSL.out, ← HEN.out, ← HTE.out, ← HTA.out, Bool.true_and])
                by_cases hpos : te < 0
                · have hpd : decide (0 ≤ te) = false := by simp; omega
                  have HGQ : Hid (goodT ps s r a q = false) := Lib.hid (by rw [HGD.out, hpd]; rfl)
                  go_wp2
                  generalize wr.alloc (.cells #[.string T, .slice ua sl uc] 65) = WX at *
                  generalize wr.heap.size = BX at *
                  go_quiet ((go_at_call 61; exact Calls.quiet_of_same (spBegins_is s T a true _ hat1 hfit hsm hts)))
                  have hbD := below_drewN (Below.refl WX.heap.size WX) nq
                  go_wp2
                  go_roundw
                  case rel => exact ⟨q + 1, -1, by omega, by go_num, rfl, Lib.hid (hbest.out.skip HGQ.out), hblA.trans (hbD.mono hblA.size)⟩
                  case measure => simp [intOf]; omega
                · have hpp : 0 ≤ te := by omega
                  have HTEB : Hid (te ≤ 300) := Lib.hid (by
                    cases hx : (r en).ex with
                    | false => have := HTE.out; rw [tv_no hx] at this; omega
                    | true =>
                      have h := tx_small HB.out (by omega) HF.out s.size en (by omega) (by have := HM.out; omega) hx
                      have e := HTE.out; rw [tv_yes hx] at e; omega)
                  obtain ⟨nw, hnw⟩ : ∃ nw : Int, nw = (sl : Int) + te := ⟨_, rfl⟩
                  have hwn : IntKind.i64.wrap ((sl : Int) + te) = nw := by rw [hnw]; exact IntWalk.i64_in _ (by have := HTEB.out; omega)
                  have HWN : Hid (wrap64 ((sl : Int) + te) = nw) := Lib.hid (by rw [hnw]; exact IntWalk.wrap64_in _ (by have := HTEB.out; omega))
                  clear hnw
                  by_cases heq : nw = ta
                  · have HGQ : Hid (goodT ps s r a q = true) := Lib.hid (by rw [HGD.out, HWN.out]; simp [heq, hpp])
                    have HNX2 : Hid (BestT ps s r a (q + 1) (q : Int)) := Lib.hid (by
                      rcases hbest.out with ⟨-, h5⟩ | ⟨b, -, h6, -⟩
                      · exact .inr ⟨q, by omega, rfl, HGQ.out, h5⟩
                      · omega)
                    have hbeq : (nw == ta) = true := by simpa using heq
                    go_wp2
                    generalize wr.alloc (.cells #[.string T, .slice ua sl uc] 65) = WX at *
                    generalize wr.heap.size = BX at *
                    go_quiet ((go_at_call 61; exact Calls.quiet_of_same (spBegins_is s T a true _ hat1 hfit hsm hts)))
                    have hbD := below_drewN (Below.refl WX.heap.size WX) nq
                    go_wp2
                    go_roundw
                    case rel => exact ⟨q + 1, (q : Int), by omega, by go_num, rfl, Lib.hid (HNX2.out), hblA.trans (hbD.mono hblA.size)⟩
                    case measure => simp [intOf]; omega
                  · have HGQ : Hid (goodT ps s r a q = false) := Lib.hid (by rw [HGD.out, HWN.out]; simp [heq])
                    have hbeq : (nw == ta) = false := by simpa using heq
                    go_wp2
                    generalize wr.alloc (.cells #[.string T, .slice ua sl uc] 65) = WX at *
                    generalize wr.heap.size = BX at *
                    go_quiet ((go_at_call 61; exact Calls.quiet_of_same (spBegins_is s T a true _ hat1 hfit hsm hts)))
                    have hbD := below_drewN (Below.refl WX.heap.size WX) nq
                    go_wp2
                    go_roundw
                    case rel => exact ⟨q + 1, -1, by omega, by go_num, rfl, Lib.hid (hbest.out.skip HGQ.out), hblA.trans (hbD.mono hblA.size)⟩
                    case measure => simp [intOf]; omega
            · have HNX3 : Hid (BestT ps s r a (q + 1) bz) := Lib.hid (.inr ⟨b, by omega, hbb, hb3, hb4⟩)
              have hbd : decide (bz < 0) = false := by rw [hbb]; simp
              clear hb3 hb4 hbb
              go_wp2
              generalize wr.alloc (.cells #[.string T, .slice ua sl uc] 65) = WX at *
              generalize wr.heap.size = BX at *
              go_quiet (fail)
              have hbD := below_drewN (Below.refl WX.heap.size WX) nq
              go_wp2
              go_roundw
              case rel => exact ⟨q + 1, bz, by omega, by go_num, rfl, Lib.hid (HNX3.out), hblA.trans (hbD.mono hblA.size)⟩
              case measure => simp [intOf]; omega
          · have : q = np := by omega
            subst this
            have hbx := HFG.out _ hbest.out
            subst hbx
            obtain ⟨gp, off, us, hag, hgp, hts, hd0, hd1, hru⟩ := HR.out.at_ HNP.out xp hxpn
            subst hag
            obtain ⟨ua, uc, rfl⟩ := hru.rd.len
            obtain ⟨T, hsl⟩ : ∃ T, T = (phAt ps xp).txt := ⟨_, rfl⟩
            have hs3 := (book_tx HB.out (i := xp) (by rw [← HNP.out]; exact hxpn)).2
            have HSL := Lib.hid hsl
            rw [← hsl] at hd0 hs3
            have hxe' : xe = a + T.size := by rw [HFE.out, hsl]
            have hwe : IntKind.i64.wrap ((a : Int) + (T.size : Int)) = (xe : Int) := by rw [hxe']; exact IntWalk.i64_in _ (by omega)
            have hown2 := hown.later hblq
            have hpI : (xp : Int) < (q : Int) := by omega
            have hcb : (wr.alloc (.cells #[.int .i64 xp] 3)).cell? ⟨wr.heap.size, 0, none⟩ = some (.int .i64 xp) := by simp [go_sem]
            have hszr := hbW1.size
            have c3b : ∀ (vx : Value) (w' : World), Own wr w1.heap.size vx l1 → (wr.alloc (.cells #[.int .i64 xp] 3)).grownBy w' vx.ownBlock → w'.cell? ⟨w.heap.size, 0, none⟩ = some (.slice (some ⟨gp, off, none⟩) q cap) ∧ w'.cell? ⟨gp, off + xp * 2, none⟩ = some (.string T) := fun vx w' hox hg => by
              have hb := ((Below.refl w1.heap.size wr).alloc hbW1.size (.cells #[.int .i64 xp] 3)).grown hg (by simp; omega) (fun j hj => (hox.lt j hj).1)
              have hb2 := hbW1.trans hb
              exact ⟨by rw [hb2.cell (p := ⟨w.heap.size, 0, none⟩) hsz1]; exact hxw1, by rw [hb2.cell (p := ⟨gp, off + xp * 2, none⟩) (by show gp < _; have := hb1.size; omega), hb1.cell (p := ⟨gp, off + xp * 2, none⟩) hgp]; exact hd0⟩
            clear hsl hxe' hru hd0 hd1 hown hbest
            go_wp2_with (at_builtin; refine append_int rfl _ _ rfl w1.heap.size _ l1 (xp : Int) wr.heap.size rfl rfl (hown2.alloc _) hcb (by omega) (by simp; omega) ?_; intro v' w2 hown3 hgrow2; have c3c := c3b _ _ hown2 hgrow2; obtain ⟨c3c, c3d⟩ := c3c)
            go_roundw
            case rel => exact ⟨xe, l1 ++ [(xp : Int)], l3, hx2, rfl, HNX, HP3, HEXN, hLL, hown3, (hbW1.alloc hszr _).grown hgrow2 (by simp; omega) (fun j hj => (hown2.lt j hj).1)⟩
            case measure => simp [intOf]; omega
      · obtain rfl : a = s.size := by omega
        have HLE : Hid (L = l1) := Lib.hid (by rw [hl12.out, hpath.out.at_end, List.append_nil])
        go_wp2
        go_ret2
        exact ⟨_, by rw [hE.out]; rfl, by rw [hE.out, if_pos rfl, HLE.out]; exact hown.base hB1.size, hB1.trans (hbl.mono hB1.size)⟩
end Go.Proofs.Ytpogpehbkgjiaaa
