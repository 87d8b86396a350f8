/- Chapter 2: a phrase is added, by the specification. -/
import Derived.Test.YtkknmjioihnpkaaBkX8
namespace Go.Proofs.Ytkknmjioihnpkaa
open Go.RowKit
set_option linter.unusedSimpArgs false
set_option linter.unusedVariables false

set_option maxRecDepth 100000 in
set_option maxHeartbeats 1600000 in
theorem specAdd_any (v u0 : Value) (ps : List Ph) (s : ByteArray) (zs : List Int) (w : World) (hs : s.size ≤ 1048576) (hzl : zs.length ≤ 1048576) (hz : SmallPs ps) (hr : RdPs w v ps) (hru : RdC w u0 zs) :
    Calls Try.prog 43 #[.agg #[v], .agg #[.string s, u0]] w (CopyPost (addC ps ⟨s, zs⟩) (addL ps ⟨s, zs⟩) w) := by
  have hsm : s.size ≤ maxLen := by unfold maxLen; omega
  obtain ⟨a, cap, rfl, hcap⟩ := hr.len
  obtain ⟨ua, uc, rfl⟩ := hru.rd.len
  have hbW := (((Below.refl w.heap.size w).alloc (Nat.le_refl _) (.cells #[.slice a ps.length cap] 25)).alloc (by simp) (.cells #[.string s, .slice ua zs.length uc] 33)).alloc (by simp; omega) (.cells #[.slice none 0 0] 25)
  have hrW := hr.later hbW
  have huW := hru.later hbW
  have hsW : (((w.alloc (.cells #[.slice a ps.length cap] 25)).alloc (.cells #[.string s, .slice ua zs.length uc] 33)).alloc (.cells #[.slice none 0 0] 25)).heap.size = w.heap.size + 1 + 1 + 1 := by simp
  have hW0 : (((w.alloc (.cells #[.slice a ps.length cap] 25)).alloc (.cells #[.string s, .slice ua zs.length uc] 33)).alloc (.cells #[.slice none 0 0] 25)).cell? ⟨w.heap.size, 0, none⟩ = some (.slice a ps.length cap) := by simp [go_sem]
  have hW1 : (((w.alloc (.cells #[.slice a ps.length cap] 25)).alloc (.cells #[.string s, .slice ua zs.length uc] 33)).alloc (.cells #[.slice none 0 0] 25)).cell? ⟨w.heap.size + 1, 0, none⟩ = some (.string s) := by simp [go_sem]
  have hW2 : (((w.alloc (.cells #[.slice a ps.length cap] 25)).alloc (.cells #[.string s, .slice ua zs.length uc] 33)).alloc (.cells #[.slice none 0 0] 25)).cell? ⟨w.heap.size + 1, 1, none⟩ = some (.slice ua zs.length uc) := by simp [go_sem]
  have hW3 : (((w.alloc (.cells #[.slice a ps.length cap] 25)).alloc (.cells #[.string s, .slice ua zs.length uc] 33)).alloc (.cells #[.slice none 0 0] 25)).cell? ⟨w.heap.size + 1 + 1, 0, none⟩ = some (.slice none 0 0) := by simp [go_sem]
  have hW4 : (((w.alloc (.cells #[.slice a ps.length cap] 25)).alloc (.cells #[.string s, .slice ua zs.length uc] 33)).alloc (.cells #[.slice none 0 0] 25)).frozen? ⟨w.heap.size + 1 + 1, 0, none⟩ = false := by simp [go_sem]
  go_enter Try.func43, Try.ntmps43
  go_wp2_with fail
  generalize (((w.alloc (.cells #[.slice a ps.length cap] 25)).alloc (.cells #[.string s, .slice ua zs.length uc] 33)).alloc (.cells #[.slice none 0 0] 25)) = W at *
  have HK : Hid (∀ x : World, Below W.heap.size W x → x.cell? ⟨w.heap.size, 0, none⟩ = some (.slice a ps.length cap) ∧ x.cell? ⟨w.heap.size + 1, 0, none⟩ = some (.string s) ∧ x.cell? ⟨w.heap.size + 1, 1, none⟩ = some (.slice ua zs.length uc) ∧ x.cell? ⟨w.heap.size + 1 + 1, 0, none⟩ = some (.slice none 0 0) ∧ x.frozen? ⟨w.heap.size + 1 + 1, 0, none⟩ = false ∧ w.heap.size + 1 + 1 < x.heap.size) := Lib.hid fun x h =>
    ⟨by rw [h.cell (p := ⟨w.heap.size, 0, none⟩) (by show w.heap.size < W.heap.size; omega)]; exact hW0, by rw [h.cell (p := ⟨w.heap.size + 1, 0, none⟩) (by show w.heap.size + 1 < W.heap.size; omega)]; exact hW1, by rw [h.cell (p := ⟨w.heap.size + 1, 1, none⟩) (by show w.heap.size + 1 < W.heap.size; omega)]; exact hW2, by rw [h.cell (p := ⟨w.heap.size + 1 + 1, 0, none⟩) (by show w.heap.size + 1 + 1 < W.heap.size; omega)]; exact hW3, by rw [h.frozen (p := ⟨w.heap.size + 1 + 1, 0, none⟩) (by show w.heap.size + 1 + 1 < W.heap.size; omega)]; exact hW4, by have := h.size; omega⟩
  clear hW0 hW1 hW2 hW3 hW4
  refine (bkGood_any _ ps _ hrW).mono ?_
  rintro e w1 ⟨rfl, hb1⟩
  cases hbk : bookB ps with
  | false =>
    obtain ⟨k0, k1, k2, k3, k4, k5⟩ := HK.out _ hb1
    have HF := Lib.hid (addC_no (p := ⟨s, zs⟩) hbk)
    go_wp2
    refine bodyPost_ret (v := .tuple #[.agg #[.slice none 0 0], .bool false]) (by simp [results, Try.results43, go_sem, k3, k4, k5]) rfl ⟨.slice none 0 0, by rw [HF.out], by rw [okPs_no HF.out]; exact OwnPs.nil _ _, ?_⟩
    exact (hbW.trans (hb1.mono hbW.size)).setCell (p := ⟨w.heap.size + 1 + 1, 0, none⟩) (by show w.heap.size ≤ w.heap.size + 1 + 1; omega) _
  | true =>
    have HBK := Lib.hid hbk
    have hn40 := (bookB_len HBK.out).2
    have hn1 := (bookB_len HBK.out).1
    have HF := Lib.hid (addC_yes (p := ⟨s, zs⟩) HBK.out)
    have HSD := Lib.hid (addL_small (p := ⟨s, zs⟩) hz HBK.out ⟨hs, hzl⟩)
    obtain ⟨n, hn⟩ : ∃ n, n = ps.length := ⟨_, rfl⟩
    have HN := Lib.hid hn
    obtain ⟨g, off, rfl⟩ := hrW.some_ (by omega)
    rw [← hn] at hcap hn40 hn1
    have HRW : Hid (RdPs W (.slice (some ⟨g, off, none⟩) n cap) ps) := Lib.hid (by rw [hn]; exact hrW)
    clear hn hbk
    go_wp2
    go_loopw [6] (fun u wr => ∃ i : Nat, i ≤ n ∧ u = .int .i64 i ∧ Below W.heap.size W wr ∧ Hid (∀ m, m < i → lessB (phAt ps m).txt s = true)) (fun u wr => n - (intOf u).toNat)
    case atStart => exact ⟨0, Nat.zero_le _, rfl, hb1, Lib.hid fun m hm => by omega⟩
    case round =>
      obtain ⟨i, hi1, rfl, hbl, hless⟩ := hrel
      obtain ⟨k0, k1, k2, k3, k4, k5⟩ := HK.out _ hbl
      rw [← HN.out] at k0
      by_cases hlt : i < n
      · obtain ⟨g', off', u, hga, hg, hts, hc0, hc1, hruu⟩ := (HRW.out.later hbl).at_ HN.out i hlt
        obtain ⟨rfl, rfl⟩ : g = g' ∧ off = off' := by simpa using hga
        cases hls : Op.bytesLess (phAt ps i).txt.toList s.toList with
        | true =>
          have hnext : Hid (∀ m, m < i + 1 → lessB (phAt ps m).txt s = true) := Lib.hid fun m hm => by
            by_cases e : m = i
            · subst e; exact hls
            · exact hless.out m (by omega)
          go_wp2
          go_quiet (fail)
          go_wp2
          go_roundw
          case rel => exact ⟨i + 1, by omega, by go_num, below_drewN hbl _, hnext⟩
          case measure => simp [intOf]; omega
        | false =>
          have hix : addIdx ps s = i := addIdx_of (by rw [← HN.out]; omega) hless.out (fun _ => hls)
          have HD : Hid (addL ps ⟨s, zs⟩ = ps.take i ++ [⟨s, zs⟩] ++ ps.drop i) := Lib.hid (by rw [← hix]; rfl)
          have HSM : Hid (SmallPs (ps.take i ++ [⟨s, zs⟩] ++ ps.drop i)) := Lib.hid (by rw [← HD.out]; exact HSD.out)
          clear hix hless
          go_wp2
          go_quiet (fail)
          have hbl := below_drewN hbl nq
          generalize wr.drewN nq = wx at *
          clear k0 k1 k2 k3 k4 k5 hc0 hc1 hruu
          have hbD := hbl.drew
          have R0 : Hid (RdPs wx.drew (.slice (some ⟨g, off, none⟩) n cap) ps) := Lib.hid (by rw [HN.out]; exact hrW.later hbD)
          have R1 : Hid (RdPs wx.drew (.slice (some ⟨g, off, none⟩) i cap) (ps.take i)) := Lib.hid (R0.out.take i (by omega))
          have RU : Hid (RdC wx.drew (.slice ua zs.length uc) zs) := Lib.hid (huW.later hbD)
          have hLD : Hid ((ps.take i).length ≤ 40 ∧ (ps.drop i).length ≤ 40) := Lib.hid (by have := HN.out; simp; omega)
          have HTS : Hid (SmallPs (ps.take i)) := Lib.hid (hz.take i)
          have hi00 : (0 : Int) ≤ (i : Int) := by omega
          have hic0 : (i : Int) ≤ (cap : Int) := by omega
          have hin0 : (i : Int) ≤ (n : Int) := by omega
          have hnc0 : (n : Int) ≤ (cap : Int) := by omega
          have hic1 : i ≤ cap := by omega
          have K1 : Hid (∀ x : World, Below wx.drew.heap.size wx.drew x → x.cell? ⟨w.heap.size, 0, none⟩ = some (.slice (some ⟨g, off, none⟩) n cap) ∧ x.cell? ⟨w.heap.size + 1, 0, none⟩ = some (.string s) ∧ x.cell? ⟨w.heap.size + 1, 1, none⟩ = some (.slice ua zs.length uc) ∧ x.cell? ⟨w.heap.size + 1 + 1, 0, none⟩ = some (.slice none 0 0) ∧ x.frozen? ⟨w.heap.size + 1 + 1, 0, none⟩ = false ∧ w.heap.size + 1 + 1 < x.heap.size) := Lib.hid fun x h => by
            have := HK.out x (hbD.trans (h.mono hbD.size))
            rw [← HN.out] at this
            exact this
          have K0 := (K1.out _ (Below.refl _ _)).1
          have K00 := (K1.out _ (Below.refl _ _)).2.1
          have K01 := (K1.out _ (Below.refl _ _)).2.2.1
          simp [go_sem] at K0 K00 K01
          have hne1 : ¬ (w.heap.size + 1 + 1 = w.heap.size) := by omega
          have hne2 : ¬ (w.heap.size = w.heap.size + 1 + 1) := by omega
          have hDs : W.heap.size ≤ wx.drew.heap.size := hbD.size
          clear hrW huW hr hru HRW
          have hcc : ¬ cap = i := by omega
          have RD : Hid (RdPs wx.drew (.slice (some ⟨g, off + i * 2, none⟩) (n - i) (cap - i)) (ps.drop i)) := Lib.hid (R0.out.drop HN.out i (by omega) (by omega))
          have hbAX : Below wx.drew.heap.size wx.drew (wx.alloc (.cells #[.string s, .slice ua zs.length uc] 33)).drew := (Below.refl wx.drew.heap.size wx.drew).alloc (Nat.le_refl _) (.cells #[.string s, .slice ua zs.length uc] 33)
          have hX : Hid (∀ y : World, Below (wx.alloc (.cells #[.string s, .slice ua zs.length uc] 33)).drew.heap.size (wx.alloc (.cells #[.string s, .slice ua zs.length uc] 33)).drew y → y.cell? ⟨wx.heap.size, 0, none⟩ = some (.string s) ∧ y.cell? ⟨wx.heap.size, 1, none⟩ = some (.slice ua zs.length uc)) := Lib.hid fun y h => ⟨by rw [h.cell (p := ⟨wx.heap.size, 0, none⟩) (by simp)]; simp [go_sem], by rw [h.cell (p := ⟨wx.heap.size, 1, none⟩) (by simp)]; simp [go_sem]⟩
          have HOW : Hid (∀ x : World, Below wx.drew.heap.size wx.drew x → Calls Try.prog 74 #[.slice (some ⟨g, off, none⟩) i cap] x fun e w' => ∃ v', e = .returned v' ∧ RowG wx.drew w' wx.drew.heap.size v' (ps.take i) ∧ Below x.heap.size x w') := Lib.hid fun x h => (bkOwn_any _ _ _ HTS.out (R1.out.later h)).mono fun e w' ⟨v', he, ho, hb⟩ => ⟨v', he, (ho.rowG (h.trans (hb.mono h.size)) h.size hb.size).base (Nat.le_refl _) h.size, hb⟩
          have HIF : Hid (∀ (v : Value) (x : World), RdPs x v (ps.take i ++ [⟨s, zs⟩] ++ ps.drop i) → Calls Try.prog 73 #[v] x (CopyPost (bookB (ps.take i ++ [⟨s, zs⟩] ++ ps.drop i)) (ps.take i ++ [⟨s, zs⟩] ++ ps.drop i) x)) := Lib.hid fun v x h => bkIf_any _ _ _ HSM.out h
          have HL1 : Hid ((ps.take i).length ≤ 1048576) := Lib.hid (by have := hLD.out; omega)
          have HL2 : Hid ((ps.take i ++ [(⟨s, zs⟩ : Ph)]).length + (ps.drop i).length ≤ 4194304) := Lib.hid (by have := hLD.out; simp only [List.length_append, List.length_singleton]; omega)
          have KS : Hid (∀ x : World, Below wx.drew.heap.size wx.drew x → x.cell? ⟨w.heap.size, 0, none⟩ = some (.slice (some ⟨g, off, none⟩) n cap) ∧ x.cell? ⟨w.heap.size + 1, 0, none⟩ = some (.string s) ∧ x.cell? ⟨w.heap.size + 1, 1, none⟩ = some (.slice ua zs.length uc)) := Lib.hid fun x h => ⟨(K1.out x h).1, (K1.out x h).2.1, (K1.out x h).2.2.1⟩
          have KT : Hid (∀ (x : World) (q : Value), Below wx.drew.heap.size wx.drew x → (x.setCell ⟨w.heap.size + 1 + 1, 0, none⟩ q).cell? ⟨w.heap.size, 0, none⟩ = some (.slice (some ⟨g, off, none⟩) n cap) ∧ (x.setCell ⟨w.heap.size + 1 + 1, 0, none⟩ q).cell? ⟨w.heap.size + 1, 0, none⟩ = some (.string s) ∧ (x.setCell ⟨w.heap.size + 1 + 1, 0, none⟩ q).cell? ⟨w.heap.size + 1, 1, none⟩ = some (.slice ua zs.length uc)) := Lib.hid fun x q h => by
            rw [setc_far (by omega), setc_far (by omega), setc_far (by omega)]
            exact KS.out x h
          go_wp2_with fail
          go_region_held3 (fun w' => w'.cell? ⟨w.heap.size, 0, none⟩ = some (.slice (some ⟨g, off, none⟩) n cap) ∧ w'.cell? ⟨w.heap.size + 1, 0, none⟩ = some (.string s) ∧ w'.cell? ⟨w.heap.size + 1, 1, none⟩ = some (.slice ua zs.length uc))
            (first | go_keep | exact KS.out _ hrw2.below | exact KS.out _ hrow4.below | exact KS.out _ hrow5.below | exact KS.out _ hb3 | exact KT.out _ _ hb3 | (refine ⟨?_, ?_, ?_⟩ <;> first | exact (KT.out _ _ hb3).1 | exact (KT.out _ _ hb3).2.1 | exact (KT.out _ _ hb3).2.2) | (go_split_ands; refine ⟨?_, ?_, ?_⟩ <;> first | exact (KT.out _ _ hb3).1 | exact (KT.out _ _ hb3).2.1 | exact (KT.out _ _ hb3).2.2))
            (first | (go_at_call 74; refine (HOW.out _ (Below.refl _ _)).mono ?_; rintro e w2 ⟨v2, rfl, hrw2, hb2⟩) | (go_at_call 74; refine (HOW.out _ hbAX).mono ?_; rintro e w2 ⟨v2, rfl, hrw2, hb2⟩; have hX0 := hX.out _ hb2) | (go_at_call 73; refine (HIF.out _ _ hrow5.rd).mono ?_; rintro e w3 ⟨v3, rfl, ho3, hb3'⟩; have hb3 := hrow5.below.trans (hb3'.mono hrow5.below.size); obtain ⟨a3, cap3, rfl, -⟩ := ho3.rd.len; have q3 := K1.out _ hb3; have q4 := q3.2.2.2.1; have q5 := q3.2.2.2.2.1; have q6 := q3.2.2.2.2.2) | (refine step_append_rowOne (by rfl) _ _ (by rfl) wx.drew.heap.size _ (ps.take i) ⟨s, zs⟩ (.slice ua zs.length uc) wx.heap.size (by rfl) (by rfl) hrw2 hX0.1 hX0.2 RU.out hsm HL1.out ?_; intro v4 w4 hrow4 hg4) | (refine step_append_rowOne (by rfl) _ _ (by rfl) wx.drew.heap.size _ (ps.take i) ⟨s, zs⟩ (.slice ua zs.length uc) w2.heap.size (by rfl) (by rfl) (hrw2.later ((Below.refl _ _).alloc (Nat.le_refl _) _)) (by simp [go_sem]) (by simp [go_sem]) RU.out hsm HL1.out ?_; intro v4 w4 hrow4 hg4) | (refine step_append_row (by rfl) _ _ (by rfl) wx.drew.heap.size _ (ps.take i ++ [⟨s, zs⟩]) (ps.drop i) _ (by rfl) (by rfl) hrow4 RD.out HL2.out ?_; intro v5 w5 hrow5 hg5))
          all_goals
            have HO3 : Hid (OwnPs w3 (w.heap.size + 3) (.slice a3 (okPs (bookB (ps.take i ++ [⟨s, zs⟩] ++ ps.drop i)) (ps.take i ++ [⟨s, zs⟩] ++ ps.drop i)).length cap3) (okPs (bookB (ps.take i ++ [⟨s, zs⟩] ++ ps.drop i)) (ps.take i ++ [⟨s, zs⟩] ++ ps.drop i))) := Lib.hid (ho3.base (by have := hrow5.below.size; omega))
            go_wp2
            refine bodyPost_ret (v := .tuple #[.agg #[.slice a3 (okPs (bookB (ps.take i ++ [⟨s, zs⟩] ++ ps.drop i)) (ps.take i ++ [⟨s, zs⟩] ++ ps.drop i)).length cap3], .bool (bookB (ps.take i ++ [⟨s, zs⟩] ++ ps.drop i))]) (by simp [results, Try.results43, go_sem, q4, q5, q6]) rfl ⟨.slice a3 (okPs (bookB (ps.take i ++ [⟨s, zs⟩] ++ ps.drop i)) (ps.take i ++ [⟨s, zs⟩] ++ ps.drop i)).length cap3, by rw [HF.out, HD.out], ?_, ?_⟩
            · rw [HF.out, HD.out]; exact (HO3.out.setLow (b := w.heap.size + 1 + 1) (by omega)).base (by omega)
            · have hbb := hbD.trans (hb3.mono hbD.size)
              exact (hbW.trans (hbb.mono hbW.size)).setCell (p := ⟨w.heap.size + 1 + 1, 0, none⟩) (by show w.heap.size ≤ w.heap.size + 1 + 1; omega) _
      · obtain rfl : i = n := by omega
        have hix : addIdx ps s = i := addIdx_of (by rw [← HN.out]; omega) hless.out (fun h => absurd h (by rw [← HN.out]; omega))
        have HD : Hid (addL ps ⟨s, zs⟩ = ps.take i ++ [⟨s, zs⟩] ++ ps.drop i) := Lib.hid (by rw [← hix]; rfl)
        have HSM : Hid (SmallPs (ps.take i ++ [⟨s, zs⟩] ++ ps.drop i)) := Lib.hid (by rw [← HD.out]; exact HSD.out)
        clear hix hless
        go_wp2
        go_quiet (fail)
        have hbl := below_drewN hbl nq
        generalize wr.drewN nq = wx at *
        clear k0 k1 k2 k3 k4 k5
        have hbD := hbl.drew
        have R0 : Hid (RdPs wx.drew (.slice (some ⟨g, off, none⟩) i cap) ps) := Lib.hid (by rw [HN.out]; exact hrW.later hbD)
        have R1 : Hid (RdPs wx.drew (.slice (some ⟨g, off, none⟩) i cap) (ps.take i)) := Lib.hid (R0.out.take i (by omega))
        have RU : Hid (RdC wx.drew (.slice ua zs.length uc) zs) := Lib.hid (huW.later hbD)
        have hLD : Hid ((ps.take i).length ≤ 40 ∧ (ps.drop i).length ≤ 40) := Lib.hid (by have := HN.out; simp; omega)
        have HTS : Hid (SmallPs (ps.take i)) := Lib.hid (hz.take i)
        have hi00 : (0 : Int) ≤ (i : Int) := by omega
        have hic0 : (i : Int) ≤ (cap : Int) := by omega
        
        have hnc0 : (i : Int) ≤ (cap : Int) := by omega
        have hic1 : i ≤ cap := by omega
        have K1 : Hid (∀ x : World, Below wx.drew.heap.size wx.drew x → x.cell? ⟨w.heap.size, 0, none⟩ = some (.slice (some ⟨g, off, none⟩) i cap) ∧ x.cell? ⟨w.heap.size + 1, 0, none⟩ = some (.string s) ∧ x.cell? ⟨w.heap.size + 1, 1, none⟩ = some (.slice ua zs.length uc) ∧ x.cell? ⟨w.heap.size + 1 + 1, 0, none⟩ = some (.slice none 0 0) ∧ x.frozen? ⟨w.heap.size + 1 + 1, 0, none⟩ = false ∧ w.heap.size + 1 + 1 < x.heap.size) := Lib.hid fun x h => by
          have := HK.out x (hbD.trans (h.mono hbD.size))
          rw [← HN.out] at this
          exact this
        have K0 := (K1.out _ (Below.refl _ _)).1
        have K00 := (K1.out _ (Below.refl _ _)).2.1
        have K01 := (K1.out _ (Below.refl _ _)).2.2.1
        simp [go_sem] at K0 K00 K01
        have hne1 : ¬ (w.heap.size + 1 + 1 = w.heap.size) := by omega
        have hne2 : ¬ (w.heap.size = w.heap.size + 1 + 1) := by omega
        have hDs : W.heap.size ≤ wx.drew.heap.size := hbD.size
        clear hrW huW hr hru HRW
        have hDN : Hid (ps.drop i = []) := Lib.hid (by rw [HN.out]; exact List.drop_length)
        by_cases hcc : cap = i
        · subst hcc
          have RD : Hid (RdPs wx.drew (.slice (some ⟨g, off, none⟩) 0 0) (ps.drop cap)) := Lib.hid (by rw [hDN.out]; exact RdPs.none_ _ _)
          have hbAX : Below wx.drew.heap.size wx.drew (wx.alloc (.cells #[.string s, .slice ua zs.length uc] 33)).drew := (Below.refl wx.drew.heap.size wx.drew).alloc (Nat.le_refl _) (.cells #[.string s, .slice ua zs.length uc] 33)
          have hX : Hid (∀ y : World, Below (wx.alloc (.cells #[.string s, .slice ua zs.length uc] 33)).drew.heap.size (wx.alloc (.cells #[.string s, .slice ua zs.length uc] 33)).drew y → y.cell? ⟨wx.heap.size, 0, none⟩ = some (.string s) ∧ y.cell? ⟨wx.heap.size, 1, none⟩ = some (.slice ua zs.length uc)) := Lib.hid fun y h => ⟨by rw [h.cell (p := ⟨wx.heap.size, 0, none⟩) (by simp)]; simp [go_sem], by rw [h.cell (p := ⟨wx.heap.size, 1, none⟩) (by simp)]; simp [go_sem]⟩
          have HOW : Hid (∀ x : World, Below wx.drew.heap.size wx.drew x → Calls Try.prog 74 #[.slice (some ⟨g, off, none⟩) cap cap] x fun e w' => ∃ v', e = .returned v' ∧ RowG wx.drew w' wx.drew.heap.size v' (ps.take cap) ∧ Below x.heap.size x w') := Lib.hid fun x h => (bkOwn_any _ _ _ HTS.out (R1.out.later h)).mono fun e w' ⟨v', he, ho, hb⟩ => ⟨v', he, (ho.rowG (h.trans (hb.mono h.size)) h.size hb.size).base (Nat.le_refl _) h.size, hb⟩
          have HIF : Hid (∀ (v : Value) (x : World), RdPs x v (ps.take cap ++ [⟨s, zs⟩] ++ ps.drop cap) → Calls Try.prog 73 #[v] x (CopyPost (bookB (ps.take cap ++ [⟨s, zs⟩] ++ ps.drop cap)) (ps.take cap ++ [⟨s, zs⟩] ++ ps.drop cap) x)) := Lib.hid fun v x h => bkIf_any _ _ _ HSM.out h
          have HL1 : Hid ((ps.take cap).length ≤ 1048576) := Lib.hid (by have := hLD.out; omega)
          have HL2 : Hid ((ps.take cap ++ [(⟨s, zs⟩ : Ph)]).length + (ps.drop cap).length ≤ 4194304) := Lib.hid (by have := hLD.out; simp only [List.length_append, List.length_singleton]; omega)
          have KS : Hid (∀ x : World, Below wx.drew.heap.size wx.drew x → x.cell? ⟨w.heap.size, 0, none⟩ = some (.slice (some ⟨g, off, none⟩) cap cap) ∧ x.cell? ⟨w.heap.size + 1, 0, none⟩ = some (.string s) ∧ x.cell? ⟨w.heap.size + 1, 1, none⟩ = some (.slice ua zs.length uc)) := Lib.hid fun x h => ⟨(K1.out x h).1, (K1.out x h).2.1, (K1.out x h).2.2.1⟩
          have KT : Hid (∀ (x : World) (q : Value), Below wx.drew.heap.size wx.drew x → (x.setCell ⟨w.heap.size + 1 + 1, 0, none⟩ q).cell? ⟨w.heap.size, 0, none⟩ = some (.slice (some ⟨g, off, none⟩) cap cap) ∧ (x.setCell ⟨w.heap.size + 1 + 1, 0, none⟩ q).cell? ⟨w.heap.size + 1, 0, none⟩ = some (.string s) ∧ (x.setCell ⟨w.heap.size + 1 + 1, 0, none⟩ q).cell? ⟨w.heap.size + 1, 1, none⟩ = some (.slice ua zs.length uc)) := Lib.hid fun x q h => by
            rw [setc_far (by omega), setc_far (by omega), setc_far (by omega)]
            exact KS.out x h
          go_wp2_with fail
          go_region_held3 (fun w' => w'.cell? ⟨w.heap.size, 0, none⟩ = some (.slice (some ⟨g, off, none⟩) cap cap) ∧ w'.cell? ⟨w.heap.size + 1, 0, none⟩ = some (.string s) ∧ w'.cell? ⟨w.heap.size + 1, 1, none⟩ = some (.slice ua zs.length uc))
            (first | go_keep | exact KS.out _ hrw2.below | exact KS.out _ hrow4.below | exact KS.out _ hrow5.below | exact KS.out _ hb3 | exact KT.out _ _ hb3 | (refine ⟨?_, ?_, ?_⟩ <;> first | exact (KT.out _ _ hb3).1 | exact (KT.out _ _ hb3).2.1 | exact (KT.out _ _ hb3).2.2) | (go_split_ands; refine ⟨?_, ?_, ?_⟩ <;> first | exact (KT.out _ _ hb3).1 | exact (KT.out _ _ hb3).2.1 | exact (KT.out _ _ hb3).2.2))
            (first | (go_at_call 74; refine (HOW.out _ (Below.refl _ _)).mono ?_; rintro e w2 ⟨v2, rfl, hrw2, hb2⟩) | (go_at_call 74; refine (HOW.out _ hbAX).mono ?_; rintro e w2 ⟨v2, rfl, hrw2, hb2⟩; have hX0 := hX.out _ hb2) | (go_at_call 73; refine (HIF.out _ _ hrow5.rd).mono ?_; rintro e w3 ⟨v3, rfl, ho3, hb3'⟩; have hb3 := hrow5.below.trans (hb3'.mono hrow5.below.size); obtain ⟨a3, cap3, rfl, -⟩ := ho3.rd.len; have q3 := K1.out _ hb3; have q4 := q3.2.2.2.1; have q5 := q3.2.2.2.2.1; have q6 := q3.2.2.2.2.2) | (refine step_append_rowOne (by rfl) _ _ (by rfl) wx.drew.heap.size _ (ps.take cap) ⟨s, zs⟩ (.slice ua zs.length uc) wx.heap.size (by rfl) (by rfl) hrw2 hX0.1 hX0.2 RU.out hsm HL1.out ?_; intro v4 w4 hrow4 hg4) | (refine step_append_rowOne (by rfl) _ _ (by rfl) wx.drew.heap.size _ (ps.take cap) ⟨s, zs⟩ (.slice ua zs.length uc) w2.heap.size (by rfl) (by rfl) (hrw2.later ((Below.refl _ _).alloc (Nat.le_refl _) _)) (by simp [go_sem]) (by simp [go_sem]) RU.out hsm HL1.out ?_; intro v4 w4 hrow4 hg4) | (refine step_append_row (by rfl) _ _ (by rfl) wx.drew.heap.size _ (ps.take cap ++ [⟨s, zs⟩]) (ps.drop cap) _ (by rfl) (by rfl) hrow4 RD.out HL2.out ?_; intro v5 w5 hrow5 hg5))
          all_goals
            have HO3 : Hid (OwnPs w3 (w.heap.size + 3) (.slice a3 (okPs (bookB (ps.take cap ++ [⟨s, zs⟩] ++ ps.drop cap)) (ps.take cap ++ [⟨s, zs⟩] ++ ps.drop cap)).length cap3) (okPs (bookB (ps.take cap ++ [⟨s, zs⟩] ++ ps.drop cap)) (ps.take cap ++ [⟨s, zs⟩] ++ ps.drop cap))) := Lib.hid (ho3.base (by have := hrow5.below.size; omega))
            go_wp2
            refine bodyPost_ret (v := .tuple #[.agg #[.slice a3 (okPs (bookB (ps.take cap ++ [⟨s, zs⟩] ++ ps.drop cap)) (ps.take cap ++ [⟨s, zs⟩] ++ ps.drop cap)).length cap3], .bool (bookB (ps.take cap ++ [⟨s, zs⟩] ++ ps.drop cap))]) (by simp [results, Try.results43, go_sem, q4, q5, q6]) rfl ⟨.slice a3 (okPs (bookB (ps.take cap ++ [⟨s, zs⟩] ++ ps.drop cap)) (ps.take cap ++ [⟨s, zs⟩] ++ ps.drop cap)).length cap3, by rw [HF.out, HD.out], ?_, ?_⟩
            · rw [HF.out, HD.out]; exact (HO3.out.setLow (b := w.heap.size + 1 + 1) (by omega)).base (by omega)
            · have hbb := hbD.trans (hb3.mono hbD.size)
              exact (hbW.trans (hbb.mono hbW.size)).setCell (p := ⟨w.heap.size + 1 + 1, 0, none⟩) (by show w.heap.size ≤ w.heap.size + 1 + 1; omega) _
        · have RD : Hid (RdPs wx.drew (.slice (some ⟨g, off + i * 2, none⟩) 0 (cap - i)) (ps.drop i)) := Lib.hid (by rw [hDN.out]; exact .inl ⟨rfl, _, _, rfl, fun h => by cases h⟩)
          have hbAX : Below wx.drew.heap.size wx.drew (wx.alloc (.cells #[.string s, .slice ua zs.length uc] 33)).drew := (Below.refl wx.drew.heap.size wx.drew).alloc (Nat.le_refl _) (.cells #[.string s, .slice ua zs.length uc] 33)
          have hX : Hid (∀ y : World, Below (wx.alloc (.cells #[.string s, .slice ua zs.length uc] 33)).drew.heap.size (wx.alloc (.cells #[.string s, .slice ua zs.length uc] 33)).drew y → y.cell? ⟨wx.heap.size, 0, none⟩ = some (.string s) ∧ y.cell? ⟨wx.heap.size, 1, none⟩ = some (.slice ua zs.length uc)) := Lib.hid fun y h => ⟨by rw [h.cell (p := ⟨wx.heap.size, 0, none⟩) (by simp)]; simp [go_sem], by rw [h.cell (p := ⟨wx.heap.size, 1, none⟩) (by simp)]; simp [go_sem]⟩
          have HOW : Hid (∀ x : World, Below wx.drew.heap.size wx.drew x → Calls Try.prog 74 #[.slice (some ⟨g, off, none⟩) i cap] x fun e w' => ∃ v', e = .returned v' ∧ RowG wx.drew w' wx.drew.heap.size v' (ps.take i) ∧ Below x.heap.size x w') := Lib.hid fun x h => (bkOwn_any _ _ _ HTS.out (R1.out.later h)).mono fun e w' ⟨v', he, ho, hb⟩ => ⟨v', he, (ho.rowG (h.trans (hb.mono h.size)) h.size hb.size).base (Nat.le_refl _) h.size, hb⟩
          have HIF : Hid (∀ (v : Value) (x : World), RdPs x v (ps.take i ++ [⟨s, zs⟩] ++ ps.drop i) → Calls Try.prog 73 #[v] x (CopyPost (bookB (ps.take i ++ [⟨s, zs⟩] ++ ps.drop i)) (ps.take i ++ [⟨s, zs⟩] ++ ps.drop i) x)) := Lib.hid fun v x h => bkIf_any _ _ _ HSM.out h
          have HL1 : Hid ((ps.take i).length ≤ 1048576) := Lib.hid (by have := hLD.out; omega)
          have HL2 : Hid ((ps.take i ++ [(⟨s, zs⟩ : Ph)]).length + (ps.drop i).length ≤ 4194304) := Lib.hid (by have := hLD.out; simp only [List.length_append, List.length_singleton]; omega)
          have KS : Hid (∀ x : World, Below wx.drew.heap.size wx.drew x → x.cell? ⟨w.heap.size, 0, none⟩ = some (.slice (some ⟨g, off, none⟩) i cap) ∧ x.cell? ⟨w.heap.size + 1, 0, none⟩ = some (.string s) ∧ x.cell? ⟨w.heap.size + 1, 1, none⟩ = some (.slice ua zs.length uc)) := Lib.hid fun x h => ⟨(K1.out x h).1, (K1.out x h).2.1, (K1.out x h).2.2.1⟩
          have KT : Hid (∀ (x : World) (q : Value), Below wx.drew.heap.size wx.drew x → (x.setCell ⟨w.heap.size + 1 + 1, 0, none⟩ q).cell? ⟨w.heap.size, 0, none⟩ = some (.slice (some ⟨g, off, none⟩) i cap) ∧ (x.setCell ⟨w.heap.size + 1 + 1, 0, none⟩ q).cell? ⟨w.heap.size + 1, 0, none⟩ = some (.string s) ∧ (x.setCell ⟨w.heap.size + 1 + 1, 0, none⟩ q).cell? ⟨w.heap.size + 1, 1, none⟩ = some (.slice ua zs.length uc)) := Lib.hid fun x q h => by
            rw [setc_far (by omega), setc_far (by omega), setc_far (by omega)]
            exact KS.out x h
          go_wp2_with fail
          go_region_held3 (fun w' => w'.cell? ⟨w.heap.size, 0, none⟩ = some (.slice (some ⟨g, off, none⟩) i cap) ∧ w'.cell? ⟨w.heap.size + 1, 0, none⟩ = some (.string s) ∧ w'.cell? ⟨w.heap.size + 1, 1, none⟩ = some (.slice ua zs.length uc))
            (first | go_keep | exact KS.out _ hrw2.below | exact KS.out _ hrow4.below | exact KS.out _ hrow5.below | exact KS.out _ hb3 | exact KT.out _ _ hb3 | (refine ⟨?_, ?_, ?_⟩ <;> first | exact (KT.out _ _ hb3).1 | exact (KT.out _ _ hb3).2.1 | exact (KT.out _ _ hb3).2.2) | (go_split_ands; refine ⟨?_, ?_, ?_⟩ <;> first | exact (KT.out _ _ hb3).1 | exact (KT.out _ _ hb3).2.1 | exact (KT.out _ _ hb3).2.2))
            (first | (go_at_call 74; refine (HOW.out _ (Below.refl _ _)).mono ?_; rintro e w2 ⟨v2, rfl, hrw2, hb2⟩) | (go_at_call 74; refine (HOW.out _ hbAX).mono ?_; rintro e w2 ⟨v2, rfl, hrw2, hb2⟩; have hX0 := hX.out _ hb2) | (go_at_call 73; refine (HIF.out _ _ hrow5.rd).mono ?_; rintro e w3 ⟨v3, rfl, ho3, hb3'⟩; have hb3 := hrow5.below.trans (hb3'.mono hrow5.below.size); obtain ⟨a3, cap3, rfl, -⟩ := ho3.rd.len; have q3 := K1.out _ hb3; have q4 := q3.2.2.2.1; have q5 := q3.2.2.2.2.1; have q6 := q3.2.2.2.2.2) | (refine step_append_rowOne (by rfl) _ _ (by rfl) wx.drew.heap.size _ (ps.take i) ⟨s, zs⟩ (.slice ua zs.length uc) wx.heap.size (by rfl) (by rfl) hrw2 hX0.1 hX0.2 RU.out hsm HL1.out ?_; intro v4 w4 hrow4 hg4) | (refine step_append_rowOne (by rfl) _ _ (by rfl) wx.drew.heap.size _ (ps.take i) ⟨s, zs⟩ (.slice ua zs.length uc) w2.heap.size (by rfl) (by rfl) (hrw2.later ((Below.refl _ _).alloc (Nat.le_refl _) _)) (by simp [go_sem]) (by simp [go_sem]) RU.out hsm HL1.out ?_; intro v4 w4 hrow4 hg4) | (refine step_append_row (by rfl) _ _ (by rfl) wx.drew.heap.size _ (ps.take i ++ [⟨s, zs⟩]) (ps.drop i) _ (by rfl) (by rfl) hrow4 RD.out HL2.out ?_; intro v5 w5 hrow5 hg5))
          all_goals
            have HO3 : Hid (OwnPs w3 (w.heap.size + 3) (.slice a3 (okPs (bookB (ps.take i ++ [⟨s, zs⟩] ++ ps.drop i)) (ps.take i ++ [⟨s, zs⟩] ++ ps.drop i)).length cap3) (okPs (bookB (ps.take i ++ [⟨s, zs⟩] ++ ps.drop i)) (ps.take i ++ [⟨s, zs⟩] ++ ps.drop i))) := Lib.hid (ho3.base (by have := hrow5.below.size; omega))
            go_wp2
            refine bodyPost_ret (v := .tuple #[.agg #[.slice a3 (okPs (bookB (ps.take i ++ [⟨s, zs⟩] ++ ps.drop i)) (ps.take i ++ [⟨s, zs⟩] ++ ps.drop i)).length cap3], .bool (bookB (ps.take i ++ [⟨s, zs⟩] ++ ps.drop i))]) (by simp [results, Try.results43, go_sem, q4, q5, q6]) rfl ⟨.slice a3 (okPs (bookB (ps.take i ++ [⟨s, zs⟩] ++ ps.drop i)) (ps.take i ++ [⟨s, zs⟩] ++ ps.drop i)).length cap3, by rw [HF.out, HD.out], ?_, ?_⟩
            · rw [HF.out, HD.out]; exact (HO3.out.setLow (b := w.heap.size + 1 + 1) (by omega)).base (by omega)
            · have hbb := hbD.trans (hb3.mono hbD.size)
              exact (hbW.trans (hbb.mono hbW.size)).setCell (p := ⟨w.heap.size + 1 + 1, 0, none⟩) (by show w.heap.size ≤ w.heap.size + 1 + 1; omega) _
end Go.Proofs.Ytkknmjioihnpkaa
