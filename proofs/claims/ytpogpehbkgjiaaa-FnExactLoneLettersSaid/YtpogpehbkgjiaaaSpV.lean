/- Chapter 3: the signals of letters, and how many they are, on both sides. Written by a generator of this claim's author. -/
import Derived.Test.YtpogpehbkgjiaaaSpU
namespace Go.Proofs.Ytpogpehbkgjiaaa
open Go.RowKit
set_option linter.unusedSimpArgs false
set_option linter.unusedVariables false

theorem slL_in {ps : List Ph} {s : ByteArray} (h : askB ps s = true) : ∀ k, k < (slL ps s).length → 0 ≤ (slL ps s)[k]?.getD 0 ∧ (slL ps s)[k]?.getD 0 < (ps.length : Int) := by
  rw [slL_yes h]
  split
  · next hx => exact path_in (slL_path h hx) (rests_lead (txR_is (askB_book h)) (txSt_ahead (askB_book h) allS s)) (rests_inside (txR_is (askB_book h)) (txSt_inside ps allS s)) hx
  · intro k hk; simp at hk
theorem tx_cost {ps : List Ph} {sel : Nat → Bool} {s : ByteArray} {r : Nat → Rst} (hb : bookB ps = true) (hs : s.size ≤ 60) (hR : Rests ps s.size (txSt ps sel s) r) {a : Nat} (ha : a < s.size) (hx : (r a).ex = true) :
    (r a).len = (phAt ps (r a).ph).sig.length + (r (r a).nx).len ∧ (r (r a).nx).ex = true := by
  have hm := (tx_fold hb hs hR ha ps.length (Nat.le_refl _)).1
  have hra : r a = foldR ps r (stepsOf (fun i => sel i && fitT (phAt ps i).txt s a) (fun i => a + (phAt ps i).txt.size) ps.length) := hR.2 a ha
  rw [← hra] at hm
  rcases hm with ⟨h1, -⟩ | ⟨h1, h2, h3, h4, h5, h6, h7⟩
  · rw [h1] at hx; cases hx
  · simp only [Bool.and_eq_true] at h3
    rw [h4]
    exact ⟨h5, h3.2⟩
theorem path_cost {ps : List Ph} {sel : Nat → Bool} {s : ByteArray} {r : Nat → Rst} {a : Nat} {l : List Int} (hb : bookB ps = true) (hs : s.size ≤ 60) (hR : Rests ps s.size (txSt ps sel s) r) (h : PathTo r s.size a l) (hx : (r a).ex = true) : ((sgL ps l).length : Int) = (r a).len := by
  induction h with
  | done => rw [hR.1]; simp [sgL, endRst]
  | step h1 h2 h3 h4 ih =>
    obtain ⟨c1, c2⟩ := tx_cost hb hs hR h1 hx
    rw [sgL_cons, List.length_append, c1, ← ih c2]
    simp
noncomputable def lsN (ps : List Ph) (s : ByteArray) : Int := okI (slC ps s) (txR ps s 0).len
theorem lsN_no {ps : List Ph} {s : ByteArray} (h : slC ps s = false) : lsN ps s = 0 := by unfold lsN; rw [h]; rfl
theorem lsN_yes {ps : List Ph} {s : ByteArray} (h : slC ps s = true) : lsN ps s = (txR ps s 0).len := by unfold lsN; rw [h]; rfl
theorem lsN_is (ps : List Ph) (s : ByteArray) : lsN ps s = ((sgL ps (slL ps s)).length : Int) := by
  cases h : slC ps s with
  | false => rw [lsN_no h, slL_no h]; rfl
  | true =>
    have ha : askB ps s = true := by simp [slC] at h; exact h.1
    have hx : (txR ps s 0).ex = true := by rw [slC_yes ha] at h; exact h
    rw [lsN_yes h, slL_yes ha, if_pos hx]
    exact (path_cost (askB_book ha) (by have := msgB_len (askB_msg ha); omega) (txR_is (askB_book ha)) (slL_path ha hx) hx).symm
theorem encL_len (ps : List Ph) (s : ByteArray) : (sgL ps (slL ps s)).length ≤ 1048576 := by
  cases h : slC ps s with
  | false => rw [slL_no h]; simp [sgL]
  | true =>
    have ha : askB ps s = true := by simp [slC] at h; exact h.1
    have h1 := sgL_len (askB_book ha) (slL ps s) (slL_in ha)
    have := slL_len ps s
    omega
def EncPost (ps : List Ph) (s : ByteArray) (w : World) (e : Ending) (w' : World) : Prop := ∃ v, e = .returned (.tuple #[v, .bool (slC ps s)]) ∧ Own w' w.heap.size v (sgL ps (slL ps s)) ∧ Below w.heap.size w w'

set_option maxRecDepth 100000 in
set_option maxHeartbeats 1000000 in
theorem spEncode_any (v : Value) (ps : List Ph) (s : ByteArray) (w : World) (hask : askB ps s = true) (hs : s.size ≤ maxLen) (hr : RdPs w v ps) :
    Calls Try.prog 58 #[.agg #[v], .string s] w (EncPost ps s w) := by
  obtain ⟨a, cap, rfl, -⟩ := hr.len
  have hbk := askB_book hask
  have hl := msgB_len (askB_msg hask)
  have HC := Lib.hid (slC_yes hask)
  have HLL := Lib.hid (slL_yes hask)
  have HPA := Lib.hid (slL_path hask)
  obtain ⟨np, hnp⟩ : ∃ np, np = ps.length := ⟨_, rfl⟩
  have HNP := Lib.hid hnp
  have HSG : Hid (∀ i, i < ps.length → (phAt ps i).sig.length ≤ 3) := Lib.hid fun i hi => (book_sig hbk hi).2
  have hb0 := (Below.refl w.heap.size w).alloc (Nat.le_refl _) (.cells #[.slice a ps.length cap] 31)
  have HR0 := Lib.hid (hr.later hb0)
  have hx00 : (w.alloc (.cells #[.slice a ps.length cap] 31)).cell? ⟨w.heap.size, 0, none⟩ = some (.slice a ps.length cap) := by simp [go_sem]
  have hsz00 : w.heap.size < (w.alloc (.cells #[.slice a ps.length cap] 31)).heap.size := by simp
  rw [← hnp] at hb0 hx00 HR0 hsz00 ⊢
  clear hnp hr
  go_enter Try.func58, Try.ntmps58
  go_wp2_with fail
  generalize w.alloc (.cells #[.slice a np cap] 31) = W0 at *
  refine (spSpell_any _ ps s (txR ps s) (pathL (txR ps s) s.size) _ hbk hl HR0.out (txR_is hbk) HPA.out).mono ?_
  rintro e W ⟨v1, rfl, ho1, hbs⟩
  rw [← HLL.out] at ho1
  have hx0 := hx00 ▸ hbs.cell (p := ⟨w.heap.size, 0, none⟩) hsz00
  have hsz0 := Nat.lt_of_lt_of_le hsz00 hbs.size
  have hB := hb0.trans (hbs.mono hb0.size)
  have HR := Lib.hid (HR0.out.later hbs)
  cases hex : (txR ps s 0).ex with
  | false =>
    have HCF : Hid (slC ps s = false) := Lib.hid (by rw [HC.out]; exact hex)
    clear hex
    go_wp2
    go_ret2
    exact ⟨_, by rw [HCF.out]; rfl, by rw [slL_no HCF.out]; exact Own.nil _ _, hB⟩
  | true =>
    have HCT : Hid (slC ps s = true) := Lib.hid (by rw [HC.out]; exact hex)
    have hin := slL_in hask
    have hl40 := slL_len ps s
    obtain ⟨l, hll⟩ : ∃ l, l = slL ps s := ⟨_, rfl⟩
    have HLS := Lib.hid hll
    rw [← hll] at ho1 hin hl40
    have hu := ho1.rdc
    obtain ⟨-, au, cu, rfl, hcu⟩ := id hu
    obtain ⟨n, hn⟩ : ∃ n, n = l.length := ⟨_, rfl⟩
    have HN := Lib.hid hn
    have HIN := Lib.hid hin
    have HSZ := Lib.hid (sgL_size hbk hin (by omega))
    have HU := Lib.hid hu
    rw [← hn] at hcu hl40 HU ⊢
    clear hex hll hn hu hin ho1 hask hbk
    go_wp2
    go_loopw [8, 21] (fun ov i wr => ∃ k : Nat, k ≤ n ∧ i = .int .i64 k ∧ Own wr W.heap.size ov (sgL ps (l.take k)) ∧ Below W.heap.size W wr) (fun _ i _ => n - (intOf i).toNat)
    case atStart => exact ⟨0, Nat.zero_le _, rfl, Own.nil _ _, Below.refl _ _⟩
    case round =>
      obtain ⟨k, hk, rfl, hown, hbl⟩ := hrel
      have hszl := hbl.size
      by_cases hlt : k < n
      · obtain ⟨gu, ou, hau, hgu, hcz⟩ := (HU.out.below hbl (Nat.le_refl _)).rd.at_ HN.out k hlt
        subst hau
        obtain ⟨h1, h2⟩ := HIN.out k (by rw [← HN.out]; exact hlt)
        obtain ⟨z, hz⟩ : ∃ z, z = l[k]?.getD 0 := ⟨_, rfl⟩
        have HZ := Lib.hid hz
        rw [← hz] at h1 h2 hcz
        rw [← HNP.out] at h2
        obtain ⟨i, rfl⟩ : ∃ i : Nat, z = i := ⟨z.toNat, by omega⟩
        obtain ⟨g, off, us, hag, hg, hts, hd0, hd1, hru⟩ := (HR.out.below hbl (Nat.le_refl _)).at_ HNP.out i (by omega)
        subst hag
        obtain ⟨ua, uc, rfl⟩ := hru.rd.len
        have HST : Hid (sgL ps (l.take (k + 1)) = sgL ps (l.take k) ++ (phAt ps i).sig) := Lib.hid (by rw [sgL_take ps l k (by rw [← HN.out]; exact hlt), ← HZ.out]; rfl)
        have HLE : Hid ((sgL ps (l.take k)).length + (phAt ps i).sig.length ≤ 1099511627776) := Lib.hid (by have h1 := HSZ.out k; have h2 := HSG.out i (by rw [← HNP.out]; omega); omega)
        have hxw := hx0 ▸ hbl.cell (p := ⟨w.heap.size, 0, none⟩) hsz0
        have hsz3 : W.heap.size ≤ wr.heap.size := by omega
        obtain ⟨ml, hml⟩ : ∃ ml, ml = (phAt ps i).sig.length := ⟨_, rfl⟩
        have HML := Lib.hid hml
        have hrd := hru.rd
        rw [← hml] at hd1 hrd
        clear hz hml hru
        go_wp2_with (at_builtin; refine append_ints rfl _ _ rfl (W.heap.size) _ (sgL ps (l.take k)) (phAt ps i).sig _ rfl rfl hown hrd HLE.out hsz3 ?_; intro v' w2 hown2 hgrow2)
        go_roundw
        case rel => exact ⟨k + 1, by omega, by go_num, by rw [HST.out]; exact hown2, hbl.grown hgrow2 hbl.size (fun j hj => by have := (hown.lt j hj).1; omega)⟩
        case measure => simp [intOf]; omega
      · obtain rfl : k = n := by omega
        have HE : Hid (l.take k = l) := Lib.hid (by rw [HN.out, List.take_length])
        rw [HE.out] at hown
        go_wp2
        go_ret2
        exact ⟨_, by rw [HCT.out]; rfl, by rw [← HLS.out]; exact hown.base hB.size, hB.trans (hbl.mono hB.size)⟩

theorem specEncode_any (v : Value) (ps : List Ph) (s : ByteArray) (w : World) (hs : s.size ≤ maxLen) (hr : RdPs w v ps) :
    Calls Try.prog 24 #[.agg #[v], .string s] w (EncPost ps s w) := by
  obtain ⟨a, cap, rfl, -⟩ := hr.len
  have hb0 := (Below.refl w.heap.size w).alloc (Nat.le_refl _) (.cells #[.slice a ps.length cap] 31)
  have hrW := hr.later hb0
  have hx0 : (w.alloc (.cells #[.slice a ps.length cap] 31)).cell? ⟨w.heap.size, 0, none⟩ = some (.slice a ps.length cap) := by simp [go_sem]
  have hsz0 : w.heap.size < (w.alloc (.cells #[.slice a ps.length cap] 31)).heap.size := by simp
  cases hbk : askB ps s with
  | false =>
    have hC := Lib.hid (slC_no hbk)
    go_enter Try.func24, Try.ntmps24
    go_wp2_with fail
    generalize w.alloc (.cells #[.slice a ps.length cap] 31) = W at *
    refine (spAsked_is _ ps s false _ hbk hs hrW).mono ?_
    rintro e w1 ⟨rfl, hb1⟩
    go_wp2
    go_ret2
    exact ⟨_, by rw [hC.out]; rfl, by rw [slL_no hC.out]; exact Own.nil _ _, hb0.trans (hb1.mono hb0.size)⟩
  | true =>
    go_enter Try.func24, Try.ntmps24
    go_wp2_with fail
    generalize w.alloc (.cells #[.slice a ps.length cap] 31) = W at *
    refine (spAsked_is _ ps s true _ hbk hs hrW).mono ?_
    rintro e w1 ⟨rfl, hb1⟩
    have c1 := hx0 ▸ hb1.cell (p := ⟨w.heap.size, 0, none⟩) hsz0
    have hB1 := hb0.trans (hb1.mono hb0.size)
    go_wp2_with fail
    refine (spEncode_any _ ps s _ hbk hs (hrW.later hb1)).mono ?_
    rintro e w2 ⟨v2, rfl, ho2, hb2⟩
    go_wp2
    go_ret2
    exact ⟨_, rfl, ho2.base hB1.size, hB1.trans (hb2.mono hB1.size)⟩

theorem implEncode_any (v : Value) (ps : List Ph) (s : ByteArray) (w : World) (hs : s.size ≤ maxLen) (hr : RdPs w v ps) :
    Calls Try.prog 25 #[.agg #[v], .string s] w (EncPost ps s w) := by
  obtain ⟨a, cap, rfl, -⟩ := hr.len
  have hb0 := (Below.refl w.heap.size w).alloc (Nat.le_refl _) (.cells #[.slice a ps.length cap] 31)
  have hrW := hr.later hb0
  have hx0 : (w.alloc (.cells #[.slice a ps.length cap] 31)).cell? ⟨w.heap.size, 0, none⟩ = some (.slice a ps.length cap) := by simp [go_sem]
  have hsz0 : w.heap.size < (w.alloc (.cells #[.slice a ps.length cap] 31)).heap.size := by simp
  go_enter Try.func25, Try.ntmps25
  go_wp2_with fail
  generalize w.alloc (.cells #[.slice a ps.length cap] 31) = W at *
  refine (implSpell_any _ ps s _ hs hrW).mono ?_
  rintro e w1 ⟨v1, rfl, ho1, hb1⟩
  have c1 := hx0 ▸ hb1.cell (p := ⟨w.heap.size, 0, none⟩) hsz0
  have hB1 := hb0.trans (hb1.mono hb0.size)
  cases hC : slC ps s with
  | false =>
    have HC := Lib.hid hC
    clear hC
    go_wp2
    go_ret2
    exact ⟨_, by rw [HC.out]; rfl, by rw [slL_no HC.out]; exact Own.nil _ _, hB1⟩
  | true =>
    have HC := Lib.hid hC
    have ha : askB ps s = true := by simp [slC] at hC; exact hC.1
    have HIN := Lib.hid (slL_in ha)
    have hbk := askB_book ha
    clear hC ha
    go_wp2_with fail
    refine (joinedSignals_any _ _ ps (slL ps s) _ (hrW.later hb1) ho1.rdc hbk HIN.out (by have := slL_len ps s; omega)).mono ?_
    rintro e w2 ⟨v2, rfl, ho2, hb2⟩
    go_wp2
    go_ret2
    exact ⟨_, by rw [HC.out]; rfl, ho2.base hB1.size, hB1.trans (hb2.mono hB1.size)⟩

theorem implLeast_any (v : Value) (ps : List Ph) (s : ByteArray) (w : World) (hs : s.size ≤ maxLen) (hr : RdPs w v ps) :
    Calls Try.prog 27 #[.agg #[v], .string s] w fun e w' => e = .returned (.tuple #[.int .i64 (lsN ps s), .bool (slC ps s)]) ∧ Below w.heap.size w w' := by
  obtain ⟨a, cap, rfl, -⟩ := hr.len
  have hb0 := (Below.refl w.heap.size w).alloc (Nat.le_refl _) (.cells #[.slice a ps.length cap] 31)
  have hrW := hr.later hb0
  have HLS := Lib.hid (lsN_is ps s)
  go_enter Try.func27, Try.ntmps27
  go_wp2_with fail
  generalize w.alloc (.cells #[.slice a ps.length cap] 31) = W at *
  refine (implEncode_any _ ps s _ hs hrW).mono ?_
  rintro e w1 ⟨v1, rfl, ho1, hb1⟩
  have hB1 := hb0.trans (hb1.mono hb0.size)
  obtain ⟨l, hl⟩ : ∃ l, l = sgL ps (slL ps s) := ⟨_, rfl⟩
  have HL := Lib.hid hl
  rw [← hl] at ho1
  obtain ⟨av, cv, rfl⟩ := ho1.rd.len
  obtain ⟨n, hn⟩ : ∃ n, n = l.length := ⟨_, rfl⟩
  have HN := Lib.hid hn
  rw [← hn]
  clear hl hn ho1
  go_wp2
  go_ret2
  exact ⟨by rw [HLS.out, ← HL.out, ← HN.out]; rfl, hB1⟩

theorem specLeast_any (v : Value) (ps : List Ph) (s : ByteArray) (w : World) (hs : s.size ≤ maxLen) (hr : RdPs w v ps) :
    Calls Try.prog 26 #[.agg #[v], .string s] w fun e w' => e = .returned (.tuple #[.int .i64 (lsN ps s), .bool (slC ps s)]) ∧ Below w.heap.size w w' := by
  obtain ⟨a, cap, rfl, -⟩ := hr.len
  have hb0 := (Below.refl w.heap.size w).alloc (Nat.le_refl _) (.cells #[.slice a ps.length cap] 31)
  have hrW := hr.later hb0
  have hx0 : (w.alloc (.cells #[.slice a ps.length cap] 31)).cell? ⟨w.heap.size, 0, none⟩ = some (.slice a ps.length cap) := by simp [go_sem]
  have hsz0 : w.heap.size < (w.alloc (.cells #[.slice a ps.length cap] 31)).heap.size := by simp
  cases hbk : askB ps s with
  | false =>
    have hC := Lib.hid (slC_no hbk)
    have hN := Lib.hid (lsN_no hC.out)
    go_enter Try.func26, Try.ntmps26
    go_wp2_with fail
    generalize w.alloc (.cells #[.slice a ps.length cap] 31) = W at *
    refine (spAsked_is _ ps s false _ hbk hs hrW).mono ?_
    rintro e w1 ⟨rfl, hb1⟩
    go_wp2
    go_ret2
    exact ⟨by rw [hN.out, hC.out]; rfl, hb0.trans (hb1.mono hb0.size)⟩
  | true =>
    have hb := askB_book hbk
    have hl := msgB_len (askB_msg hbk)
    have HC := Lib.hid (slC_yes hbk)
    have HRS := Lib.hid (txR_is (s := s) hb)
    go_enter Try.func26, Try.ntmps26
    go_wp2_with fail
    generalize w.alloc (.cells #[.slice a ps.length cap] 31) = W at *
    refine (spAsked_is _ ps s true _ hbk hs hrW).mono ?_
    rintro e w1 ⟨rfl, hb1⟩
    have c1 := hx0 ▸ hb1.cell (p := ⟨w.heap.size, 0, none⟩) hsz0
    go_wp2_with fail
    refine (spTable_any _ ps s (txR ps s) _ hb hl (hrW.later hb1) HRS.out).mono ?_
    rintro e w2 ⟨g, rfl, hrow, hb2⟩
    have hc0 : w2.cell? ⟨g, 0, none⟩ = some (.int .i64 (tv (txR ps s 0))) := hrow.at_ 0 (by omega)
    obtain ⟨m, hm'⟩ : ∃ m, m = s.size + 1 := ⟨_, rfl⟩
    rw [← hm']
    have hm2 : (0 : Int) < (m : Int) := by omega
    have HM := Lib.hid hm'
    have hb12 := hb1.trans (hb2.mono hb1.size)
    have c2 := hx0 ▸ hb12.cell (p := ⟨w.heap.size, 0, none⟩) hsz0
    obtain ⟨t0, ht0⟩ : ∃ t0, t0 = tv (txR ps s 0) := ⟨_, rfl⟩
    have HT0 := Lib.hid ht0
    rw [← ht0] at hc0
    clear hrow hm' ht0 c1
    have HSM := Lib.hid (fun h => (tx_small hb (by omega) HRS.out s.size 0 (by omega) (by omega) h).1)
    by_cases hneg : t0 < 0
    · have HCF : Hid (slC ps s = false) := Lib.hid (by
        rw [HC.out]
        cases hx : (txR ps s 0).ex with
        | false => rfl
        | true => have h1 := HSM.out hx; have h2 := HT0.out; rw [tv_yes hx] at h2; omega)
      have hN := Lib.hid (lsN_no HCF.out)
      go_wp2
      go_ret2
      exact ⟨by rw [hN.out, HCF.out]; rfl, hb0.trans (hb12.mono hb0.size)⟩
    · have HX : Hid ((txR ps s 0).ex = true) := Lib.hid (by
        cases hx : (txR ps s 0).ex with
        | true => rfl
        | false => have h2 := HT0.out; rw [tv_no hx] at h2; omega)
      have HCT : Hid (slC ps s = true) := Lib.hid (by rw [HC.out]; exact HX.out)
      have hN := Lib.hid (lsN_yes HCT.out)
      go_wp2_with fail
      refine (spTable_any _ ps s (txR ps s) _ hb hl (hrW.later hb12) HRS.out).mono ?_
      rintro e w3 ⟨g2, rfl, hrow3, hb3⟩
      have hc3 : w3.cell? ⟨g2, 0, none⟩ = some (.int .i64 (tv (txR ps s 0))) := hrow3.at_ 0 (by omega)
      rw [← HT0.out] at hc3
      rw [← HM.out]
      have hb13 := hb12.trans (hb3.mono hb12.size)
      clear hrow3
      go_wp2
      go_ret2
      exact ⟨by rw [hN.out, HCT.out, ← tv_yes HX.out, ← HT0.out]; rfl, hb0.trans (hb13.mono hb0.size)⟩
end Go.Proofs.Ytpogpehbkgjiaaa
