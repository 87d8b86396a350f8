/- Chapter 3: the reference's number of spellings. Written by a generator of this claim's author, after the walk of the number of readings. -/
import Derived.Test.YtpogpehbkgjiaaaSpO
namespace Go.Proofs.Ytpogpehbkgjiaaa
open Go.RowKit
set_option linter.unusedSimpArgs false
set_option linter.unusedVariables false

set_option maxRecDepth 100000 in
set_option maxHeartbeats 2000000 in
theorem specSpellings_any (v : Value) (ps : List Ph) (s : ByteArray) (w : World) (hs : s.size ≤ maxLen) (hr : RdPs w v ps) :
    Calls Try.prog 28 #[.agg #[v], .string s] w fun e w' => e = .returned (.tuple #[.int .i64 (spellN ps s), .bool (askB ps s)]) ∧ Below w.heap.size w w' := by
  have hss := hs
  unfold maxLen at hss
  obtain ⟨a, cap, rfl, -⟩ := hr.len
  have hb0 := (Below.refl w.heap.size w).alloc (Nat.le_refl _) (.cells #[.slice a ps.length cap] 31)
  have hrW := hr.later hb0
  have hxw0 : (w.alloc (.cells #[.slice a ps.length cap] 31)).cell? ⟨w.heap.size, 0, none⟩ = some (.slice a ps.length cap) := by simp [go_sem]
  have hszw : w.heap.size < (w.alloc (.cells #[.slice a ps.length cap] 31)).heap.size := by simp
  go_enter Try.func28, Try.ntmps28
  go_wp2_with fail
  generalize w.alloc (.cells #[.slice a ps.length cap] 31) = W0 at *
  refine (spAsked_is _ ps s _ _ rfl hs hrW).mono ?_
  rintro e W ⟨rfl, hbq⟩
  have hx0 := hxw0 ▸ hbq.cell (p := ⟨w.heap.size, 0, none⟩) hszw
  have hsz0 : w.heap.size < W.heap.size := Nat.lt_of_lt_of_le hszw hbq.size
  have HR0 := hrW.later hbq
  have hb0 := hb0.trans (hbq.mono hb0.size)
  clear hrW hxw0 hszw hr
  cases hask : askB ps s with
  | false =>
    have hf := Lib.hid (spellN_no hask)
    have hAS := Lib.hid hask
    clear hask
    go_wp2
    go_ret2
    exact ⟨by rw [hf.out, hAS.out]; rfl, hb0⟩
  | true =>
    obtain ⟨f, hfe⟩ : ∃ f, f = spellF ps s := ⟨_, rfl⟩
    have hN := Lib.hid (by rw [spellN_yes hask, ← hfe] : spellN ps s = f 0)
    have hb := askB_book hask
    have hz := msgB_len (askB_msg hask)
    have hf : Counts s.size (txSt ps allS s) f := by rw [hfe]; exact spellF_is hb
    have hAS := Lib.hid hask
    clear hfe hask
    obtain ⟨i0, hi, hz0, hz1, hz2⟩ := info_parts Try_info_int
    have hp40 := (bookB_len hb).2
    obtain ⟨np, hnp⟩ : ∃ np, np = ps.length := ⟨_, rfl⟩
    have HNP := Lib.hid hnp
    have HB := Lib.hid hb
    have HF := Lib.hid hf
    have HR := Lib.hid HR0
    rw [← hnp] at hx0 HR hp40 ⊢
    clear hnp hb hf HR0
    obtain ⟨m, hm⟩ : ∃ m, m = s.size + 1 := ⟨_, rfl⟩
    have HM := Lib.hid hm
    have hm2 : (s.size : Int) < (m : Int) := by omega
    have hm3 : s.size < m := by omega
    have hm4 : m ≤ 41 := by omega
    have hw1 : IntKind.i64.wrap ((s.size : Int) + 1) = (m : Int) := by rw [hm]; exact IntWalk.i64_in _ (by omega)
    obtain ⟨z0, hz0'⟩ : ∃ z0 : Int, z0 = (s.size : Int) - 1 := ⟨_, rfl⟩
    have HZ := Lib.hid hz0'
    have hw2 : IntKind.i64.wrap ((s.size : Int) - 1) = z0 := by rw [hz0']; exact IntWalk.i64_in _ (by omega)
    clear hm hz0'
    go_wp2_with (refine wpList_make_full _ rfl _ _ 26 rfl W.heap.size 3 i0 (.int .i64 0) 1 Try.underlying26 hi hz0 hz1 .i64 .i64 _ _ m rfl rfl rfl rfl (by rw [hz2]; omega) (by unfold maxLen; omega) (Nat.le_refl _) ?_; intro w1 hown1 hgrow1; have ho0 := made_row hown1 hgrow1; obtain ⟨ho0, hb1⟩ := ho0; have hc0 := ho0.at_ s.size (by omega); have hf0 := ho0.frozen s.size; have HP := Lib.hid (ho0.put s.size (.int .i64 1)); have hs0 := ho0.lt.2; clear hown1 hgrow1 ho0)
    have hst0 : RowF (w1.setCell ⟨W.heap.size, s.size, none⟩ (.int .i64 1)) W.heap.size 3 1 (.slice (some ⟨W.heap.size, 0, none⟩) m m) m (fun j => .int .i64 (if s.size ≤ j then f j else 0)) := HP.out.1.congr fun j hj => by
      have hj' : j < s.size + 1 := by have := HM.out; omega
      show (if j = s.size then _ else _) = _
      by_cases e : j = s.size
      · rw [if_pos e, e, if_pos (Nat.le_refl _), HF.out.1]
      · rw [if_neg e, if_neg (by omega)]
    have HS0 := Lib.hid hst0
    have hbS := hb1.setCell (p := ⟨W.heap.size, s.size, none⟩) (Nat.le_refl _) (.int .i64 1)
    clear hst0
    go_loopw [7] (fun i wr => ∃ (k : Nat) (z : Int), k ≤ s.size ∧ i = .int .i64 z ∧ Hid (z = (k : Int) - 1) ∧ RowF wr W.heap.size 3 1 (.slice (some ⟨W.heap.size, 0, none⟩) m m) m (fun j => .int .i64 (if k ≤ j then f j else 0)) ∧ Below W.heap.size W wr ∧ W.heap.size < wr.heap.size) (fun i _ => (intOf i + 1).toNat)
    case atStart => exact ⟨s.size, _, Nat.le_refl _, rfl, HZ, HS0.out, hbS, by simpa using hs0⟩
    case round =>
      obtain ⟨k, z, hk, rfl, hz, hrow, hbl, hsz⟩ := hrel
      rcases Nat.eq_zero_or_pos k with rfl | hpos
      · obtain rfl : z = -1 := by have := hz.out; omega
        have hc9 : wr.cell? ⟨W.heap.size, 0, none⟩ = some (.int .i64 (f 0)) := by have := hrow.at_ 0 (by omega); simpa using this
        have hm5 : (0 : Int) < (m : Int) := by omega
        clear hrow
        go_wp2
        go_ret2
        exact ⟨by rw [hN.out, hAS.out]; rfl, hb0.trans (hbl.mono hb0.size)⟩
      · obtain ⟨at_, rfl⟩ : ∃ at_ : Nat, z = (at_ : Int) := ⟨k - 1, by have := hz.out; omega⟩
        have ha1 : at_ < s.size := by have := hz.out; omega
        have HK : Hid (k = at_ + 1) := Lib.hid (by have := hz.out; omega)
        have HR2 : Hid (RowF wr W.heap.size 3 1 (.slice (some ⟨W.heap.size, 0, none⟩) m m) m (fun j => .int .i64 (if at_ < j then f j else if j = at_ then foldW f (txTo ps s at_ 0) else 0))) := Lib.hid (hrow.congr fun j hj => by
          have := HK.out
          by_cases h1 : at_ < j
          · rw [if_pos h1, if_pos (by omega)]
          · rw [if_neg h1, if_neg (by omega)]
            by_cases h2 : j = at_
            · rw [if_pos h2]; rfl
            · rw [if_neg h2])
        have hxw := hx0 ▸ hbl.cell (p := ⟨w.heap.size, 0, none⟩) hsz0
        have ha2 : (at_ : Int) < (s.size : Int) := by omega
        have hat1 : at_ ≤ s.size := by omega
        have hat2 : (at_ : Int) ≤ (s.size : Int) := by omega
        have hwa : IntKind.i64.wrap ((at_ : Int) - 1) = (at_ : Int) - 1 := IntWalk.i64_in _ (by omega)
        clear hrow hk hpos hz
        rename World => WL
        go_wp2
        go_loopw [32] (fun i wr => ∃ q : Nat, q ≤ np ∧ i = .int .i64 q ∧ RowF wr W.heap.size 3 1 (.slice (some ⟨W.heap.size, 0, none⟩) m m) m (fun j => .int .i64 (if at_ < j then f j else if j = at_ then foldW f (txTo ps s at_ q) else 0)) ∧ Below W.heap.size W wr ∧ W.heap.size < wr.heap.size) (fun i _ => np - (intOf i).toNat)
        case atStart => exact ⟨0, Nat.zero_le _, rfl, HR2.out, hbl, hsz⟩
        case round =>
          obtain ⟨q, hq, rfl, hrow, hblq, hszq⟩ := hrel
          by_cases hlt : q < np
          · obtain ⟨g, off, us, hag, hg, hts, hd0, hd1, hru⟩ := (HR.out.below hblq (Nat.le_refl _)).at_ HNP.out q hlt
            subst hag
            obtain ⟨ua, uc, rfl⟩ := hru.rd.len
            have hbA := (Below.refl wr.heap.size wr).alloc (Nat.le_refl _) (.cells #[.string (phAt ps q).txt, .slice ua (phAt ps q).sig.length uc] 65)
            have hrA := hrow.later hbA
            have hblA := hblq.trans (hbA.mono hblq.size)
            have hx1 : (wr.alloc (.cells #[.string (phAt ps q).txt, .slice ua (phAt ps q).sig.length uc] 65)).cell? ⟨wr.heap.size, 0, none⟩ = some (.string (phAt ps q).txt) := by simp [go_sem]
            have hszA : W.heap.size < (wr.alloc (.cells #[.string (phAt ps q).txt, .slice ua (phAt ps q).sig.length uc] 65)).heap.size := by simp; omega
            have hszB : wr.heap.size < (wr.alloc (.cells #[.string (phAt ps q).txt, .slice ua (phAt ps q).sig.length uc] 65)).heap.size := by simp
            obtain ⟨hs1, hs3⟩ := book_tx HB.out (by rw [← HNP.out]; exact hlt)
            obtain ⟨T, hT⟩ : ∃ T, T = (phAt ps q).txt := ⟨_, rfl⟩
            have HT := Lib.hid hT
            rw [← hT] at hx1 hs1 hs3 hszA hszB hblA hrA hd0 hts hbA
            clear hru hrow hblq hT
            cases hfit : fitT T s at_ with
            | false =>
              have HST : Hid (txTo ps s at_ (q + 1) = txTo ps s at_ q) := Lib.hid (txTo_no (by rw [← HT.out]; exact hfit))
              go_wp2
              generalize wr.alloc (.cells #[.string T, .slice ua (phAt ps q).sig.length uc] 65) = WX at *
              generalize wr.heap.size = BX at *
              go_quiet ((go_at_call 61; exact Calls.quiet_of_same (spBegins_is s T at_ false _ hat1 hfit hs hts)))
              go_wp2
              go_roundw
              case rel => exact ⟨q + 1, by omega, by go_num, by rw [HST.out]; exact hrA.later (below_drewN (Below.refl _ _) _), below_drewN hblA _, by simpa using hszA⟩
              case measure => simp [intOf]; omega
            | true =>
              have HST : Hid (txTo ps s at_ (q + 1) = txTo ps s at_ q ++ [(q, at_ + (phAt ps q).txt.size)]) := Lib.hid (txTo_yes (by rw [← HT.out]; exact hfit))
              have hle := (fitT_le hfit).1
              rw [← HT.out] at HST
              obtain ⟨A, hA⟩ : ∃ A, A = foldW f (txTo ps s at_ q) := ⟨_, rfl⟩
              have HAA := Lib.hid hA
              obtain ⟨en, hen⟩ : ∃ en, en = at_ + T.size := ⟨_, rfl⟩
              have HEN := Lib.hid hen
              have he1 : at_ < en := by omega
              have he2 : (en : Int) < (m : Int) := by have := HM.out; omega
              have he4 : en < m := by have := HM.out; omega
              have he3 : (at_ : Int) < (m : Int) := by omega
              have hwe : IntKind.i64.wrap ((at_ : Int) + (T.size : Int)) = (en : Int) := by rw [hen]; exact IntWalk.i64_in _ (by omega)
              rw [← hen] at HST
              clear hen
              go_wp2
              generalize wr.alloc (.cells #[.string T, .slice ua (phAt ps q).sig.length uc] 65) = WX at *
              generalize wr.heap.size = BX at *
              go_quiet ((go_at_call 61; exact Calls.quiet_of_same (spBegins_is s T at_ true _ hat1 hfit hs hts)))
              have hbD := below_drewN (Below.refl WX.heap.size WX) nq
              have hrD := hrA.later hbD
              have hcD : (WX.drewN nq).cell? ⟨BX, 0, none⟩ = some (.string T) := by rw [hbD.cell (p := ⟨BX, 0, none⟩) hszB]; exact hx1
              have hblD := hblA.trans (hbD.mono hblA.size)
              have hszD : W.heap.size < (WX.drewN nq).heap.size := by simpa using hszA
              clear hx1 hrA
              generalize WX.drewN nq = WY at *
              have hca := hrD.at_ at_ (by omega)
              have hce := hrD.at_ en (by omega)
              have hfa := hrD.frozen at_
              rw [if_neg (by omega), if_pos rfl, ← hA] at hca
              rw [if_pos he1] at hce
              have HPA := Lib.hid (hrD.put at_ (.int .i64 (wrap64 (A + f en))))
              clear hrD hA
              go_wp2
              go_region
              go_wp2
              go_roundw
              case rel =>
                refine ⟨q + 1, by omega, by go_num, ?_, ((hblD.setCell (p := ⟨W.heap.size, at_, none⟩) (Nat.le_refl _) _).drew), by simpa using hszD⟩
                refine RowF.later (HPA.out.1.congr fun j hj => ?_) ((Below.refl _ _).drew)
                show (if j = at_ then _ else _) = _
                by_cases e : j = at_
                · subst e; rw [if_pos rfl, if_neg (Nat.lt_irrefl _), if_pos rfl, HST.out, foldW_snoc, HAA.out]
                · rw [if_neg e]
                  by_cases h1 : at_ < j
                  · rw [if_pos h1, if_pos h1]
                  · rw [if_neg h1, if_neg h1, if_neg e, if_neg e]
              case measure => simp [intOf]; omega
          · have : q = np := by omega
            subst this
            have HR3 : Hid (RowF wr W.heap.size 3 1 (.slice (some ⟨W.heap.size, 0, none⟩) m m) m (fun j => .int .i64 (if at_ ≤ j then f j else 0))) := Lib.hid (hrow.congr fun j hj => by
              by_cases h1 : at_ < j
              · rw [if_pos h1, if_pos (by omega)]
              · rw [if_neg h1]
                by_cases h2 : j = at_
                · subst h2
                  have := HF.out.2 j ha1
                  rw [if_pos rfl, if_pos (Nat.le_refl _), this, HNP.out]; rfl
                · rw [if_neg h2, if_neg (by omega)])
            clear hrow
            go_wp2
            go_roundw
            case rel => exact ⟨at_, (at_ : Int) - 1, by omega, rfl, Lib.hid rfl, HR3.out, hblq, hszq⟩
            case measure => simp [intOf]
end Go.Proofs.Ytpogpehbkgjiaaa
