/- Chapter 3: the reference's number of readings from each place. -/
import Derived.Test.YtpogpehbkgjiaaaSp1
namespace Go.Proofs.Ytpogpehbkgjiaaa
open Go.RowKit
set_option linter.unusedSimpArgs false
set_option linter.unusedVariables false

/-- The phrases that fit at a place of signals. -/
def sigSt (ps : List Ph) (zs : List Int) (a : Nat) : List St := stepsOf (fun i => begsB (phAt ps i).sig (zs.drop a)) (fun i => a + (phAt ps i).sig.length) ps.length
def sigTo (ps : List Ph) (zs : List Int) (a k : Nat) : List St := stepsOf (fun i => begsB (phAt ps i).sig (zs.drop a)) (fun i => a + (phAt ps i).sig.length) k
theorem begsB_le {a b : List Int} (h : begsB a b = true) : a.length ≤ b.length := by simp [begsB] at h; exact h.1
theorem sigB_le {zs : List Int} (h : sigB zs = true) : 1 ≤ zs.length ∧ zs.length ≤ 3 := by
  simp only [sigB, Bool.and_eq_true, decide_eq_true_eq] at h; exact h.1
theorem book_sig {ps : List Ph} (hb : bookB ps = true) {i : Nat} (hi : i < ps.length) : 1 ≤ (phAt ps i).sig.length ∧ (phAt ps i).sig.length ≤ 3 := sigB_le (goodAt_sig (bookB_at hb hi))
theorem sigSt_ahead {ps : List Ph} (hb : bookB ps = true) (zs : List Int) : Ahead zs.length (sigSt ps zs) := by
  intro a ha x hx
  obtain ⟨h1, h2, h3⟩ := stepsOf_mem hx
  have h4 := begsB_le h2
  have h5 := book_sig hb h1
  rw [List.length_drop] at h4
  omega

theorem bkBegins_is (v1 v2 : Value) (xs ys : List Int) (b : Bool) (w : World) (hb : begsB xs ys = b) (h1 : RdC w v1 xs) (h2 : RdC w v2 ys) :
    Calls Try.prog 94 #[v1, v2] w fun e w' => e = .returned (.bool b) ∧ ∃ n, w' = w.drewN n := by
  subst hb; exact bkBegins_any v1 v2 xs ys w h1 h2

set_option maxRecDepth 100000 in
set_option maxHeartbeats 2000000 in
theorem spWays_any (v u : Value) (ps : List Ph) (zs : List Int) (f : Nat → Int) (w : World) (hb : bookB ps = true) (hz : zs.length ≤ 60) (hr : RdPs w v ps) (hu : RdC w u zs) (hf : Counts zs.length (sigSt ps zs) f) :
    Calls Try.prog 68 #[.agg #[v], u] w fun e w' => ∃ g, e = .returned (.slice (some ⟨g, 0, none⟩) (zs.length + 1) (zs.length + 1)) ∧ RowF w' w.heap.size 3 1 (.slice (some ⟨g, 0, none⟩) (zs.length + 1) (zs.length + 1)) (zs.length + 1) (fun j => .int .i64 (f j)) ∧ Below w.heap.size w w' := by
  obtain ⟨i0, hi, hz0, hz1, hz2⟩ := info_parts Try_info_int
  obtain ⟨a, cap, rfl, -⟩ := hr.len
  obtain ⟨-, au, cu, rfl, hcu⟩ := id hu
  have hp40 := (bookB_len hb).2
  obtain ⟨n, hn⟩ : ∃ n, n = zs.length := ⟨_, rfl⟩
  obtain ⟨np, hnp⟩ : ∃ np, np = ps.length := ⟨_, rfl⟩
  have HN := Lib.hid hn
  have HNP := Lib.hid hnp
  have HB := Lib.hid hb
  have HF := Lib.hid hf
  have hb0 := (Below.refl w.heap.size w).alloc (Nat.le_refl _) (.cells #[.slice a ps.length cap] 31)
  have HR := Lib.hid (hr.later hb0)
  have HU := Lib.hid (hu.later hb0)
  have hx0 : (w.alloc (.cells #[.slice a ps.length cap] 31)).cell? ⟨w.heap.size, 0, none⟩ = some (.slice a ps.length cap) := by simp [go_sem]
  have hsz0 : w.heap.size < (w.alloc (.cells #[.slice a ps.length cap] 31)).heap.size := by simp
  rw [← hn] at hz hcu ⊢
  rw [← hnp] at hb0 hx0 hsz0 HR hp40 HU ⊢
  rw [← hn] at HU
  clear hn hnp hb hf hr hu
  obtain ⟨m, hm⟩ : ∃ m, m = n + 1 := ⟨_, rfl⟩
  have HM := Lib.hid hm
  have hm2 : (n : Int) < (m : Int) := by omega
  have hm3 : n < m := by omega
  have hm4 : m ≤ 61 := by omega
  have hw1 : IntKind.i64.wrap ((n : Int) + 1) = (m : Int) := by rw [hm]; exact IntWalk.i64_in _ (by omega)
  obtain ⟨z0, hz0'⟩ : ∃ z0 : Int, z0 = (n : Int) - 1 := ⟨_, rfl⟩
  have HZ := Lib.hid hz0'
  have hw2 : IntKind.i64.wrap ((n : Int) - 1) = z0 := by rw [hz0']; exact IntWalk.i64_in _ (by omega)
  rw [← hm]
  clear hm hz0'
  go_enter Try.func68, Try.ntmps68
  go_wp2_with (generalize w.alloc (.cells #[.slice a np cap] 31) = W at *; refine wpList_make_full _ rfl _ _ 26 rfl W.heap.size 3 i0 (.int .i64 0) 1 Try.underlying26 hi hz0 hz1 .i64 .i64 _ _ m rfl rfl rfl rfl (by rw [hz2]; omega) (by unfold maxLen; omega) (Nat.le_refl _) ?_; intro w1 hown1 hgrow1; have ho0 := made_row hown1 hgrow1; obtain ⟨ho0, hb1⟩ := ho0; have hc0 := ho0.at_ n (by omega); have hf0 := ho0.frozen n; have HP := Lib.hid (ho0.put n (.int .i64 1)); have hs0 := ho0.lt.2; clear hown1 hgrow1 ho0)
  have hst0 : RowF (w1.setCell ⟨W.heap.size, n, none⟩ (.int .i64 1)) W.heap.size 3 1 (.slice (some ⟨W.heap.size, 0, none⟩) m m) m (fun j => .int .i64 (if n ≤ j then f j else 0)) := HP.out.1.congr fun j hj => by
    have hj' : j < n + 1 := by have := HM.out; omega
    show (if j = n then _ else _) = _
    by_cases e : j = n
    · subst e; rw [if_pos rfl, if_pos (Nat.le_refl _)]; have := HF.out.1; rw [← HN.out] at this; rw [this]
    · rw [if_neg e, if_neg (by omega)]
  have HS0 := Lib.hid hst0
  have hbS := hb1.setCell (p := ⟨W.heap.size, n, none⟩) (Nat.le_refl _) (.int .i64 1)
  clear hst0
  go_loopw [6] (fun i wr => ∃ (k : Nat) (z : Int), k ≤ n ∧ i = .int .i64 z ∧ Hid (z = (k : Int) - 1) ∧ RowF wr W.heap.size 3 1 (.slice (some ⟨W.heap.size, 0, none⟩) m m) m (fun j => .int .i64 (if k ≤ j then f j else 0)) ∧ Below W.heap.size W wr ∧ W.heap.size < wr.heap.size) (fun i _ => (intOf i + 1).toNat)
  case atStart => exact ⟨n, _, Nat.le_refl _, rfl, HZ, HS0.out, hbS, by simpa using hs0⟩
  case round =>
    obtain ⟨k, z, hk, rfl, hz, hrow, hbl, hsz⟩ := hrel
    rcases Nat.eq_zero_or_pos k with rfl | hpos
    · obtain rfl : z = -1 := by have := hz.out; omega
      go_wp2
      go_ret
      refine ⟨_, rfl, ?_, hb0.trans (hbl.mono hb0.size)⟩
      have h := hrow.congr (G := fun j => .int .i64 (f j)) fun j hj => by rw [if_pos (Nat.zero_le _)]
      exact row_base h hb0.size
    · obtain ⟨at_, rfl⟩ : ∃ at_ : Nat, z = (at_ : Int) := ⟨k - 1, by have := hz.out; omega⟩
      have ha1 : at_ < n := by have := hz.out; omega
      have HK : Hid (k = at_ + 1) := Lib.hid (by have := hz.out; omega)
      have HR2 : Hid (RowF wr W.heap.size 3 1 (.slice (some ⟨W.heap.size, 0, none⟩) m m) m (fun j => .int .i64 (if at_ < j then f j else if j = at_ then foldW f (sigTo ps zs at_ 0) else 0))) := Lib.hid (hrow.congr fun j hj => by
        have := HK.out
        by_cases h1 : at_ < j
        · rw [if_pos h1, if_pos (by omega)]
        · rw [if_neg h1, if_neg (by omega)]
          by_cases h2 : j = at_
          · rw [if_pos h2]; rfl
          · rw [if_neg h2])
      have hxw := hx0 ▸ hbl.cell (p := ⟨w.heap.size, 0, none⟩) hsz0
      have ha2 : (at_ : Int) < (n : Int) := by omega
      obtain ⟨gu, offu, hau⟩ := HU.out.some_ (by omega)
      have HUD : Hid (∀ wx, Below W.heap.size W wx → RdC wx (.slice (some ⟨gu, offu + at_, none⟩) (n - at_) (cu - at_)) (zs.drop at_)) := Lib.hid fun wx hx => by
        have h := HU.out.below hx (Nat.le_refl _)
        rw [hau] at h
        exact h.drop at_ (by omega)
      subst hau
      have hwa : IntKind.i64.wrap ((at_ : Int) - 1) = (at_ : Int) - 1 := IntWalk.i64_in _ (by omega)
      have hcu2 : (n : Int) ≤ (cu : Int) := by omega
      have hcu3 : at_ ≤ cu := by omega
      have hcu4 : (at_ : Int) ≤ (n : Int) := by omega
      have hcu5 : at_ ≤ n := by omega
      have hcu6 : ¬ cu = at_ := by omega
      clear hrow hk hpos hz
      rename World => WL
      go_wp2
      go_loopw [27] (fun i wr => ∃ q : Nat, q ≤ np ∧ i = .int .i64 q ∧ RowF wr W.heap.size 3 1 (.slice (some ⟨W.heap.size, 0, none⟩) m m) m (fun j => .int .i64 (if at_ < j then f j else if j = at_ then foldW f (sigTo ps zs at_ q) else 0)) ∧ Below W.heap.size W wr ∧ W.heap.size < wr.heap.size) (fun i _ => np - (intOf i).toNat)
      case atStart => exact ⟨0, Nat.zero_le _, rfl, HR2.out, hbl, hsz⟩
      case round =>
        obtain ⟨q, hq, rfl, hrow, hblq, hszq⟩ := hrel
        by_cases hlt : q < np
        · obtain ⟨g, off, us, hag, hg, hts, hd0, hd1, hru⟩ := (HR.out.below hblq (Nat.le_refl _)).at_ HNP.out q hlt
          subst hag
          obtain ⟨ua, uc, rfl⟩ := hru.rd.len
          have hbA := (Below.refl wr.heap.size wr).alloc (Nat.le_refl _) (.cells #[.string (phAt ps q).txt, .slice ua (phAt ps q).sig.length uc] 65)
          have hrA := hrow.later hbA
          have HSG := Lib.hid (hru.later hbA)
          have hblA := hblq.trans (hbA.mono hblq.size)
          have HDR := Lib.hid (HUD.out _ hblA)
          have hx1 : (wr.alloc (.cells #[.string (phAt ps q).txt, .slice ua (phAt ps q).sig.length uc] 65)).cell? ⟨wr.heap.size, 1, none⟩ = some (.slice ua (phAt ps q).sig.length uc) := by simp [go_sem]
          have hszA : W.heap.size < (wr.alloc (.cells #[.string (phAt ps q).txt, .slice ua (phAt ps q).sig.length uc] 65)).heap.size := by simp; omega
          have hszB : wr.heap.size < (wr.alloc (.cells #[.string (phAt ps q).txt, .slice ua (phAt ps q).sig.length uc] 65)).heap.size := by simp
          obtain ⟨hs1, hs3⟩ := book_sig HB.out (by rw [← HNP.out]; exact hlt)
          obtain ⟨sl, hsl⟩ : ∃ sl, sl = (phAt ps q).sig.length := ⟨_, rfl⟩
          have HSL := Lib.hid hsl
          clear hru hrow hblq
          cases hfit : begsB (phAt ps q).sig (zs.drop at_) with
          | false =>
            have HST : Hid (sigTo ps zs at_ (q + 1) = sigTo ps zs at_ q) := Lib.hid (stepsOf_no hfit)
            go_wp2
            generalize wr.alloc (.cells #[.string (phAt ps q).txt, .slice ua (phAt ps q).sig.length uc] 65) = WX at *
            generalize wr.heap.size = BX at *
            go_quiet ((go_at_call 94; exact Calls.quiet_of (bkBegins_is _ _ (phAt ps q).sig (zs.drop at_) false _ hfit (HSG.out.drewN _) (HDR.out.drewN _))))
            go_wp2
            go_roundw
            case rel => exact ⟨q + 1, by omega, by go_num, by rw [HST.out]; exact hrA.later (below_drewN (Below.refl _ _) _), below_drewN hblA _, by simpa using hszA⟩
            case measure => simp [intOf]; omega
          | true =>
            have HST : Hid (sigTo ps zs at_ (q + 1) = sigTo ps zs at_ q ++ [(q, at_ + (phAt ps q).sig.length)]) := Lib.hid (stepsOf_yes hfit)
            have hle := begsB_le hfit
            rw [List.length_drop, ← HN.out, ← hsl] at hle
            rw [← hsl] at HST hx1 hs1 hs3 hszA hszB hblA hrA HSG HDR hd1 hbA
            obtain ⟨A, hA⟩ : ∃ A, A = foldW f (sigTo ps zs at_ q) := ⟨_, rfl⟩
            have HAA := Lib.hid hA
            obtain ⟨en, hen⟩ : ∃ en, en = at_ + sl := ⟨_, rfl⟩
            have HEN := Lib.hid hen
            have he1 : at_ < en := by omega
            have he2 : (en : Int) < (m : Int) := by have := HM.out; omega
            have he4 : en < m := by have := HM.out; omega
            have he3 : (at_ : Int) < (m : Int) := by omega
            have hwe : IntKind.i64.wrap ((at_ : Int) + (sl : Int)) = (en : Int) := by rw [hen]; exact IntWalk.i64_in _ (by omega)
            rw [← hen] at HST
            clear hen hsl
            go_wp2
            generalize wr.alloc (.cells #[.string (phAt ps q).txt, .slice ua sl uc] 65) = WX at *
            generalize wr.heap.size = BX at *
            go_quiet ((go_at_call 94; exact Calls.quiet_of (bkBegins_is _ _ (phAt ps q).sig (zs.drop at_) true _ hfit (HSG.out.drewN _) (HDR.out.drewN _))))
            have hbD := below_drewN (Below.refl WX.heap.size WX) nq
            have hrD := hrA.later hbD
            have hcD : (WX.drewN nq).cell? ⟨BX, 1, none⟩ = some (.slice ua sl uc) := by rw [hbD.cell (p := ⟨BX, 1, none⟩) hszB]; exact hx1
            have hblD := hblA.trans (hbD.mono hblA.size)
            have hszD : W.heap.size < (WX.drewN nq).heap.size := by simpa using hszA
            clear hx1 hrA
            generalize WX.drewN nq = WY at *
            have hca := hrD.at_ at_ (by omega)
            have hce := hrD.at_ en (by omega)
            have hfa := hrD.frozen at_
            rw [if_neg (by omega), if_pos rfl, ← hA] at hca
            rw [if_pos he1] at hce
            have HPA := Lib.hid (hrD.put at_ (.int .i64 (wrap64 (A + f en))))
            clear hrD hA
            go_wp2
            go_region
            go_wp2
            go_roundw
            case rel =>
              refine ⟨q + 1, by omega, by go_num, ?_, ((hblD.setCell (p := ⟨W.heap.size, at_, none⟩) (Nat.le_refl _) _).drew), by simpa using hszD⟩
              refine RowF.later (HPA.out.1.congr fun j hj => ?_) ((Below.refl _ _).drew)
              show (if j = at_ then _ else _) = _
              by_cases e : j = at_
              · subst e; rw [if_pos rfl, if_neg (Nat.lt_irrefl _), if_pos rfl, HST.out, foldW_snoc, HAA.out]
              · rw [if_neg e]
                by_cases h1 : at_ < j
                · rw [if_pos h1, if_pos h1]
                · rw [if_neg h1, if_neg h1, if_neg e, if_neg e]
            case measure => simp [intOf]; omega
        · have : q = np := by omega
          subst this
          have HR3 : Hid (RowF wr W.heap.size 3 1 (.slice (some ⟨W.heap.size, 0, none⟩) m m) m (fun j => .int .i64 (if at_ ≤ j then f j else 0))) := Lib.hid (hrow.congr fun j hj => by
            by_cases h1 : at_ < j
            · rw [if_pos h1, if_pos (by omega)]
            · rw [if_neg h1]
              by_cases h2 : j = at_
              · subst h2
                have := HF.out.2 j (by rw [← HN.out]; exact ha1)
                rw [if_pos rfl, if_pos (Nat.le_refl _), this, HNP.out]; rfl
              · rw [if_neg h2, if_neg (by omega)])
          clear hrow
          go_wp2
          go_roundw
          case rel => exact ⟨at_, (at_ : Int) - 1, by omega, rfl, Lib.hid rfl, HR3.out, hblq, hszq⟩
          case measure => simp [intOf]
end Go.Proofs.Ytpogpehbkgjiaaa
