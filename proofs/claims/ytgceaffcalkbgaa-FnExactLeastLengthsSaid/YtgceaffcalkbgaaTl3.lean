/- Chapter 4: LeastLengths and LeastCost of the program, whatever comes. -/
import Derived.Test.YtgceaffcalkbgaaTl2
namespace Go.Proofs.Ytgceaffcalkbgaa
open Go.RowKit
set_option linter.unusedSimpArgs false
set_option linter.unusedVariables false

theorem leL_small (ws : List Int) (r l : Int) : (leL ws r l).length ≤ 20 := by
  cases h : leB ws r l with
  | false => rw [leL_no h]; simp
  | true =>
    have h' := h
    simp only [leB, Bool.and_eq_true] at h'
    have := wtB_len (lk_parts h'.1).1
    have := leL_len ws r l
    omega
theorem implLeast_any (v : Value) (ws : List Int) (r l : Int) (w : World) (h1 : Rd w v ws) :
    Calls Try.prog 15 #[v, .int .i64 r, .int .i64 l] w fun e w' => ∃ v', e = .returned (.tuple #[v', .bool (leB ws r l)]) ∧ OwnI w' w.heap.size w'.heap.size v' (leL ws r l) ∧ Below w.heap.size w w' := by
  cases hk : lkB ws r l with
  | true =>
    obtain ⟨hw, ⟨r1, r2⟩, l1, l2⟩ := lk_parts hk
    obtain ⟨R, rfl⟩ := Int.eq_ofNat_of_zero_le (show 0 ≤ r by omega)
    obtain ⟨L, rfl⟩ := Int.eq_ofNat_of_zero_le (show 0 ≤ l by omega)
    have hle : leB ws (R : Int) (L : Int) = hasL ws R L := by simp [leB, hk]
    have hlL : leL ws (R : Int) (L : Int) = if hasL ws R L then outT ws (seqL ws R L) ws.length else [] := by rw [leL, hle]; simp
    rw [hle, hlL]
    exact implLeast_aux v ws R L w _ _ (Lib.hid rfl) (Lib.hid rfl) hw (by omega) (by omega) (by omega) (by omega) h1
  | false =>
    have HN := Lib.hid (leB_no hk)
    rw [HN.out.1, HN.out.2]
    obtain ⟨a1, c1, rfl⟩ := h1.len
    have hbW := (Below.refl w.heap.size w).alloc (Nat.le_refl _) (.cells #[.slice a1 ws.length c1] 23)
    have hrW := Lib.hid (h1.later hbW)
    have HK := Lib.hid hk
    clear h1 hk
    cases hw : wtB ws with
    | false =>
      go_enter Try.func15, Try.ntmps15
      go_wp2_with fail
      refine (areWeights_any _ ws _ hrW.out).mono ?_
      rintro e w0 ⟨rfl, rfl⟩
      rw [hw]
      go_wp2
      go_ret2
      exact ⟨_, rfl, OwnI.nil _ _ _, hbW⟩
    | true =>
      cases hb : baB r with
      | false =>
        go_enter Try.func15, Try.ntmps15
        go_wp2_with fail
        refine (areWeights_any _ ws _ hrW.out).mono ?_
        rintro e w0 ⟨rfl, rfl⟩
        rw [hw]
        go_wp2_with fail
        refine (isBase_any _ _).mono ?_
        rintro e w0 ⟨rfl, rfl⟩
        rw [hb]
        go_wp2
        go_ret2
        exact ⟨_, rfl, OwnI.nil _ _ _, hbW⟩
      | true =>
        have hl : liB l = false := by
          have := HK.out
          rw [lkB, hw, hb, Bool.true_and, Bool.true_and] at this
          exact this
        go_enter Try.func15, Try.ntmps15
        go_wp2_with fail
        refine (areWeights_any _ ws _ hrW.out).mono ?_
        rintro e w0 ⟨rfl, rfl⟩
        rw [hw]
        go_wp2_with fail
        refine (isBase_any _ _).mono ?_
        rintro e w0 ⟨rfl, rfl⟩
        rw [hb]
        go_wp2_with fail
        refine (isLimit_any _ _).mono ?_
        rintro e w0 ⟨rfl, rfl⟩
        rw [hl]
        go_wp2
        go_ret2
        exact ⟨_, rfl, OwnI.nil _ _ _, hbW⟩

theorem implLeastCost_any (v : Value) (ws : List Int) (r l : Int) (w : World) (hr : Rd w v ws) :
    Calls Try.prog 17 #[v, .int .i64 r, .int .i64 l] w fun e w' => e = .returned (.tuple #[.int .i64 (okI (leB ws r l) (costL ws (leL ws r l))), .bool (leB ws r l)]) ∧ Below w.heap.size w w' := by
  have HR := Lib.hid hr
  obtain ⟨a, c, rfl⟩ := hr.len
  have HC := Lib.hid (implLeast_any _ ws r l w hr)
  clear hr
  cases hb : leB ws r l with
  | false =>
    rw [hb] at HC
    go_enter Try.func17, Try.ntmps17
    go_wp2_with (go_at_call 15; refine HC.out.mono ?_; rintro e w2 ⟨v2, rfl, ho2, hb2⟩)
    go_ret2
    exact ⟨by rw [okI_no rfl]; rfl, hb2⟩
  | true =>
    have hco := leL_co hb
    have HCO : Hid (∀ (v2 : Value) (w2 : World), Below w.heap.size w w2 → Rd w2 v2 (leL ws r l) → Calls Try.prog 20 #[.slice a ws.length c, v2] w2 fun e w' => e = .returned (.tuple #[.int .i64 (costL ws (leL ws r l)), .bool true]) ∧ Below w2.heap.size w2 w') := Lib.hid fun v2 w2 hb2 h2 => by
      have := implCost_any _ _ ws (leL ws r l) w2 (HR.out.later hb2) h2
      rw [hco, okI_yes rfl] at this
      exact this
    rw [hb] at HC
    go_enter Try.func17, Try.ntmps17
    go_wp2_with (first
      | (go_at_call 15; refine HC.out.mono ?_; rintro e w2 ⟨v2, rfl, ho2, hb2⟩)
      | (go_at_call 20; refine (HCO.out _ _ hb2 ho2.rd).mono ?_; rintro e w3 ⟨rfl, hb3⟩))
    go_ret2
    exact ⟨by rw [okI_yes rfl]; rfl, hb2.trans (hb3.mono hb2.size)⟩
end Go.Proofs.Ytgceaffcalkbgaa
