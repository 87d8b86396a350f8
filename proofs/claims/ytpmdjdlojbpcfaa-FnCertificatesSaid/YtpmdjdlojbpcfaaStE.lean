/- Chapter 8: the least cover of the model. -/
import Derived.Test.YtpmdjdlojbpcfaaStD
namespace Go.Proofs.Ytpmdjdlojbpcfaa
open Go.RowKit
set_option linter.unusedSimpArgs false
set_option linter.unusedVariables false

theorem lc_skip {P : List Int → Bool} {m k : Nat} (h : P (nums k m) = false) : lcTo P m (k + 1) = lcTo P m k := by rw [lcTo_succ]; unfold lcStep; rw [h]; rfl
theorem lc_first {P : List Int → Bool} {m k : Nat} (h : P (nums k m) = true) (hr : lcTo P m k = none) : lcTo P m (k + 1) = some (nums k m) := by rw [lcTo_succ]; unfold lcStep; rw [h, hr]; rfl
theorem lc_take {P : List Int → Bool} {m k : Nat} {b : List Int} (h : P (nums k m) = true) (hr : lcTo P m k = some b) (hb : betB (nums k m) b = true) : lcTo P m (k + 1) = some (nums k m) := by
  rw [lcTo_succ]; unfold lcStep; rw [h, hr]; simp [hb]
theorem lc_keep {P : List Int → Bool} {m k : Nat} {b : List Int} (hr : lcTo P m k = some b) (hb : betB (nums k m) b = false) : lcTo P m (k + 1) = some b := by
  rw [lcTo_succ]; unfold lcStep; rw [hr]; simp [hb]
theorem bet_long {a b : List Int} (h : b.length < a.length) : betB a b = false := by
  simp only [betB, Bool.or_eq_false_iff, decide_eq_false_iff_not, Bool.and_eq_false_iff, beq_eq_false_iff_ne]; omega
theorem bet_short {a b : List Int} (h : a.length < b.length) : betB a b = true := by simp [betB, h]
theorem bet_same {a b : List Int} (h : a.length = b.length) : betB a b = lexB a b := by simp [betB, h]

theorem Own.f {w : World} {B : Nat} {v : Value} {zs : List Int} (h : Own w B v zs) : ∃ (a : Option Addr) (n c : Nat), v = .slice a n c ∧ zs.length = n := by
  obtain ⟨a, c, hv⟩ := h.rd.len
  exact ⟨a, _, c, hv, rfl⟩
set_option maxRecDepth 100000 in
set_option maxHeartbeats 4000000 in
theorem specLeastCover_any (v : Value) (L : List (List Int)) (n t : Int) (w : World) (hr : RdJ w v L) :
    Calls Try.prog 17 #[v, .int .i64 n, .int .i64 t] w (LcPost L n t w) := by
  have C0 := Lib.hid (stGood_any v L n w hr)
  have C1 := Lib.hid (l1In_any t 1 2 w)
  cases hs : stB L n with
  | false =>
    have hf := Lib.hid (lcR_no (L := L) (n := n) (t := t) (by simp [lcA, hs]))
    rw [hs] at C0
    clear hs hr
    go_enter Try.func17, Try.ntmps17
    go_wp2_with fail
    refine C0.out.mono ?_
    rintro e w1 ⟨rfl, rfl⟩
    go_wp2
    go_ret2
    exact LcPost.no hf.out (Below.refl _ _)
  | true =>
    rw [hs] at C0
    cases ht : inB t 1 2 with
    | false =>
      have hf := Lib.hid (lcR_no (L := L) (n := n) (t := t) (by simp [lcA, ht]))
      rw [ht] at C1
      clear hs ht hr
      go_enter Try.func17, Try.ntmps17
      go_wp2_with fail
      refine C0.out.mono ?_
      rintro e w1 ⟨rfl, rfl⟩
      go_wp2_with fail
      refine C1.out.mono ?_
      rintro e w1 ⟨rfl, rfl⟩
      go_wp2
      go_ret2
      exact LcPost.no hf.out (Below.refl _ _)
    | true =>
      have hf := lcR_yes (L := L) (n := n) (t := t) (by simp [lcA, hs, ht])
      rw [ht] at C1
      obtain ⟨ok, hne⟩ := stB_iff.1 hs
      obtain ⟨N, hN⟩ : ∃ N, n.toNat = N := ⟨_, rfl⟩
      obtain ⟨T, hT⟩ : ∃ T, t.toNat = T := ⟨_, rfl⟩
      have hte : t = (T : Int) := by have := inB_iff.1 ht; omega
      have hT1 : 1 ≤ T := by have := inB_iff.1 ht; omega
      rw [hN] at ok hne hf
      rw [hT] at hf
      subst hne hte
      have OK := Lib.hid ok
      have HR := Lib.hid hr
      have hm2 := ok.m2
      have h0 : lcP L N T (nums 0 L.length) = false := by
        have hn1 := ok.n1
        have : nums 0 L.length = [] := by simp [nums]
        rw [this]
        exact covB_no 0 (by omega) (by simp [cntS]; omega)
      have hl1 : lcTo (lcP L N T) L.length 1 = none := by rw [lc_skip h0]; rfl
      have hm1 := ok.m1
      obtain ⟨a, cap, rfl, -⟩ := hr.len
      obtain ⟨m, hme⟩ : ∃ m, m = L.length := ⟨_, rfl⟩
      have e1 := shl_i64 m (by omega)
      rw [← hme] at hf hm2 hm1 C0 HR hl1 ⊢
      have HM := Lib.hid hme
      have HL1 := Lib.hid hl1
      have hE := two12 hm2
      have hE2 : 2 ≤ 2 ^ m := by have := Nat.pow_le_pow_right (n := 2) (by decide) hm1; simpa using this
      obtain ⟨E, hEe⟩ : ∃ E, E = 2 ^ m := ⟨_, rfl⟩
      rw [← hEe] at e1 hE hE2 hf
      have HE := Lib.hid hEe
      have HF := Lib.hid hf
      clear hs ht hr hN hT ok hme hEe hf h0 hl1 hT1
      go_enter Try.func17, Try.ntmps17
      go_wp2_with fail
      refine C0.out.mono ?_
      rintro e w1 ⟨rfl, rfl⟩
      go_wp2_with fail
      refine C1.out.mono ?_
      rintro e w1 ⟨rfl, rfl⟩
      go_wp2
      go_loopw [8, 9, 10] (fun bv fv iv wr => ∃ (q : Nat) (r : Option (List Int)), q ≤ E ∧ iv = .int .i64 q ∧ fv = .bool r.isSome ∧ Hid (lcTo (lcP L N T) m q = r) ∧ Own wr w.heap.size bv (r.getD []) ∧ Below w.heap.size w wr) (fun _ _ iv _ => E - (intOf iv).toNat)
      case atStart => exact ⟨1, none, by omega, rfl, rfl, HL1, Own.nil _ _, Below.refl _ _⟩
      case round =>
        obtain ⟨q, r, hq, rfl, rfl, hrr, hown, hb⟩ := hrel
        by_cases hlt : q < E
        · go_wp2_with fail
          refine (stSet_m q m _ hm2 (by rw [← HE.out]; exact hlt)).mono ?_
          rintro e w2 ⟨v2, rfl, ho2, hb2⟩
          have hB2 := hb.trans (hb2.mono hb.size)
          have hown2 := hown.later hb2
          have C3 := stCovers_any _ v2 L N (nums q m) T w2 OK.out (by rw [← HM.out]; exact nums_ris q m) (HR.out.below hB2 (Nat.le_refl _)) ho2.rd
          have hl2 := nums_len q m
          have ho2b := ho2.base (show w.heap.size ≤ _ from hb.size)
          cases r with
          | none =>
            cases hp : lcP L N T (nums q m) with
            | false =>
              have hr' := Lib.hid ((lc_skip hp).trans hrr.out)
              rw [show covB L N (nums q m) T = false from hp] at C3
              have C4 := Lib.hid C3
              have HO := Lib.hid hown2
              obtain ⟨a2, c2, rfl⟩ := ho2.rd.len
              clear hp ho2 ho2b hown hown2 C3
              generalize (nums q m).length = y at *
              go_wp2_with fail
              refine C4.out.mono ?_
              rintro e w3 ⟨rfl, hb3⟩
              have hB3 := hB2.trans (hb3.mono hB2.size)
              go_wp2
              go_roundw
              case rel => exact ⟨q + 1, none, by omega, by go_num, rfl, hr', HO.out.later hb3, hB3⟩
              case measure => simp [intOf]; omega
            | true =>
              have hr' := Lib.hid (lc_first hp hrr.out)
              rw [show covB L N (nums q m) T = true from hp] at C3
              have C4 := Lib.hid C3
              have HO := Lib.hid ho2b
              obtain ⟨a2, c2, rfl⟩ := ho2.rd.len
              clear hp ho2 ho2b hown hown2 C3
              generalize hye : (nums q m).length = y at *
              clear hye
              go_wp2_with fail
              refine C4.out.mono ?_
              rintro e w3 ⟨rfl, hb3⟩
              have hB3 := hB2.trans (hb3.mono hB2.size)
              go_wp2
              go_roundw
              case rel => exact ⟨q + 1, _, by omega, by go_num, rfl, hr', HO.out.later hb3, hB3⟩
              case measure => simp [intOf]; omega
          | some b =>
            have hbl : b.length ≤ 12 := by have := lcTo_len (lcP L N T) m q; rw [hrr.out] at this; simp at this; omega
            replace hown2 : Own w2 w.heap.size _ b := hown2
            replace hown : Own wr w.heap.size _ b := hown
            obtain ⟨a2, y, c2, hv2, hy⟩ := ho2.f
            obtain ⟨a3, z, c3, hv3, hz⟩ := hown.f
            subst hv2 hv3
            rw [hz] at hbl
            rw [hy] at hl2
            have HO := Lib.hid hown2
            have HO2 := Lib.hid ho2b
            have HRD := Lib.hid ho2.rd
            have HRB := Lib.hid hown2.rd
            by_cases h1 : z < y
            · have hr' := Lib.hid (lc_keep hrr.out (bet_long (by rw [hy, hz]; exact h1)))
              clear ho2 ho2b hown hown2 C3 hy hz
              go_wp2
              go_roundw
              case rel => exact ⟨q + 1, some b, by omega, by go_num, rfl, hr', HO.out, hB2⟩
              case measure => simp [intOf]; omega
            · cases hp : lcP L N T (nums q m) with
              | false =>
                have hr' := Lib.hid ((lc_skip hp).trans hrr.out)
                rw [show covB L N (nums q m) T = false from hp] at C3
                have C4 := Lib.hid C3
                clear hp ho2 ho2b hown hown2 C3 hy hz
                go_wp2_with fail
                refine C4.out.mono ?_
                rintro e w3 ⟨rfl, hb3⟩
                have hB3 := hB2.trans (hb3.mono hB2.size)
                go_wp2
                go_roundw
                case rel => exact ⟨q + 1, some b, by omega, by go_num, rfl, hr', HO.out.later hb3, hB3⟩
                case measure => simp [intOf]; omega
              | true =>
                rw [show covB L N (nums q m) T = true from hp] at C3
                have C4 := Lib.hid C3
                by_cases h2 : y < z
                · have hr' := Lib.hid (lc_take hp hrr.out (bet_short (by rw [hy, hz]; exact h2)))
                  clear hp ho2 ho2b hown hown2 C3 hy hz
                  go_wp2_with fail
                  refine C4.out.mono ?_
                  rintro e w3 ⟨rfl, hb3⟩
                  have hB3 := hB2.trans (hb3.mono hB2.size)
                  go_wp2
                  go_roundw
                  case rel => exact ⟨q + 1, _, by omega, by go_num, rfl, hr', HO2.out.later hb3, hB3⟩
                  case measure => simp [intOf]; omega
                · have heq : (nums q m).length = b.length := by omega
                  have hbs := bet_same heq
                  have C5 := fun W (hW : Below w2.heap.size w2 W) => Lib.hid (stBefore_any _ _ (nums q m) b W heq (HRD.out.later hW) (HRB.out.later hW))
                  cases hx : lexB (nums q m) b with
                  | true =>
                    have hr' := Lib.hid (lc_take hp hrr.out (hbs.trans hx))
                    rw [hx] at C5
                    clear hp ho2 ho2b hown hown2 C3 hy hz heq hbs hx
                    go_wp2_with fail
                    refine C4.out.mono ?_
                    rintro e w3 ⟨rfl, hb3⟩
                    have hB3 := hB2.trans (hb3.mono hB2.size)
                    have C6 := Lib.hid (C5 _ hb3).out
                    clear C5
                    go_wp2_with fail
                    refine C6.out.mono ?_
                    rintro e w' ⟨rfl, rfl⟩
                    go_wp2
                    go_roundw
                    case rel => exact ⟨q + 1, _, by omega, by go_num, rfl, hr', HO2.out.later hb3, hB3⟩
                    case measure => simp [intOf]; omega
                  | false =>
                    have hr' := Lib.hid (lc_keep hrr.out (hbs.trans hx))
                    rw [hx] at C5
                    clear hp ho2 ho2b hown hown2 C3 hy hz heq hbs hx
                    go_wp2_with fail
                    refine C4.out.mono ?_
                    rintro e w3 ⟨rfl, hb3⟩
                    have hB3 := hB2.trans (hb3.mono hB2.size)
                    have C6 := Lib.hid (C5 _ hb3).out
                    clear C5
                    go_wp2_with fail
                    refine C6.out.mono ?_
                    rintro e w' ⟨rfl, rfl⟩
                    go_wp2
                    go_roundw
                    case rel => exact ⟨q + 1, some b, by omega, by go_num, rfl, hr', HO.out.later hb3, hB3⟩
                    case measure => simp [intOf]; omega
        · obtain rfl : q = E := by omega
          cases r with
          | none =>
            have hL := Lib.hid (HF.out.trans hrr.out)
            clear hown
            go_wp2
            go_ret2
            exact LcPost.no hL.out hb
          | some b =>
            have hL := Lib.hid (HF.out.trans hrr.out)
            have HO := Lib.hid (show Own wr w.heap.size _ b from hown)
            clear hown
            go_wp2
            go_ret2
            exact LcPost.yes hL.out HO.out hb
end Go.Proofs.Ytpmdjdlojbpcfaa
