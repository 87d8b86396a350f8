/- Chapter 6: LinkBetween and SquareBetween of both sides. Written by a generator of this claim's author. -/
import Derived.Test.YteickcpmicifgaaNe7
namespace Go.Proofs.Yteickcpmicifgaa
open Go.RowKit Go.Sort
set_option linter.unusedSimpArgs false
set_option linter.unusedVariables false

def lbC (ts ls : List T3) (a b : Int) : Bool := hasB ts ls a && hasB ts ls b && decide (0 ≤ lkZ ls a b)
def sbC (ts ls : List T3) (a b : Int) : Bool := hasB ts ls a && hasB ts ls b
theorem hasB_no0 {ts ls : List T3} {a : Int} (h : netB ts ls = false) : hasB ts ls a = false := by simp [hasB, h]
theorem hasB_no1 {ts ls : List T3} {a : Int} (h : inB a 0 ((ts.length : Int) - 1) = false) : hasB ts ls a = false := by simp [hasB, h]
theorem hasB_ys {ts ls : List T3} {a : Int} (h : netB ts ls = true) (h1 : inB a 0 ((ts.length : Int) - 1) = true) : hasB ts ls a = true := by simp [hasB, h, h1]

set_option maxHeartbeats 1000000 in
theorem specLinkBetween_any (c0 c1 : Value) (ts ls : List T3) (a b : Int) (w : World) (hr : RdN w c0 c1 ts ls) :
    Calls Try.prog 18 #[.agg #[c0, c1], .int .i64 a, .int .i64 b] w fun e w' => e = .returned (resZ (lbC ts ls a b) (lkZ ls a b)) ∧ Below w.heap.size w w' := by
  have hm0 : (ts.length : Int) ≤ 9223372036854775807 := by have := hr.1.max; unfold maxLen at this; omega
  have hm1 : (ls.length : Int) ≤ 9223372036854775807 := by have := hr.2.max; unfold maxLen at this; omega
  obtain ⟨a0, p0, rfl, hp0⟩ := hr.1.len
  obtain ⟨a1, p1, rfl, hp1⟩ := hr.2.len
  obtain ⟨n, hn⟩ : ∃ n, n = ts.length := ⟨_, rfl⟩
  obtain ⟨m, hm⟩ : ∃ m, m = ls.length := ⟨_, rfl⟩
  rw [← hn] at hm0 hr hp0
  rw [← hm] at hm1 hr hp1
  rw [← hn, ← hm]
  have HN := Lib.hid hn
  have HM := Lib.hid hm
  clear hn hm
  have N0 := NB.start hr 31
  have h0 := N0.b0
  have h1 := N0.b1
  clear hr
  cases c0 : hasB ts ls a with
  | false =>
    have H0 := Lib.hid c0
    clear c0
    have HF := Lib.hid (resZ_no (c := lbC ts ls a b) (x := lkZ ls a b) (by unfold lbC; rw [H0.out]; rfl))
    go_enter Try.func18, Try.ntmps18
    go_wp2_with fail
    refine (neHas_b _ _ ts ls _ _ N0.rd H0.out).mono ?_
    rintro e w1 ⟨rfl, hb1⟩
    have N1 := N0.next hb1
    have h0 := N1.b0
    have h1 := N1.b1
    go_wp2
    go_ret2
    exact ⟨by rw [HF.out]; rfl, N1.below⟩
  | true =>
    have H0 := Lib.hid c0
    clear c0
    cases c1 : hasB ts ls b with
    | false =>
      have H1 := Lib.hid c1
      clear c1
      have HF := Lib.hid (resZ_no (c := lbC ts ls a b) (x := lkZ ls a b) (by unfold lbC; rw [H0.out, H1.out]; rfl))
      go_enter Try.func18, Try.ntmps18
      go_wp2_with fail
      refine (neHas_b _ _ ts ls _ _ N0.rd H0.out).mono ?_
      rintro e w1 ⟨rfl, hb1⟩
      have N1 := N0.next hb1
      have h0 := N1.b0
      have h1 := N1.b1
      go_wp2_with fail
      refine (neHas_b _ _ ts ls _ _ N1.rd H1.out).mono ?_
      rintro e w2 ⟨rfl, hb2⟩
      have N2 := N1.next hb2
      have h0 := N2.b0
      have h1 := N2.b1
      go_wp2
      go_ret2
      exact ⟨by rw [HF.out]; rfl, N2.below⟩
    | true =>
      have H1 := Lib.hid c1
      clear c1
      go_enter Try.func18, Try.ntmps18
      go_wp2_with fail
      refine (neHas_b _ _ ts ls _ _ N0.rd H0.out).mono ?_
      rintro e w1 ⟨rfl, hb1⟩
      have N1 := N0.next hb1
      have h0 := N1.b0
      have h1 := N1.b1
      go_wp2_with fail
      refine (neHas_b _ _ ts ls _ _ N1.rd H1.out).mono ?_
      rintro e w2 ⟨rfl, hb2⟩
      have N2 := N1.next hb2
      have h0 := N2.b0
      have h1 := N2.b1
      have NL := Lib.hid (neLink_any _ _ ts ls a b _ N2.rd)
      obtain ⟨z, hz⟩ : ∃ z, lkZ ls a b = z := ⟨_, rfl⟩
      go_wp2_with fail
      refine (NL.out).mono ?_
      rintro e w3 ⟨rfl, hb3⟩
      have N3 := N2.next hb3
      have h0 := N3.b0
      have h1 := N3.b1
      rw [hz]
      by_cases hneg : z < 0
      · have HF := Lib.hid (resZ_no (c := lbC ts ls a b) (x := lkZ ls a b) (by unfold lbC; rw [hz]; simp; omega))
        clear hz
        go_wp2
        go_ret2
        exact ⟨by rw [HF.out]; rfl, N3.below⟩
      · have HF := Lib.hid (resZ_yes (c := lbC ts ls a b) (x := lkZ ls a b) (by unfold lbC; rw [hz, H0.out, H1.out]; simp; omega))
        have HZ := Lib.hid hz
        clear hz
        have NL2 := Lib.hid (neLink_any _ _ ts ls a b _ N3.rd)
        go_wp2_with fail
        refine (NL2.out).mono ?_
        rintro e w4 ⟨rfl, hb4⟩
        have N4 := N3.next hb4
        have h0 := N4.b0
        have h1 := N4.b1
        rw [HZ.out]
        go_wp2
        go_ret2
        exact ⟨by rw [HF.out, HZ.out]; rfl, N4.below⟩

set_option maxHeartbeats 1000000 in
theorem implLinkBetween_any (c0 c1 : Value) (ts ls : List T3) (a b : Int) (w : World) (hr : RdN w c0 c1 ts ls) :
    Calls Try.prog 19 #[.agg #[c0, c1], .int .i64 a, .int .i64 b] w fun e w' => e = .returned (resZ (lbC ts ls a b) (lkZ ls a b)) ∧ Below w.heap.size w w' := by
  have hm0 : (ts.length : Int) ≤ 9223372036854775807 := by have := hr.1.max; unfold maxLen at this; omega
  have hm1 : (ls.length : Int) ≤ 9223372036854775807 := by have := hr.2.max; unfold maxLen at this; omega
  obtain ⟨a0, p0, rfl, hp0⟩ := hr.1.len
  obtain ⟨a1, p1, rfl, hp1⟩ := hr.2.len
  obtain ⟨n, hn⟩ : ∃ n, n = ts.length := ⟨_, rfl⟩
  obtain ⟨m, hm⟩ : ∃ m, m = ls.length := ⟨_, rfl⟩
  rw [← hn] at hm0 hr hp0
  rw [← hm] at hm1 hr hp1
  rw [← hn, ← hm]
  have HN := Lib.hid hn
  have HM := Lib.hid hm
  clear hn hm
  have N0 := NB.start hr 31
  have h0 := N0.b0
  have h1 := N0.b1
  clear hr
  cases c0 : netB ts ls with
  | false =>
    have H0 := Lib.hid c0
    clear c0
    have HF := Lib.hid (resZ_no (c := lbC ts ls a b) (x := lkZ ls a b) (by unfold lbC; rw [hasB_no0 H0.out]; rfl))
    go_enter Try.func19, Try.ntmps19
    go_wp2_with fail
    refine (isNet_b _ _ ts ls _ N0.rd H0.out).mono ?_
    rintro e w1 ⟨rfl, hb1⟩
    have N1 := N0.next hb1
    have h0 := N1.b0
    have h1 := N1.b1
    go_wp2
    go_ret2
    exact ⟨by rw [HF.out]; rfl, N1.below⟩
  | true =>
    have H0 := Lib.hid c0
    clear c0
    cases c1 : inB a 0 ((n : Int) - 1) with
    | false =>
      have H1 := Lib.hid c1
      clear c1
      have HF := Lib.hid (resZ_no (c := lbC ts ls a b) (x := lkZ ls a b) (by unfold lbC; rw [hasB_no1 (by rw [← HN.out]; exact H1.out)]; rfl))
      go_enter Try.func19, Try.ntmps19
      go_wp2_with fail
      refine (isNet_b _ _ ts ls _ N0.rd H0.out).mono ?_
      rintro e w1 ⟨rfl, hb1⟩
      have N1 := N0.next hb1
      have h0 := N1.b0
      have h1 := N1.b1
      go_wp2_with fail
      refine (isTowerOf_b (b := false) _ _ ts ls _ _ N1.rd (by rw [← HN.out]; exact H1.out)).mono ?_
      rintro e w2 ⟨rfl, hb2⟩
      have N2 := N1.next hb2
      have h0 := N2.b0
      have h1 := N2.b1
      go_wp2
      go_ret2
      exact ⟨by rw [HF.out]; rfl, N2.below⟩
    | true =>
      have H1 := Lib.hid c1
      clear c1
      cases c2 : inB b 0 ((n : Int) - 1) with
      | false =>
        have H2 := Lib.hid c2
        clear c2
        have HF := Lib.hid (resZ_no (c := lbC ts ls a b) (x := lkZ ls a b) (by unfold lbC; rw [hasB_no1 (a := b) (by rw [← HN.out]; exact H2.out)]; simp))
        go_enter Try.func19, Try.ntmps19
        go_wp2_with fail
        refine (isNet_b _ _ ts ls _ N0.rd H0.out).mono ?_
        rintro e w1 ⟨rfl, hb1⟩
        have N1 := N0.next hb1
        have h0 := N1.b0
        have h1 := N1.b1
        go_wp2_with fail
        refine (isTowerOf_b (b := true) _ _ ts ls _ _ N1.rd (by rw [← HN.out]; exact H1.out)).mono ?_
        rintro e w2 ⟨rfl, hb2⟩
        have N2 := N1.next hb2
        have h0 := N2.b0
        have h1 := N2.b1
        go_wp2_with fail
        refine (isTowerOf_b (b := false) _ _ ts ls _ _ N2.rd (by rw [← HN.out]; exact H2.out)).mono ?_
        rintro e w3 ⟨rfl, hb3⟩
        have N3 := N2.next hb3
        have h0 := N3.b0
        have h1 := N3.b1
        go_wp2
        go_ret2
        exact ⟨by rw [HF.out]; rfl, N3.below⟩
      | true =>
        have H2 := Lib.hid c2
        clear c2
        go_enter Try.func19, Try.ntmps19
        go_wp2_with fail
        refine (isNet_b _ _ ts ls _ N0.rd H0.out).mono ?_
        rintro e w1 ⟨rfl, hb1⟩
        have N1 := N0.next hb1
        have h0 := N1.b0
        have h1 := N1.b1
        go_wp2_with fail
        refine (isTowerOf_b (b := true) _ _ ts ls _ _ N1.rd (by rw [← HN.out]; exact H1.out)).mono ?_
        rintro e w2 ⟨rfl, hb2⟩
        have N2 := N1.next hb2
        have h0 := N2.b0
        have h1 := N2.b1
        go_wp2_with fail
        refine (isTowerOf_b (b := true) _ _ ts ls _ _ N2.rd (by rw [← HN.out]; exact H2.out)).mono ?_
        rintro e w3 ⟨rfl, hb3⟩
        have N3 := N2.next hb3
        have h0 := N3.b0
        have h1 := N3.b1
        have HOK := Lib.hid (netB_iff.1 H0.out)
        have HA := Lib.hid (hasB_ys (ls := ls) H0.out (by rw [← HN.out]; exact H1.out))
        have HB := Lib.hid (hasB_ys (ls := ls) H0.out (by rw [← HN.out]; exact H2.out))
        have ha := (inB_iff.1 H1.out)
        have hb := (inB_iff.1 H2.out)
        rcases Int.lt_trichotomy a b with hab | hab | hab
        · have hba : a ≤ b := by omega
          have hbc : ¬ b ≤ a := by omega
          go_wp2_with fail
          refine (placeOfLink_any _ ls a b 0 _ (by have := HOK.out.l40; omega) (fun i j h1 h2 => HOK.out.lt h1 h2) N3.rd.2).mono ?_
          rintro e w4 ⟨p, hp, rfl, hb4⟩
          have N4 := N3.next hb4
          have HL := Lib.hid (lkZ_place HOK.out (a := a) (b := b) (.inl ⟨Int.le_of_lt hab, rfl, rfl⟩) hp)
          clear hp
          cases hf : fndB ls ⟨a, b, 0⟩ p with
          | false =>
            have HF := Lib.hid (resZ_no (c := lbC ts ls a b) (x := lkZ ls a b) (by unfold lbC; rw [HL.out.2 hf]; simp))
            clear hf
            go_wp2
            go_ret2
            exact ⟨by rw [HF.out]; rfl, N4.below⟩
          | true =>
            have hz := HL.out.1 hf
            have HF := Lib.hid (resZ_yes (c := lbC ts ls a b) (x := lkZ ls a b) (by unfold lbC; simp [hz, HA.out, HB.out]))
            have HZ := Lib.hid hz
            clear hf hz
            go_wp2
            go_ret2
            exact ⟨by rw [HF.out, HZ.out]; rfl, N4.below⟩
        · subst hab
          go_wp2_with fail
          refine (placeOfLink_any _ ls a a 0 _ (by have := HOK.out.l40; omega) (fun i j h1 h2 => HOK.out.lt h1 h2) N3.rd.2).mono ?_
          rintro e w4 ⟨p, hp, rfl, hb4⟩
          have N4 := N3.next hb4
          have HL := Lib.hid (lkZ_place HOK.out (a := a) (b := a) (.inl ⟨Int.le_refl _, rfl, rfl⟩) hp)
          clear hp
          cases hf : fndB ls ⟨a, a, 0⟩ p with
          | false =>
            have HF := Lib.hid (resZ_no (c := lbC ts ls a a) (x := lkZ ls a a) (by unfold lbC; rw [HL.out.2 hf]; simp))
            clear hf
            go_wp2
            go_ret2
            exact ⟨by rw [HF.out]; rfl, N4.below⟩
          | true =>
            have hz := HL.out.1 hf
            have HF := Lib.hid (resZ_yes (c := lbC ts ls a a) (x := lkZ ls a a) (by unfold lbC; simp [hz, HA.out, HB.out]))
            have HZ := Lib.hid hz
            clear hf hz
            go_wp2
            go_ret2
            exact ⟨by rw [HF.out, HZ.out]; rfl, N4.below⟩
        · have hba : ¬ a ≤ b := by omega
          have hbc : b ≤ a := by omega
          go_wp2_with fail
          refine (placeOfLink_any _ ls b a 0 _ (by have := HOK.out.l40; omega) (fun i j h1 h2 => HOK.out.lt h1 h2) N3.rd.2).mono ?_
          rintro e w4 ⟨p, hp, rfl, hb4⟩
          have N4 := N3.next hb4
          have HL := Lib.hid (lkZ_place HOK.out (a := a) (b := b) (.inr ⟨hab, rfl, rfl⟩) hp)
          clear hp
          cases hf : fndB ls ⟨b, a, 0⟩ p with
          | false =>
            have HF := Lib.hid (resZ_no (c := lbC ts ls a b) (x := lkZ ls a b) (by unfold lbC; rw [HL.out.2 hf]; simp))
            clear hf
            go_wp2
            go_ret2
            exact ⟨by rw [HF.out]; rfl, N4.below⟩
          | true =>
            have hz := HL.out.1 hf
            have HF := Lib.hid (resZ_yes (c := lbC ts ls a b) (x := lkZ ls a b) (by unfold lbC; simp [hz, HA.out, HB.out]))
            have HZ := Lib.hid hz
            clear hf hz
            go_wp2
            go_ret2
            exact ⟨by rw [HF.out, HZ.out]; rfl, N4.below⟩

set_option maxHeartbeats 1000000 in
theorem specSquareBetween_any (c0 c1 : Value) (ts ls : List T3) (a b : Int) (w : World) (hr : RdN w c0 c1 ts ls) :
    Calls Try.prog 30 #[.agg #[c0, c1], .int .i64 a, .int .i64 b] w fun e w' => e = .returned (resZ (sbC ts ls a b) (sqZ ts a.toNat b.toNat)) ∧ Below w.heap.size w w' := by
  have hm0 : (ts.length : Int) ≤ 9223372036854775807 := by have := hr.1.max; unfold maxLen at this; omega
  have hm1 : (ls.length : Int) ≤ 9223372036854775807 := by have := hr.2.max; unfold maxLen at this; omega
  obtain ⟨a0, p0, rfl, hp0⟩ := hr.1.len
  obtain ⟨a1, p1, rfl, hp1⟩ := hr.2.len
  obtain ⟨n, hn⟩ : ∃ n, n = ts.length := ⟨_, rfl⟩
  obtain ⟨m, hm⟩ : ∃ m, m = ls.length := ⟨_, rfl⟩
  rw [← hn] at hm0 hr hp0
  rw [← hm] at hm1 hr hp1
  rw [← hn, ← hm]
  have HN := Lib.hid hn
  have HM := Lib.hid hm
  clear hn hm
  have N0 := NB.start hr 31
  have h0 := N0.b0
  have h1 := N0.b1
  clear hr
  cases c0 : hasB ts ls a with
  | false =>
    have H0 := Lib.hid c0
    clear c0
    have HF := Lib.hid (resZ_no (c := sbC ts ls a b) (x := sqZ ts a.toNat b.toNat) (by unfold sbC; rw [H0.out]; simp))
    go_enter Try.func30, Try.ntmps30
    go_wp2_with fail
    refine (neHas_b _ _ ts ls _ _ N0.rd H0.out).mono ?_
    rintro e w1 ⟨rfl, hb1⟩
    have N1 := N0.next hb1
    have h0 := N1.b0
    have h1 := N1.b1
    go_wp2
    go_ret2
    exact ⟨by rw [HF.out]; rfl, N1.below⟩
  | true =>
    have H0 := Lib.hid c0
    clear c0
    cases c1 : hasB ts ls b with
    | false =>
      have H1 := Lib.hid c1
      clear c1
      have HF := Lib.hid (resZ_no (c := sbC ts ls a b) (x := sqZ ts a.toNat b.toNat) (by unfold sbC; rw [H1.out]; simp))
      go_enter Try.func30, Try.ntmps30
      go_wp2_with fail
      refine (neHas_b _ _ ts ls _ _ N0.rd H0.out).mono ?_
      rintro e w1 ⟨rfl, hb1⟩
      have N1 := N0.next hb1
      have h0 := N1.b0
      have h1 := N1.b1
      go_wp2_with fail
      refine (neHas_b _ _ ts ls _ _ N1.rd H1.out).mono ?_
      rintro e w2 ⟨rfl, hb2⟩
      have N2 := N1.next hb2
      have h0 := N2.b0
      have h1 := N2.b1
      go_wp2
      go_ret2
      exact ⟨by rw [HF.out]; rfl, N2.below⟩
    | true =>
      have H1 := Lib.hid c1
      clear c1
      go_enter Try.func30, Try.ntmps30
      go_wp2_with fail
      refine (neHas_b _ _ ts ls _ _ N0.rd H0.out).mono ?_
      rintro e w1 ⟨rfl, hb1⟩
      have N1 := N0.next hb1
      have h0 := N1.b0
      have h1 := N1.b1
      go_wp2_with fail
      refine (neHas_b _ _ ts ls _ _ N1.rd H1.out).mono ?_
      rintro e w2 ⟨rfl, hb2⟩
      have N2 := N1.next hb2
      have h0 := N2.b0
      have h1 := N2.b1
      obtain ⟨hok, ka, hka, hka1⟩ := hasB_ok H0.out
      obtain ⟨-, kb, hkb, hkb1⟩ := hasB_ok H1.out
      have HSQ := Lib.hid (neSquare_any _ _ ts ls ka kb _ N2.rd hok hka1 hkb1)
      have HF := Lib.hid (resZ_yes (c := sbC ts ls a b) (x := sqZ ts a.toNat b.toNat) (by unfold sbC; rw [H0.out, H1.out]; rfl))
      have HE : Hid (sqZ ts a.toNat b.toNat = sqZ ts ka kb) := Lib.hid (by rw [hka, hkb]; rfl)
      subst hka hkb
      go_wp2_with fail
      refine (HSQ.out).mono ?_
      rintro e w3 ⟨rfl, hb3⟩
      have N3 := N2.next hb3
      have h0 := N3.b0
      have h1 := N3.b1
      go_wp2
      go_ret2
      exact ⟨by rw [HF.out, HE.out]; rfl, N3.below⟩

set_option maxHeartbeats 1000000 in
theorem implSquareBetween_any (c0 c1 : Value) (ts ls : List T3) (a b : Int) (w : World) (hr : RdN w c0 c1 ts ls) :
    Calls Try.prog 31 #[.agg #[c0, c1], .int .i64 a, .int .i64 b] w fun e w' => e = .returned (resZ (sbC ts ls a b) (sqZ ts a.toNat b.toNat)) ∧ Below w.heap.size w w' := by
  have hm0 : (ts.length : Int) ≤ 9223372036854775807 := by have := hr.1.max; unfold maxLen at this; omega
  have hm1 : (ls.length : Int) ≤ 9223372036854775807 := by have := hr.2.max; unfold maxLen at this; omega
  obtain ⟨a0, p0, rfl, hp0⟩ := hr.1.len
  obtain ⟨a1, p1, rfl, hp1⟩ := hr.2.len
  obtain ⟨n, hn⟩ : ∃ n, n = ts.length := ⟨_, rfl⟩
  obtain ⟨m, hm⟩ : ∃ m, m = ls.length := ⟨_, rfl⟩
  rw [← hn] at hm0 hr hp0
  rw [← hm] at hm1 hr hp1
  rw [← hn, ← hm]
  have HN := Lib.hid hn
  have HM := Lib.hid hm
  clear hn hm
  have N0 := NB.start hr 31
  have h0 := N0.b0
  have h1 := N0.b1
  clear hr
  cases c0 : netB ts ls with
  | false =>
    have H0 := Lib.hid c0
    clear c0
    have HF := Lib.hid (resZ_no (c := sbC ts ls a b) (x := sqZ ts a.toNat b.toNat) (by unfold sbC; rw [hasB_no0 H0.out]; rfl))
    go_enter Try.func31, Try.ntmps31
    go_wp2_with fail
    refine (isNet_b _ _ ts ls _ N0.rd H0.out).mono ?_
    rintro e w1 ⟨rfl, hb1⟩
    have N1 := N0.next hb1
    have h0 := N1.b0
    have h1 := N1.b1
    go_wp2
    go_ret2
    exact ⟨by rw [HF.out]; rfl, N1.below⟩
  | true =>
    have H0 := Lib.hid c0
    clear c0
    cases c1 : inB a 0 ((n : Int) - 1) with
    | false =>
      have H1 := Lib.hid c1
      clear c1
      have HF := Lib.hid (resZ_no (c := sbC ts ls a b) (x := sqZ ts a.toNat b.toNat) (by unfold sbC; rw [hasB_no1 (by rw [← HN.out]; exact H1.out)]; rfl))
      go_enter Try.func31, Try.ntmps31
      go_wp2_with fail
      refine (isNet_b _ _ ts ls _ N0.rd H0.out).mono ?_
      rintro e w1 ⟨rfl, hb1⟩
      have N1 := N0.next hb1
      have h0 := N1.b0
      have h1 := N1.b1
      go_wp2_with fail
      refine (isTowerOf_b (b := false) _ _ ts ls _ _ N1.rd (by rw [← HN.out]; exact H1.out)).mono ?_
      rintro e w2 ⟨rfl, hb2⟩
      have N2 := N1.next hb2
      have h0 := N2.b0
      have h1 := N2.b1
      go_wp2
      go_ret2
      exact ⟨by rw [HF.out]; rfl, N2.below⟩
    | true =>
      have H1 := Lib.hid c1
      clear c1
      cases c2 : inB b 0 ((n : Int) - 1) with
      | false =>
        have H2 := Lib.hid c2
        clear c2
        have HF := Lib.hid (resZ_no (c := sbC ts ls a b) (x := sqZ ts a.toNat b.toNat) (by unfold sbC; rw [hasB_no1 (a := b) (by rw [← HN.out]; exact H2.out)]; simp))
        go_enter Try.func31, Try.ntmps31
        go_wp2_with fail
        refine (isNet_b _ _ ts ls _ N0.rd H0.out).mono ?_
        rintro e w1 ⟨rfl, hb1⟩
        have N1 := N0.next hb1
        have h0 := N1.b0
        have h1 := N1.b1
        go_wp2_with fail
        refine (isTowerOf_b (b := true) _ _ ts ls _ _ N1.rd (by rw [← HN.out]; exact H1.out)).mono ?_
        rintro e w2 ⟨rfl, hb2⟩
        have N2 := N1.next hb2
        have h0 := N2.b0
        have h1 := N2.b1
        go_wp2_with fail
        refine (isTowerOf_b (b := false) _ _ ts ls _ _ N2.rd (by rw [← HN.out]; exact H2.out)).mono ?_
        rintro e w3 ⟨rfl, hb3⟩
        have N3 := N2.next hb3
        have h0 := N3.b0
        have h1 := N3.b1
        go_wp2
        go_ret2
        exact ⟨by rw [HF.out]; rfl, N3.below⟩
      | true =>
        have H2 := Lib.hid c2
        clear c2
        go_enter Try.func31, Try.ntmps31
        go_wp2_with fail
        refine (isNet_b _ _ ts ls _ N0.rd H0.out).mono ?_
        rintro e w1 ⟨rfl, hb1⟩
        have N1 := N0.next hb1
        have h0 := N1.b0
        have h1 := N1.b1
        go_wp2_with fail
        refine (isTowerOf_b (b := true) _ _ ts ls _ _ N1.rd (by rw [← HN.out]; exact H1.out)).mono ?_
        rintro e w2 ⟨rfl, hb2⟩
        have N2 := N1.next hb2
        have h0 := N2.b0
        have h1 := N2.b1
        go_wp2_with fail
        refine (isTowerOf_b (b := true) _ _ ts ls _ _ N2.rd (by rw [← HN.out]; exact H2.out)).mono ?_
        rintro e w3 ⟨rfl, hb3⟩
        have N3 := N2.next hb3
        have h0 := N3.b0
        have h1 := N3.b1
        have HOK := Lib.hid (netB_iff.1 H0.out)
        obtain ⟨-, ka, hka, hka1⟩ := hasB_ok (hasB_ys (ls := ls) H0.out (by rw [← HN.out]; exact H1.out))
        obtain ⟨-, kb, hkb, hkb1⟩ := hasB_ok (hasB_ys (ls := ls) H0.out (by rw [← HN.out]; exact H2.out))
        have HF := Lib.hid (resZ_yes (c := sbC ts ls a b) (x := sqZ ts a.toNat b.toNat) (by unfold sbC; rw [hasB_ys (a := a) H0.out (by rw [← HN.out]; exact H1.out), hasB_ys (a := b) H0.out (by rw [← HN.out]; exact H2.out)]; rfl))
        have HE : Hid (sqZ ts a.toNat b.toNat = sqZ ts ka kb) := Lib.hid (by rw [hka, hkb]; rfl)
        subst hka hkb
        rw [← HN.out] at hka1 hkb1
        obtain ⟨g, off, rfl, hg, q0, q1, q2⟩ := N3.rd.1.at3 HN.out ka hka1
        obtain ⟨g', off', hge, -, r0, r1, r2⟩ := N3.rd.1.at3 HN.out kb hkb1
        simp only [Option.some.injEq, Addr.mk.injEq, and_true] at hge
        obtain ⟨rfl, rfl⟩ := hge
        have K0 := cell_regrown h0
        have K1 := cell_regrown q0
        have K2 := cell_regrown q1
        have K3 := cell_regrown q2
        have K4 := cell_regrown r0
        have K5 := cell_regrown r1
        have K6 := cell_regrown r2
        have KC : ∀ d os, Calls Try.prog 63 #[.agg #[.int .i64 (rAt ts ka).x0, .int .i64 (rAt ts ka).x1, .int .i64 (rAt ts ka).x2], .agg #[.int .i64 (rAt ts kb).x0, .int .i64 (rAt ts kb).x1, .int .i64 (rAt ts kb).x2]] (grow (redrawn w3 d) os) fun e w'' => e = .returned (.int .i64 (sqZ ts ka kb)) ∧ ∃ p : Regrown, w'' = grow (redrawn w3 p.d) p.os :=
          fun d os => Calls.regrown_of (squareOf_any _ _ _ _ _ _ _ (HOK.out.tow ka (by rw [← HN.out]; exact hka1)).1 (HOK.out.tow ka (by rw [← HN.out]; exact hka1)).2.1 (HOK.out.tow kb (by rw [← HN.out]; exact hkb1)).1 (HOK.out.tow kb (by rw [← HN.out]; exact hkb1)).2.1)
        clear q0 q1 q2 r0 r1 r2
        go_wp2
        refine wp_region_quiet_below (by kernel_rfl) (by kernel_rfl) ?_
        repeat (go_big_quiet_step (first | (with_reducible exact KC _ _)))
        refine wpQuiet_nil ?_
        intro _ hw'
        obtain ⟨⟨dq, osq⟩, hw''⟩ := hw'
        subst hw''
        have hb4 := N3.below.trans ((below_regrown w3 dq osq).mono N3.below.size)
        clear K0 K1 K2 K3 K4 K5 K6 KC
        go_wp2
        go_ret2
        exact ⟨by rw [HF.out, HE.out]; rfl, hb4⟩

end Go.Proofs.Yteickcpmicifgaa
