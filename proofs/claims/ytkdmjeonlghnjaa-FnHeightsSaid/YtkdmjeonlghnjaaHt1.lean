/- The general law FnHeights. Written by a generator of this claim's author. -/
import Derived.Test.YtkdmjeonlghnjaaHt0
import Derived.Test.YtkdmjeonlghnjaaRows
namespace Go.Proofs.Ytkdmjeonlghnjaa
open Go.RowKit Go.Sort
set_option linter.unusedSimpArgs false
set_option linter.unusedVariables false

set_option maxRecDepth 100000 in
set_option maxHeartbeats 8000000 in
theorem walk_FnHeights (a0 : Option Addr) (n0 cap0 : Nat) (z0 : List Int) (a1 : Option Addr) (n1 cap1 : Nat) (z1 : List Int) (w : World) (w0r : IsRow .u8 w a0 n0 cap0 z0) (w1r : IsRow .u8 w a1 n1 cap1 z1) :
    Calls Try.prog 4 #[.slice a0 n0 cap0, .slice a1 n1 cap1] w fun e w' => e = .returned (.bool true) ∧ Below w.heap.size w w' := by
  have hu0 := RdU.of_row w0r
  have hu1 := RdU.of_row w1r
  clear w0r w1r
  have hm0 := hu0.1
  have hm1 := hu1.1
  unfold maxLen at hm0 hm1
  obtain ⟨S, hS0⟩ : ∃ S, IntKind.i64.wrap ((n0 : Int) + (n1 : Int)) = S := ⟨_, rfl⟩
  by_cases hbig : 1048576 < S
  · go_enter Try.func4, Try.ntmps4
    go_wp2
    go_ret
    exact ⟨rfl, Below.refl _ _⟩
  · go_enter Try.func4, Try.ntmps4
    go_wp2_with fail
    refine (drawLeastHeight a0 n0 cap0 w hu0).mono ?_
    rintro e w1 ⟨D, A, B, u, ts, m, rfl, oS, hl, hm, hb1⟩
    clear hm hl
    replace hu1 := (hu1.below (hb1.mono (Nat.le_refl _))).any hb1.size
    obtain ⟨au, cu, rfl, -⟩ := oS.rd.len
    have hS : ∀ k, (Value.slice au ts.length cu).ownBlock = some k → k < w1.heap.size := fun k hk => (oS.lt k hk).2
    have VS := Var4.new w1 (.int .i64 D) (.int .i64 A) (.int .i64 B) (.slice au ts.length cu) 25
    have al1 := (Below.refl w1.heap.size w1).alloc (Nat.le_refl _) (.cells #[.int .i64 D, .int .i64 A, .int .i64 B, .slice au ts.length cu] 25)
    replace oS := oS.later al1
    replace hu1 := (hu1.below al1).any al1.size
    have hB := hb1.trans (al1.mono hb1.size)
    have hz1 := hb1.size
    clear hu0 hb1 al1
    go_wp2_with fail
    generalize w1.alloc (.cells #[.int .i64 D, .int .i64 A, .int .i64 B, .slice au ts.length cu] 25) = w2 at *
    generalize w1.heap.size = b5 at *
    obtain ⟨hv, hhv⟩ : ∃ x, x = lmV (askB D A B m ts) (hgP D A m ts) := ⟨_, rfl⟩
    obtain ⟨ok, hok⟩ : ∃ x, x = lmB (askB D A B m ts) (hgP D A m ts) := ⟨_, rfl⟩
    have HIL := fun w h => implLeastHeight_any D A B m (.slice au ts.length cu) ts w h
    have HSL := fun w h => specLeastHeight_any D A B m (.slice au ts.length cu) ts w h
    have HH : ok = true → ∃ k : Nat, hv = k ∧ k ≤ 3000 ∧ askB D A k m ts = true ∧ seesB D A k m ts = true ∧ (k ≠ 0 → askB D A ((k : Int) - 1) m ts = true ∧ seesB D A ((k : Int) - 1) m ts = false) := fun h => by rw [hhv]; exact height_spec (by rw [← hok]; exact h)
    rw [← hhv, ← hok] at HIL HSL
    replace HIL := Lib.hid HIL
    replace HSL := Lib.hid HSL
    replace HH := Lib.hid HH
    clear hhv hok
    refine (HIL.out w2 oS.rd).mono ?_
    rintro e w3 ⟨rfl, hb3⟩
    replace oS := oS.later hb3
    replace VS := VS.next hb3
    replace hB := hB.trans (hb3.mono hB.size)
    replace hu1 := (hu1.below hb3).any hb3.size
    have hz3 := hb3.size
    clear hb3
    have s0 := VS.c0
    have s1 := VS.c1
    have s2 := VS.c2
    have s3 := VS.c3
    have sf0 := VS.fz 0
    have sf1 := VS.fz 1
    have sf2 := VS.fz 2
    have sf3 := VS.fz 3
    go_wp2_with fail
    refine (HSL.out w3 oS.rd).mono ?_
    rintro e w4 ⟨rfl, hb4⟩
    replace oS := oS.later hb4
    replace VS := VS.next hb4
    replace hB := hB.trans (hb4.mono hB.size)
    replace hu1 := (hu1.below hb4).any hb4.size
    clear hb4 s0 s1 s2 s3 sf0 sf1 sf2 sf3 HIL HSL hz3
    go_wp2_with fail
    refine (drawLeastRaise a1 n1 cap1 w4 hu1).mono ?_
    rintro e w5 ⟨D2, A2, B2, u2, us, m2, rfl, oU, hl, hm, hb5⟩
    clear hm hl
    obtain ⟨av, cv, rfl, -⟩ := oU.rd.len
    have hU : ∀ k, (Value.slice av us.length cv).ownBlock = some k → k < w5.heap.size := fun k hk => (oU.lt k hk).2
    have hz5 := hb5.size
    have hlS := VS.lt
    replace oS := oS.later hb5
    replace VS := VS.next hb5
    replace hB := hB.trans (hb5.mono hB.size)
    replace hu1 := (hu1.below hb5).any hb5.size
    have VU := Var4.new w5 (.int .i64 D2) (.int .i64 A2) (.int .i64 B2) (.slice av us.length cv) 25
    have al5 := (Below.refl w5.heap.size w5).alloc (Nat.le_refl _) (.cells #[.int .i64 D2, .int .i64 A2, .int .i64 B2, .slice av us.length cv] 25)
    replace oS := oS.later al5
    replace VS := VS.next al5
    replace oU := oU.later al5
    replace hB := hB.trans (al5.mono hB.size)
    replace hu1 := (hu1.below al5).any al5.size
    clear hb5 al5
    go_wp2_with fail
    generalize w5.alloc (.cells #[.int .i64 D2, .int .i64 A2, .int .i64 B2, .slice av us.length cv] 25) = w6 at *
    generalize w5.heap.size = b11 at *
    have hb511 : b5 < b11 := by omega
    obtain ⟨rv, hrv⟩ : ∃ x, x = lmV (askB D2 A2 B2 m2 us) (rsP D2 A2 B2 m2 us) := ⟨_, rfl⟩
    obtain ⟨one, hone⟩ : ∃ x, x = lmB (askB D2 A2 B2 m2 us) (rsP D2 A2 B2 m2 us) := ⟨_, rfl⟩
    have HIR := fun w h => implLeastRaise_any D2 A2 B2 m2 (.slice av us.length cv) us w h
    have HSR := fun w h => specLeastRaise_any D2 A2 B2 m2 (.slice av us.length cv) us w h
    have HRS : one = true → askB D2 A2 B2 m2 us = true ∧ (0 ≤ A2 ∧ A2 ≤ 3000) ∧ (0 ≤ B2 ∧ B2 ≤ 3000) ∧ ∃ k : Nat, rv = k ∧ k ≤ 3000 ∧ seesB D2 A2 B2 m2 us = ((k : Int) == 0) ∧ seesB D2 (A2 + k) (B2 + k) m2 us = true ∧ (A2 + k ≤ 3000 → B2 + k ≤ 3000 → askB D2 (A2 + k) (B2 + k) m2 us = true) := fun h => by rw [hrv]; exact raise_spec (by rw [← hone]; exact h)
    rw [← hrv, ← hone] at HIR HSR
    replace HIR := Lib.hid HIR
    replace HSR := Lib.hid HSR
    replace HRS := Lib.hid HRS
    clear hrv hone
    refine (HIR.out w6 oU.rd).mono ?_
    rintro e w7 ⟨rfl, hb7⟩
    replace oS := oS.later hb7
    replace VS := VS.next hb7
    replace oU := oU.later hb7
    replace VU := VU.next hb7
    replace hB := hB.trans (hb7.mono hB.size)
    replace hu1 := (hu1.below hb7).any hb7.size
    clear hb7
    have t0 := VU.c0
    have t1 := VU.c1
    have t2 := VU.c2
    have t3 := VU.c3
    have tf0 := VU.fz 0
    have tf1 := VU.fz 1
    have tf2 := VU.fz 2
    have tf3 := VU.fz 3
    go_wp2_with fail
    refine (HSR.out w7 oU.rd).mono ?_
    rintro e w8 ⟨rfl, hb8⟩
    replace oS := oS.later hb8
    replace VS := VS.next hb8
    replace oU := oU.later hb8
    replace VU := VU.next hb8
    replace hB := hB.trans (hb8.mono hB.size)
    replace hu1 := (hu1.below hb8).any hb8.size
    clear hb8 t0 t1 t2 t3 tf0 tf1 tf2 tf3 HIR HSR
    go_wp2_with fail
    refine (drawHorizon a1 n1 cap1 w8 hu1).mono ?_
    rintro e w9 ⟨hgt, bend, rfl, hhb, -, hb9⟩
    have hh0 := hhb.1
    have hh1 := hhb.2
    clear hhb
    replace oS := oS.later hb9
    replace VS := VS.next hb9
    replace oU := oU.later hb9
    replace VU := VU.next hb9
    replace hB := hB.trans (hb9.mono hB.size)
    clear hb9 hu1
    obtain ⟨dv, hdv⟩ : ∃ x, x = hzV hgt bend := ⟨_, rfl⟩
    obtain ⟨three, hthree⟩ : ∃ x, x = hzB hgt bend := ⟨_, rfl⟩
    have HIZ := fun w => implHorizonOf_any hgt bend w
    have HSZ := fun w => specHorizonOf_any hgt bend w
    have HZ : three = true → hgt < 3000 → hzB (hgt + 1) bend = true ∧ dv ≤ hzV (hgt + 1) bend ∧ 0 ≤ dv := fun h h3 => by rw [hdv]; exact horizon_spec (by rw [← hthree]; exact h) h3
    rw [← hdv, ← hthree] at HIZ HSZ
    replace HIZ := Lib.hid HIZ
    replace HSZ := Lib.hid HSZ
    replace HZ := Lib.hid HZ
    clear hdv hthree
    go_wp2_with fail
    refine (HIZ.out w9).mono ?_
    rintro e w10 ⟨rfl, hb10⟩
    replace oS := oS.later hb10
    replace VS := VS.next hb10
    replace oU := oU.later hb10
    replace VU := VU.next hb10
    replace hB := hB.trans (hb10.mono hB.size)
    clear hb10
    go_wp2_with fail
    refine (HSZ.out w10).mono ?_
    rintro e w11 ⟨rfl, hb11⟩
    replace oS := oS.later hb11
    replace VS := VS.next hb11
    replace oU := oU.later hb11
    replace VU := VU.next hb11
    replace hB := hB.trans (hb11.mono hB.size)
    clear hb11 HIZ HSZ
    have hlU := VU.lt
    have hwb : w.heap.size ≤ b5 := hz1
    generalize w11 = W at *
    cases honec : one with
    | false =>
      by_cases hz3 : three = true ∧ hgt < 3000
      · obtain ⟨ht, hlt⟩ := hz3
        obtain ⟨hq1, hq2, hq3⟩ := HZ.out ht hlt
        subst ht
        obtain ⟨fv, hfv⟩ : ∃ x, x = hzV (hgt + 1) bend := ⟨_, rfl⟩
        have HF : ∀ w, Calls Try.prog 40 #[.int .i64 (hgt + 1), .int .i64 bend] w fun e w' => e = .returned (.tuple #[.int .i64 fv, .bool true]) ∧ Below w.heap.size w w' := fun w => by
          have := implHorizonOf_any (hgt + 1) bend w
          rw [hq1, ← hfv] at this
          exact this
        replace HF := Lib.hid HF
        rw [← hfv] at hq2
        clear hfv hq1
        have hq4 : ¬ fv < dv := by omega
        have hq5 : ¬ dv < 0 := by omega
        go_wp2_with fail
        refine (HF.out _).mono ?_
        rintro e wh ⟨rfl, hb⟩
        replace oS := oS.later hb
        replace VS := VS.next hb
        replace hB := hB.trans (hb.mono hB.size)
        clear hb HF
        cases hokc : ok with
        | false =>
          go_wp2
          go_ret
          exact ⟨rfl, hB⟩
        | true =>
          obtain ⟨k, hvk, hk3, hask, hsee, hless⟩ := HH.out hokc
          subst hvk
          subst hokc
          have HA := Lib.hid hask
          have HS2 := Lib.hid hsee
          have HLS := Lib.hid hless
          clear hask hsee hless
          have s0 := VS.c0
          have s1 := VS.c1
          have s2 := VS.c2
          have s3 := VS.c3
          have sf0 := VS.fz 0
          have sf1 := VS.fz 1
          have sf2 := VS.fz 2
          have sf3 := VS.fz 3
          have VT : Var4 (_ : World) b5 (.int .i64 D) (.int .i64 A) (.int .i64 (k : Int)) (.slice au ts.length cu) := VS.put2v (.int .i64 (k : Int))
          have hBT := hB.setCell (p := ⟨b5, 2, none⟩) hwb (.int .i64 (k : Int))
          have oT := oS.setFar (b := b5) (o := 2) (x := .int .i64 (k : Int)) (fun e => by have := hS _ e; omega)
          go_wp2_with fail
          refine (seesAt_c (x := true) (y := true) D A (k : Int) m _ ts _ oT.rd HA.out (by rw [HS2.out]; rfl)).mono ?_
          rintro e wf ⟨rfl, hb⟩
          replace oT := oT.later hb
          replace VT := VT.next hb
          replace hBT := hBT.trans (hb.mono hBT.size)
          clear hb s0 s1 s2 s3 sf0 sf1 sf2 sf3
          rcases Nat.eq_zero_or_pos k with hk0 | hkp
          · have hz : ((k : Int) == 0) = true := by simp [hk0]
            clear hk0
            go_wp2
            go_ret
            exact ⟨rfl, hBT⟩
          · have hz : ((k : Int) == 0) = false := by simp; omega
            have HL := Lib.hid (HLS.out (by omega))
            have hsub : (0 : Int) ≤ (k : Int) - 1 := by omega
            have s0 := VT.c0
            have s1 := VT.c1
            have s2 := VT.c2
            have s3 := VT.c3
            have sf0 := VT.fz 0
            have sf1 := VT.fz 1
            have sf2 := VT.fz 2
            have sf3 := VT.fz 3
            have hBF := hBT.setCell (p := ⟨b5, 2, none⟩) hwb (.int .i64 ((k : Int) - 1))
            have oF := oT.setFar (b := b5) (o := 2) (x := .int .i64 ((k : Int) - 1)) (fun e => by have := hS _ e; omega)
            go_wp2_with fail
            refine (seesAt_c (x := false) (y := true) D A ((k : Int) - 1) m _ ts _ oF.rd HL.out.1 (by rw [HL.out.2]; rfl)).mono ?_
            rintro e wg ⟨rfl, hb⟩
            replace hBF := hBF.trans (hb.mono hBF.size)
            go_wp2
            go_ret
            exact ⟨rfl, hBF⟩
      · have hz4 : three = false ∨ (three = true ∧ ¬ hgt < 3000) := by cases three <;> simp_all
        rcases hz4 with ht | ⟨ht, hge⟩
        · subst ht
          cases hokc : ok with
          | false =>
            go_wp2
            go_ret
            exact ⟨rfl, hB⟩
          | true =>
            obtain ⟨k, hvk, hk3, hask, hsee, hless⟩ := HH.out hokc
            subst hvk
            subst hokc
            have HA := Lib.hid hask
            have HS2 := Lib.hid hsee
            have HLS := Lib.hid hless
            clear hask hsee hless
            have s0 := VS.c0
            have s1 := VS.c1
            have s2 := VS.c2
            have s3 := VS.c3
            have sf0 := VS.fz 0
            have sf1 := VS.fz 1
            have sf2 := VS.fz 2
            have sf3 := VS.fz 3
            have VT : Var4 (_ : World) b5 (.int .i64 D) (.int .i64 A) (.int .i64 (k : Int)) (.slice au ts.length cu) := VS.put2v (.int .i64 (k : Int))
            have hBT := hB.setCell (p := ⟨b5, 2, none⟩) hwb (.int .i64 (k : Int))
            have oT := oS.setFar (b := b5) (o := 2) (x := .int .i64 (k : Int)) (fun e => by have := hS _ e; omega)
            go_wp2_with fail
            refine (seesAt_c (x := true) (y := true) D A (k : Int) m _ ts _ oT.rd HA.out (by rw [HS2.out]; rfl)).mono ?_
            rintro e wf ⟨rfl, hb⟩
            replace oT := oT.later hb
            replace VT := VT.next hb
            replace hBT := hBT.trans (hb.mono hBT.size)
            clear hb s0 s1 s2 s3 sf0 sf1 sf2 sf3
            rcases Nat.eq_zero_or_pos k with hk0 | hkp
            · have hz : ((k : Int) == 0) = true := by simp [hk0]
              clear hk0
              go_wp2
              go_ret
              exact ⟨rfl, hBT⟩
            · have hz : ((k : Int) == 0) = false := by simp; omega
              have HL := Lib.hid (HLS.out (by omega))
              have hsub : (0 : Int) ≤ (k : Int) - 1 := by omega
              have s0 := VT.c0
              have s1 := VT.c1
              have s2 := VT.c2
              have s3 := VT.c3
              have sf0 := VT.fz 0
              have sf1 := VT.fz 1
              have sf2 := VT.fz 2
              have sf3 := VT.fz 3
              have hBF := hBT.setCell (p := ⟨b5, 2, none⟩) hwb (.int .i64 ((k : Int) - 1))
              have oF := oT.setFar (b := b5) (o := 2) (x := .int .i64 ((k : Int) - 1)) (fun e => by have := hS _ e; omega)
              go_wp2_with fail
              refine (seesAt_c (x := false) (y := true) D A ((k : Int) - 1) m _ ts _ oF.rd HL.out.1 (by rw [HL.out.2]; rfl)).mono ?_
              rintro e wg ⟨rfl, hb⟩
              replace hBF := hBF.trans (hb.mono hBF.size)
              go_wp2
              go_ret
              exact ⟨rfl, hBF⟩
        · subst ht
          cases hokc : ok with
          | false =>
            go_wp2
            go_ret
            exact ⟨rfl, hB⟩
          | true =>
            obtain ⟨k, hvk, hk3, hask, hsee, hless⟩ := HH.out hokc
            subst hvk
            subst hokc
            have HA := Lib.hid hask
            have HS2 := Lib.hid hsee
            have HLS := Lib.hid hless
            clear hask hsee hless
            have s0 := VS.c0
            have s1 := VS.c1
            have s2 := VS.c2
            have s3 := VS.c3
            have sf0 := VS.fz 0
            have sf1 := VS.fz 1
            have sf2 := VS.fz 2
            have sf3 := VS.fz 3
            have VT : Var4 (_ : World) b5 (.int .i64 D) (.int .i64 A) (.int .i64 (k : Int)) (.slice au ts.length cu) := VS.put2v (.int .i64 (k : Int))
            have hBT := hB.setCell (p := ⟨b5, 2, none⟩) hwb (.int .i64 (k : Int))
            have oT := oS.setFar (b := b5) (o := 2) (x := .int .i64 (k : Int)) (fun e => by have := hS _ e; omega)
            go_wp2_with fail
            refine (seesAt_c (x := true) (y := true) D A (k : Int) m _ ts _ oT.rd HA.out (by rw [HS2.out]; rfl)).mono ?_
            rintro e wf ⟨rfl, hb⟩
            replace oT := oT.later hb
            replace VT := VT.next hb
            replace hBT := hBT.trans (hb.mono hBT.size)
            clear hb s0 s1 s2 s3 sf0 sf1 sf2 sf3
            rcases Nat.eq_zero_or_pos k with hk0 | hkp
            · have hz : ((k : Int) == 0) = true := by simp [hk0]
              clear hk0
              go_wp2
              go_ret
              exact ⟨rfl, hBT⟩
            · have hz : ((k : Int) == 0) = false := by simp; omega
              have HL := Lib.hid (HLS.out (by omega))
              have hsub : (0 : Int) ≤ (k : Int) - 1 := by omega
              have s0 := VT.c0
              have s1 := VT.c1
              have s2 := VT.c2
              have s3 := VT.c3
              have sf0 := VT.fz 0
              have sf1 := VT.fz 1
              have sf2 := VT.fz 2
              have sf3 := VT.fz 3
              have hBF := hBT.setCell (p := ⟨b5, 2, none⟩) hwb (.int .i64 ((k : Int) - 1))
              have oF := oT.setFar (b := b5) (o := 2) (x := .int .i64 ((k : Int) - 1)) (fun e => by have := hS _ e; omega)
              go_wp2_with fail
              refine (seesAt_c (x := false) (y := true) D A ((k : Int) - 1) m _ ts _ oF.rd HL.out.1 (by rw [HL.out.2]; rfl)).mono ?_
              rintro e wg ⟨rfl, hb⟩
              replace hBF := hBF.trans (hb.mono hBF.size)
              go_wp2
              go_ret
              exact ⟨rfl, hBF⟩
    | true =>
      obtain ⟨hask, ⟨ha0, ha3⟩, ⟨hbb0, hbb3⟩, k, hrk, hk3, hs0, hs1, hs2⟩ := HRS.out honec
      subst hrk
      subst honec
      have HA := Lib.hid hask
      have HS0 := Lib.hid hs0
      have HS1 := Lib.hid hs1
      have HS2' := Lib.hid hs2
      clear hask hs0 hs1 hs2
      obtain ⟨yk, hyk⟩ : ∃ x, x = ((k : Int) == 0) := ⟨_, rfl⟩
      have t0 := VU.c0
      have t1 := VU.c1
      have t2 := VU.c2
      have t3 := VU.c3
      have tf0 := VU.fz 0
      have tf1 := VU.fz 1
      have tf2 := VU.fz 2
      have tf3 := VU.fz 3
      go_wp2_with fail
      refine (seesAt_c (x := yk) (y := true) D2 A2 B2 m2 _ us _ oU.rd HA.out (by rw [HS0.out, hyk]; rfl)).mono ?_
      rintro e wi ⟨rfl, hb⟩
      replace oS := oS.later hb
      replace VS := VS.next hb
      replace oU := oU.later hb
      replace VU := VU.next hb
      replace hB := hB.trans (hb.mono hB.size)
      clear hb
      clear t0 t1 t2 t3 tf0 tf1 tf2 tf3
      have hk3I : ¬ (3000 : Int) < (k : Int) := by omega
      have hk0I : ¬ (k : Int) < 0 := by omega
      have e0 : IntKind.i64.wrap (A2 + (k : Int)) = A2 + k := IntWalk.i64_in _ (by omega)
      have e1 : IntKind.i64.wrap (B2 + (k : Int)) = B2 + k := IntWalk.i64_in _ (by omega)
      have t0 := VU.c0
      have t1 := VU.c1
      have t2 := VU.c2
      have t3 := VU.c3
      have tf0 := VU.fz 0
      have tf1 := VU.fz 1
      have tf2 := VU.fz 2
      have tf3 := VU.fz 3
      have VU1 := VU.put1v (.int .i64 (A2 + (k : Int)))
      have VU2 := VU1.put2v (.int .i64 (B2 + (k : Int)))
      have t2' : (wi.setCell ⟨b11, 1, none⟩ (.int .i64 (A2 + (k : Int)))).cell? ⟨b11, 2, none⟩ = some (.int .i64 B2) := VU1.c2
      have hUB : ∀ e, (Value.slice av us.length cv).ownBlock = some e → e ≠ b11 := fun e he => by have := hU _ he; omega
      have hSB : ∀ e, (Value.slice au ts.length cu).ownBlock = some e → e ≠ b11 := fun e he => by have := hS _ he; omega
      have oU2 := (oU.setFar (b := b11) (o := 1) (x := .int .i64 (A2 + (k : Int))) (fun e => hUB _ e rfl)).setFar (b := b11) (o := 2) (x := .int .i64 (B2 + (k : Int))) (fun e => hUB _ e rfl)
      replace oS := (oS.setFar (b := b11) (o := 1) (x := .int .i64 (A2 + (k : Int))) (fun e => hSB _ e rfl)).setFar (b := b11) (o := 2) (x := .int .i64 (B2 + (k : Int))) (fun e => hSB _ e rfl)
      replace VS := (VS.set (b' := b11) (o := 1) (u := .int .i64 (A2 + (k : Int))) (by omega)).set (b' := b11) (o := 2) (u := .int .i64 (B2 + (k : Int))) (by omega)
      replace hB := (hB.setCell (p := ⟨b11, 1, none⟩) (show w.heap.size ≤ b11 by omega) (.int .i64 (A2 + (k : Int)))).setCell (p := ⟨b11, 2, none⟩) (show w.heap.size ≤ b11 by omega) (.int .i64 (B2 + (k : Int)))
      have v0 := VU2.c0
      have v1 := VU2.c1
      have v2 := VU2.c2
      have v3 := VU2.c3
      rw [hyk]
      clear hyk
      by_cases hA3 : A2 + (k : Int) ≤ 3000
      · by_cases hB3 : B2 + (k : Int) ≤ 3000
        · have HA2 := Lib.hid (HS2'.out hA3 hB3)
          go_wp2_with fail
          refine (seesAt_c (x := true) (y := true) D2 (A2 + (k : Int)) (B2 + (k : Int)) m2 _ us _ oU2.rd HA2.out (by rw [HS1.out]; rfl)).mono ?_
          rintro e wj ⟨rfl, hb⟩
          replace oS := oS.later hb
          replace VS := VS.next hb
          replace hB := hB.trans (hb.mono hB.size)
          clear hb v0 v1 v2 v3 t2' VU1 VU2 oU2 t0 t1 t2 t3 tf0 tf1 tf2 tf3
          by_cases hz3 : three = true ∧ hgt < 3000
          · obtain ⟨ht, hlt⟩ := hz3
            obtain ⟨hq1, hq2, hq3⟩ := HZ.out ht hlt
            subst ht
            obtain ⟨fv, hfv⟩ : ∃ x, x = hzV (hgt + 1) bend := ⟨_, rfl⟩
            have HF : ∀ w, Calls Try.prog 40 #[.int .i64 (hgt + 1), .int .i64 bend] w fun e w' => e = .returned (.tuple #[.int .i64 fv, .bool true]) ∧ Below w.heap.size w w' := fun w => by
              have := implHorizonOf_any (hgt + 1) bend w
              rw [hq1, ← hfv] at this
              exact this
            replace HF := Lib.hid HF
            rw [← hfv] at hq2
            clear hfv hq1
            have hq4 : ¬ fv < dv := by omega
            have hq5 : ¬ dv < 0 := by omega
            go_wp2_with fail
            refine (HF.out _).mono ?_
            rintro e wh ⟨rfl, hb⟩
            replace oS := oS.later hb
            replace VS := VS.next hb
            replace hB := hB.trans (hb.mono hB.size)
            clear hb HF
            cases hokc : ok with
            | false =>
              go_wp2
              go_ret
              exact ⟨rfl, hB⟩
            | true =>
              obtain ⟨k, hvk, hk3, hask, hsee, hless⟩ := HH.out hokc
              subst hvk
              subst hokc
              have HA := Lib.hid hask
              have HS2 := Lib.hid hsee
              have HLS := Lib.hid hless
              clear hask hsee hless
              have s0 := VS.c0
              have s1 := VS.c1
              have s2 := VS.c2
              have s3 := VS.c3
              have sf0 := VS.fz 0
              have sf1 := VS.fz 1
              have sf2 := VS.fz 2
              have sf3 := VS.fz 3
              have VT : Var4 (_ : World) b5 (.int .i64 D) (.int .i64 A) (.int .i64 (k : Int)) (.slice au ts.length cu) := VS.put2v (.int .i64 (k : Int))
              have hBT := hB.setCell (p := ⟨b5, 2, none⟩) hwb (.int .i64 (k : Int))
              have oT := oS.setFar (b := b5) (o := 2) (x := .int .i64 (k : Int)) (fun e => by have := hS _ e; omega)
              go_wp2_with fail
              refine (seesAt_c (x := true) (y := true) D A (k : Int) m _ ts _ oT.rd HA.out (by rw [HS2.out]; rfl)).mono ?_
              rintro e wf ⟨rfl, hb⟩
              replace oT := oT.later hb
              replace VT := VT.next hb
              replace hBT := hBT.trans (hb.mono hBT.size)
              clear hb s0 s1 s2 s3 sf0 sf1 sf2 sf3
              rcases Nat.eq_zero_or_pos k with hk0 | hkp
              · have hz : ((k : Int) == 0) = true := by simp [hk0]
                clear hk0
                go_wp2
                go_ret
                exact ⟨rfl, hBT⟩
              · have hz : ((k : Int) == 0) = false := by simp; omega
                have HL := Lib.hid (HLS.out (by omega))
                have hsub : (0 : Int) ≤ (k : Int) - 1 := by omega
                have s0 := VT.c0
                have s1 := VT.c1
                have s2 := VT.c2
                have s3 := VT.c3
                have sf0 := VT.fz 0
                have sf1 := VT.fz 1
                have sf2 := VT.fz 2
                have sf3 := VT.fz 3
                have hBF := hBT.setCell (p := ⟨b5, 2, none⟩) hwb (.int .i64 ((k : Int) - 1))
                have oF := oT.setFar (b := b5) (o := 2) (x := .int .i64 ((k : Int) - 1)) (fun e => by have := hS _ e; omega)
                go_wp2_with fail
                refine (seesAt_c (x := false) (y := true) D A ((k : Int) - 1) m _ ts _ oF.rd HL.out.1 (by rw [HL.out.2]; rfl)).mono ?_
                rintro e wg ⟨rfl, hb⟩
                replace hBF := hBF.trans (hb.mono hBF.size)
                go_wp2
                go_ret
                exact ⟨rfl, hBF⟩
          · have hz4 : three = false ∨ (three = true ∧ ¬ hgt < 3000) := by cases three <;> simp_all
            rcases hz4 with ht | ⟨ht, hge⟩
            · subst ht
              cases hokc : ok with
              | false =>
                go_wp2
                go_ret
                exact ⟨rfl, hB⟩
              | true =>
                obtain ⟨k, hvk, hk3, hask, hsee, hless⟩ := HH.out hokc
                subst hvk
                subst hokc
                have HA := Lib.hid hask
                have HS2 := Lib.hid hsee
                have HLS := Lib.hid hless
                clear hask hsee hless
                have s0 := VS.c0
                have s1 := VS.c1
                have s2 := VS.c2
                have s3 := VS.c3
                have sf0 := VS.fz 0
                have sf1 := VS.fz 1
                have sf2 := VS.fz 2
                have sf3 := VS.fz 3
                have VT : Var4 (_ : World) b5 (.int .i64 D) (.int .i64 A) (.int .i64 (k : Int)) (.slice au ts.length cu) := VS.put2v (.int .i64 (k : Int))
                have hBT := hB.setCell (p := ⟨b5, 2, none⟩) hwb (.int .i64 (k : Int))
                have oT := oS.setFar (b := b5) (o := 2) (x := .int .i64 (k : Int)) (fun e => by have := hS _ e; omega)
                go_wp2_with fail
                refine (seesAt_c (x := true) (y := true) D A (k : Int) m _ ts _ oT.rd HA.out (by rw [HS2.out]; rfl)).mono ?_
                rintro e wf ⟨rfl, hb⟩
                replace oT := oT.later hb
                replace VT := VT.next hb
                replace hBT := hBT.trans (hb.mono hBT.size)
                clear hb s0 s1 s2 s3 sf0 sf1 sf2 sf3
                rcases Nat.eq_zero_or_pos k with hk0 | hkp
                · have hz : ((k : Int) == 0) = true := by simp [hk0]
                  clear hk0
                  go_wp2
                  go_ret
                  exact ⟨rfl, hBT⟩
                · have hz : ((k : Int) == 0) = false := by simp; omega
                  have HL := Lib.hid (HLS.out (by omega))
                  have hsub : (0 : Int) ≤ (k : Int) - 1 := by omega
                  have s0 := VT.c0
                  have s1 := VT.c1
                  have s2 := VT.c2
                  have s3 := VT.c3
                  have sf0 := VT.fz 0
                  have sf1 := VT.fz 1
                  have sf2 := VT.fz 2
                  have sf3 := VT.fz 3
                  have hBF := hBT.setCell (p := ⟨b5, 2, none⟩) hwb (.int .i64 ((k : Int) - 1))
                  have oF := oT.setFar (b := b5) (o := 2) (x := .int .i64 ((k : Int) - 1)) (fun e => by have := hS _ e; omega)
                  go_wp2_with fail
                  refine (seesAt_c (x := false) (y := true) D A ((k : Int) - 1) m _ ts _ oF.rd HL.out.1 (by rw [HL.out.2]; rfl)).mono ?_
                  rintro e wg ⟨rfl, hb⟩
                  replace hBF := hBF.trans (hb.mono hBF.size)
                  go_wp2
                  go_ret
                  exact ⟨rfl, hBF⟩
            · subst ht
              cases hokc : ok with
              | false =>
                go_wp2
                go_ret
                exact ⟨rfl, hB⟩
              | true =>
                obtain ⟨k, hvk, hk3, hask, hsee, hless⟩ := HH.out hokc
                subst hvk
                subst hokc
                have HA := Lib.hid hask
                have HS2 := Lib.hid hsee
                have HLS := Lib.hid hless
                clear hask hsee hless
                have s0 := VS.c0
                have s1 := VS.c1
                have s2 := VS.c2
                have s3 := VS.c3
                have sf0 := VS.fz 0
                have sf1 := VS.fz 1
                have sf2 := VS.fz 2
                have sf3 := VS.fz 3
                have VT : Var4 (_ : World) b5 (.int .i64 D) (.int .i64 A) (.int .i64 (k : Int)) (.slice au ts.length cu) := VS.put2v (.int .i64 (k : Int))
                have hBT := hB.setCell (p := ⟨b5, 2, none⟩) hwb (.int .i64 (k : Int))
                have oT := oS.setFar (b := b5) (o := 2) (x := .int .i64 (k : Int)) (fun e => by have := hS _ e; omega)
                go_wp2_with fail
                refine (seesAt_c (x := true) (y := true) D A (k : Int) m _ ts _ oT.rd HA.out (by rw [HS2.out]; rfl)).mono ?_
                rintro e wf ⟨rfl, hb⟩
                replace oT := oT.later hb
                replace VT := VT.next hb
                replace hBT := hBT.trans (hb.mono hBT.size)
                clear hb s0 s1 s2 s3 sf0 sf1 sf2 sf3
                rcases Nat.eq_zero_or_pos k with hk0 | hkp
                · have hz : ((k : Int) == 0) = true := by simp [hk0]
                  clear hk0
                  go_wp2
                  go_ret
                  exact ⟨rfl, hBT⟩
                · have hz : ((k : Int) == 0) = false := by simp; omega
                  have HL := Lib.hid (HLS.out (by omega))
                  have hsub : (0 : Int) ≤ (k : Int) - 1 := by omega
                  have s0 := VT.c0
                  have s1 := VT.c1
                  have s2 := VT.c2
                  have s3 := VT.c3
                  have sf0 := VT.fz 0
                  have sf1 := VT.fz 1
                  have sf2 := VT.fz 2
                  have sf3 := VT.fz 3
                  have hBF := hBT.setCell (p := ⟨b5, 2, none⟩) hwb (.int .i64 ((k : Int) - 1))
                  have oF := oT.setFar (b := b5) (o := 2) (x := .int .i64 ((k : Int) - 1)) (fun e => by have := hS _ e; omega)
                  go_wp2_with fail
                  refine (seesAt_c (x := false) (y := true) D A ((k : Int) - 1) m _ ts _ oF.rd HL.out.1 (by rw [HL.out.2]; rfl)).mono ?_
                  rintro e wg ⟨rfl, hb⟩
                  replace hBF := hBF.trans (hb.mono hBF.size)
                  go_wp2
                  go_ret
                  exact ⟨rfl, hBF⟩
        · clear v0 v3 oU2
          by_cases hz3 : three = true ∧ hgt < 3000
          · obtain ⟨ht, hlt⟩ := hz3
            obtain ⟨hq1, hq2, hq3⟩ := HZ.out ht hlt
            subst ht
            obtain ⟨fv, hfv⟩ : ∃ x, x = hzV (hgt + 1) bend := ⟨_, rfl⟩
            have HF : ∀ w, Calls Try.prog 40 #[.int .i64 (hgt + 1), .int .i64 bend] w fun e w' => e = .returned (.tuple #[.int .i64 fv, .bool true]) ∧ Below w.heap.size w w' := fun w => by
              have := implHorizonOf_any (hgt + 1) bend w
              rw [hq1, ← hfv] at this
              exact this
            replace HF := Lib.hid HF
            rw [← hfv] at hq2
            clear hfv hq1
            have hq4 : ¬ fv < dv := by omega
            have hq5 : ¬ dv < 0 := by omega
            go_wp2_with fail
            refine (HF.out _).mono ?_
            rintro e wh ⟨rfl, hb⟩
            replace oS := oS.later hb
            replace VS := VS.next hb
            replace hB := hB.trans (hb.mono hB.size)
            clear hb HF
            cases hokc : ok with
            | false =>
              go_wp2
              go_ret
              exact ⟨rfl, hB⟩
            | true =>
              obtain ⟨k, hvk, hk3, hask, hsee, hless⟩ := HH.out hokc
              subst hvk
              subst hokc
              have HA := Lib.hid hask
              have HS2 := Lib.hid hsee
              have HLS := Lib.hid hless
              clear hask hsee hless
              have s0 := VS.c0
              have s1 := VS.c1
              have s2 := VS.c2
              have s3 := VS.c3
              have sf0 := VS.fz 0
              have sf1 := VS.fz 1
              have sf2 := VS.fz 2
              have sf3 := VS.fz 3
              have VT : Var4 (_ : World) b5 (.int .i64 D) (.int .i64 A) (.int .i64 (k : Int)) (.slice au ts.length cu) := VS.put2v (.int .i64 (k : Int))
              have hBT := hB.setCell (p := ⟨b5, 2, none⟩) hwb (.int .i64 (k : Int))
              have oT := oS.setFar (b := b5) (o := 2) (x := .int .i64 (k : Int)) (fun e => by have := hS _ e; omega)
              go_wp2_with fail
              refine (seesAt_c (x := true) (y := true) D A (k : Int) m _ ts _ oT.rd HA.out (by rw [HS2.out]; rfl)).mono ?_
              rintro e wf ⟨rfl, hb⟩
              replace oT := oT.later hb
              replace VT := VT.next hb
              replace hBT := hBT.trans (hb.mono hBT.size)
              clear hb s0 s1 s2 s3 sf0 sf1 sf2 sf3
              rcases Nat.eq_zero_or_pos k with hk0 | hkp
              · have hz : ((k : Int) == 0) = true := by simp [hk0]
                clear hk0
                go_wp2
                go_ret
                exact ⟨rfl, hBT⟩
              · have hz : ((k : Int) == 0) = false := by simp; omega
                have HL := Lib.hid (HLS.out (by omega))
                have hsub : (0 : Int) ≤ (k : Int) - 1 := by omega
                have s0 := VT.c0
                have s1 := VT.c1
                have s2 := VT.c2
                have s3 := VT.c3
                have sf0 := VT.fz 0
                have sf1 := VT.fz 1
                have sf2 := VT.fz 2
                have sf3 := VT.fz 3
                have hBF := hBT.setCell (p := ⟨b5, 2, none⟩) hwb (.int .i64 ((k : Int) - 1))
                have oF := oT.setFar (b := b5) (o := 2) (x := .int .i64 ((k : Int) - 1)) (fun e => by have := hS _ e; omega)
                go_wp2_with fail
                refine (seesAt_c (x := false) (y := true) D A ((k : Int) - 1) m _ ts _ oF.rd HL.out.1 (by rw [HL.out.2]; rfl)).mono ?_
                rintro e wg ⟨rfl, hb⟩
                replace hBF := hBF.trans (hb.mono hBF.size)
                go_wp2
                go_ret
                exact ⟨rfl, hBF⟩
          · have hz4 : three = false ∨ (three = true ∧ ¬ hgt < 3000) := by cases three <;> simp_all
            rcases hz4 with ht | ⟨ht, hge⟩
            · subst ht
              cases hokc : ok with
              | false =>
                go_wp2
                go_ret
                exact ⟨rfl, hB⟩
              | true =>
                obtain ⟨k, hvk, hk3, hask, hsee, hless⟩ := HH.out hokc
                subst hvk
                subst hokc
                have HA := Lib.hid hask
                have HS2 := Lib.hid hsee
                have HLS := Lib.hid hless
                clear hask hsee hless
                have s0 := VS.c0
                have s1 := VS.c1
                have s2 := VS.c2
                have s3 := VS.c3
                have sf0 := VS.fz 0
                have sf1 := VS.fz 1
                have sf2 := VS.fz 2
                have sf3 := VS.fz 3
                have VT : Var4 (_ : World) b5 (.int .i64 D) (.int .i64 A) (.int .i64 (k : Int)) (.slice au ts.length cu) := VS.put2v (.int .i64 (k : Int))
                have hBT := hB.setCell (p := ⟨b5, 2, none⟩) hwb (.int .i64 (k : Int))
                have oT := oS.setFar (b := b5) (o := 2) (x := .int .i64 (k : Int)) (fun e => by have := hS _ e; omega)
                go_wp2_with fail
                refine (seesAt_c (x := true) (y := true) D A (k : Int) m _ ts _ oT.rd HA.out (by rw [HS2.out]; rfl)).mono ?_
                rintro e wf ⟨rfl, hb⟩
                replace oT := oT.later hb
                replace VT := VT.next hb
                replace hBT := hBT.trans (hb.mono hBT.size)
                clear hb s0 s1 s2 s3 sf0 sf1 sf2 sf3
                rcases Nat.eq_zero_or_pos k with hk0 | hkp
                · have hz : ((k : Int) == 0) = true := by simp [hk0]
                  clear hk0
                  go_wp2
                  go_ret
                  exact ⟨rfl, hBT⟩
                · have hz : ((k : Int) == 0) = false := by simp; omega
                  have HL := Lib.hid (HLS.out (by omega))
                  have hsub : (0 : Int) ≤ (k : Int) - 1 := by omega
                  have s0 := VT.c0
                  have s1 := VT.c1
                  have s2 := VT.c2
                  have s3 := VT.c3
                  have sf0 := VT.fz 0
                  have sf1 := VT.fz 1
                  have sf2 := VT.fz 2
                  have sf3 := VT.fz 3
                  have hBF := hBT.setCell (p := ⟨b5, 2, none⟩) hwb (.int .i64 ((k : Int) - 1))
                  have oF := oT.setFar (b := b5) (o := 2) (x := .int .i64 ((k : Int) - 1)) (fun e => by have := hS _ e; omega)
                  go_wp2_with fail
                  refine (seesAt_c (x := false) (y := true) D A ((k : Int) - 1) m _ ts _ oF.rd HL.out.1 (by rw [HL.out.2]; rfl)).mono ?_
                  rintro e wg ⟨rfl, hb⟩
                  replace hBF := hBF.trans (hb.mono hBF.size)
                  go_wp2
                  go_ret
                  exact ⟨rfl, hBF⟩
            · subst ht
              cases hokc : ok with
              | false =>
                go_wp2
                go_ret
                exact ⟨rfl, hB⟩
              | true =>
                obtain ⟨k, hvk, hk3, hask, hsee, hless⟩ := HH.out hokc
                subst hvk
                subst hokc
                have HA := Lib.hid hask
                have HS2 := Lib.hid hsee
                have HLS := Lib.hid hless
                clear hask hsee hless
                have s0 := VS.c0
                have s1 := VS.c1
                have s2 := VS.c2
                have s3 := VS.c3
                have sf0 := VS.fz 0
                have sf1 := VS.fz 1
                have sf2 := VS.fz 2
                have sf3 := VS.fz 3
                have VT : Var4 (_ : World) b5 (.int .i64 D) (.int .i64 A) (.int .i64 (k : Int)) (.slice au ts.length cu) := VS.put2v (.int .i64 (k : Int))
                have hBT := hB.setCell (p := ⟨b5, 2, none⟩) hwb (.int .i64 (k : Int))
                have oT := oS.setFar (b := b5) (o := 2) (x := .int .i64 (k : Int)) (fun e => by have := hS _ e; omega)
                go_wp2_with fail
                refine (seesAt_c (x := true) (y := true) D A (k : Int) m _ ts _ oT.rd HA.out (by rw [HS2.out]; rfl)).mono ?_
                rintro e wf ⟨rfl, hb⟩
                replace oT := oT.later hb
                replace VT := VT.next hb
                replace hBT := hBT.trans (hb.mono hBT.size)
                clear hb s0 s1 s2 s3 sf0 sf1 sf2 sf3
                rcases Nat.eq_zero_or_pos k with hk0 | hkp
                · have hz : ((k : Int) == 0) = true := by simp [hk0]
                  clear hk0
                  go_wp2
                  go_ret
                  exact ⟨rfl, hBT⟩
                · have hz : ((k : Int) == 0) = false := by simp; omega
                  have HL := Lib.hid (HLS.out (by omega))
                  have hsub : (0 : Int) ≤ (k : Int) - 1 := by omega
                  have s0 := VT.c0
                  have s1 := VT.c1
                  have s2 := VT.c2
                  have s3 := VT.c3
                  have sf0 := VT.fz 0
                  have sf1 := VT.fz 1
                  have sf2 := VT.fz 2
                  have sf3 := VT.fz 3
                  have hBF := hBT.setCell (p := ⟨b5, 2, none⟩) hwb (.int .i64 ((k : Int) - 1))
                  have oF := oT.setFar (b := b5) (o := 2) (x := .int .i64 ((k : Int) - 1)) (fun e => by have := hS _ e; omega)
                  go_wp2_with fail
                  refine (seesAt_c (x := false) (y := true) D A ((k : Int) - 1) m _ ts _ oF.rd HL.out.1 (by rw [HL.out.2]; rfl)).mono ?_
                  rintro e wg ⟨rfl, hb⟩
                  replace hBF := hBF.trans (hb.mono hBF.size)
                  go_wp2
                  go_ret
                  exact ⟨rfl, hBF⟩
      · clear v0 v3 oU2
        by_cases hz3 : three = true ∧ hgt < 3000
        · obtain ⟨ht, hlt⟩ := hz3
          obtain ⟨hq1, hq2, hq3⟩ := HZ.out ht hlt
          subst ht
          obtain ⟨fv, hfv⟩ : ∃ x, x = hzV (hgt + 1) bend := ⟨_, rfl⟩
          have HF : ∀ w, Calls Try.prog 40 #[.int .i64 (hgt + 1), .int .i64 bend] w fun e w' => e = .returned (.tuple #[.int .i64 fv, .bool true]) ∧ Below w.heap.size w w' := fun w => by
            have := implHorizonOf_any (hgt + 1) bend w
            rw [hq1, ← hfv] at this
            exact this
          replace HF := Lib.hid HF
          rw [← hfv] at hq2
          clear hfv hq1
          have hq4 : ¬ fv < dv := by omega
          have hq5 : ¬ dv < 0 := by omega
          go_wp2_with fail
          refine (HF.out _).mono ?_
          rintro e wh ⟨rfl, hb⟩
          replace oS := oS.later hb
          replace VS := VS.next hb
          replace hB := hB.trans (hb.mono hB.size)
          clear hb HF
          cases hokc : ok with
          | false =>
            go_wp2
            go_ret
            exact ⟨rfl, hB⟩
          | true =>
            obtain ⟨k, hvk, hk3, hask, hsee, hless⟩ := HH.out hokc
            subst hvk
            subst hokc
            have HA := Lib.hid hask
            have HS2 := Lib.hid hsee
            have HLS := Lib.hid hless
            clear hask hsee hless
            have s0 := VS.c0
            have s1 := VS.c1
            have s2 := VS.c2
            have s3 := VS.c3
            have sf0 := VS.fz 0
            have sf1 := VS.fz 1
            have sf2 := VS.fz 2
            have sf3 := VS.fz 3
            have VT : Var4 (_ : World) b5 (.int .i64 D) (.int .i64 A) (.int .i64 (k : Int)) (.slice au ts.length cu) := VS.put2v (.int .i64 (k : Int))
            have hBT := hB.setCell (p := ⟨b5, 2, none⟩) hwb (.int .i64 (k : Int))
            have oT := oS.setFar (b := b5) (o := 2) (x := .int .i64 (k : Int)) (fun e => by have := hS _ e; omega)
            go_wp2_with fail
            refine (seesAt_c (x := true) (y := true) D A (k : Int) m _ ts _ oT.rd HA.out (by rw [HS2.out]; rfl)).mono ?_
            rintro e wf ⟨rfl, hb⟩
            replace oT := oT.later hb
            replace VT := VT.next hb
            replace hBT := hBT.trans (hb.mono hBT.size)
            clear hb s0 s1 s2 s3 sf0 sf1 sf2 sf3
            rcases Nat.eq_zero_or_pos k with hk0 | hkp
            · have hz : ((k : Int) == 0) = true := by simp [hk0]
              clear hk0
              go_wp2
              go_ret
              exact ⟨rfl, hBT⟩
            · have hz : ((k : Int) == 0) = false := by simp; omega
              have HL := Lib.hid (HLS.out (by omega))
              have hsub : (0 : Int) ≤ (k : Int) - 1 := by omega
              have s0 := VT.c0
              have s1 := VT.c1
              have s2 := VT.c2
              have s3 := VT.c3
              have sf0 := VT.fz 0
              have sf1 := VT.fz 1
              have sf2 := VT.fz 2
              have sf3 := VT.fz 3
              have hBF := hBT.setCell (p := ⟨b5, 2, none⟩) hwb (.int .i64 ((k : Int) - 1))
              have oF := oT.setFar (b := b5) (o := 2) (x := .int .i64 ((k : Int) - 1)) (fun e => by have := hS _ e; omega)
              go_wp2_with fail
              refine (seesAt_c (x := false) (y := true) D A ((k : Int) - 1) m _ ts _ oF.rd HL.out.1 (by rw [HL.out.2]; rfl)).mono ?_
              rintro e wg ⟨rfl, hb⟩
              replace hBF := hBF.trans (hb.mono hBF.size)
              go_wp2
              go_ret
              exact ⟨rfl, hBF⟩
        · have hz4 : three = false ∨ (three = true ∧ ¬ hgt < 3000) := by cases three <;> simp_all
          rcases hz4 with ht | ⟨ht, hge⟩
          · subst ht
            cases hokc : ok with
            | false =>
              go_wp2
              go_ret
              exact ⟨rfl, hB⟩
            | true =>
              obtain ⟨k, hvk, hk3, hask, hsee, hless⟩ := HH.out hokc
              subst hvk
              subst hokc
              have HA := Lib.hid hask
              have HS2 := Lib.hid hsee
              have HLS := Lib.hid hless
              clear hask hsee hless
              have s0 := VS.c0
              have s1 := VS.c1
              have s2 := VS.c2
              have s3 := VS.c3
              have sf0 := VS.fz 0
              have sf1 := VS.fz 1
              have sf2 := VS.fz 2
              have sf3 := VS.fz 3
              have VT : Var4 (_ : World) b5 (.int .i64 D) (.int .i64 A) (.int .i64 (k : Int)) (.slice au ts.length cu) := VS.put2v (.int .i64 (k : Int))
              have hBT := hB.setCell (p := ⟨b5, 2, none⟩) hwb (.int .i64 (k : Int))
              have oT := oS.setFar (b := b5) (o := 2) (x := .int .i64 (k : Int)) (fun e => by have := hS _ e; omega)
              go_wp2_with fail
              refine (seesAt_c (x := true) (y := true) D A (k : Int) m _ ts _ oT.rd HA.out (by rw [HS2.out]; rfl)).mono ?_
              rintro e wf ⟨rfl, hb⟩
              replace oT := oT.later hb
              replace VT := VT.next hb
              replace hBT := hBT.trans (hb.mono hBT.size)
              clear hb s0 s1 s2 s3 sf0 sf1 sf2 sf3
              rcases Nat.eq_zero_or_pos k with hk0 | hkp
              · have hz : ((k : Int) == 0) = true := by simp [hk0]
                clear hk0
                go_wp2
                go_ret
                exact ⟨rfl, hBT⟩
              · have hz : ((k : Int) == 0) = false := by simp; omega
                have HL := Lib.hid (HLS.out (by omega))
                have hsub : (0 : Int) ≤ (k : Int) - 1 := by omega
                have s0 := VT.c0
                have s1 := VT.c1
                have s2 := VT.c2
                have s3 := VT.c3
                have sf0 := VT.fz 0
                have sf1 := VT.fz 1
                have sf2 := VT.fz 2
                have sf3 := VT.fz 3
                have hBF := hBT.setCell (p := ⟨b5, 2, none⟩) hwb (.int .i64 ((k : Int) - 1))
                have oF := oT.setFar (b := b5) (o := 2) (x := .int .i64 ((k : Int) - 1)) (fun e => by have := hS _ e; omega)
                go_wp2_with fail
                refine (seesAt_c (x := false) (y := true) D A ((k : Int) - 1) m _ ts _ oF.rd HL.out.1 (by rw [HL.out.2]; rfl)).mono ?_
                rintro e wg ⟨rfl, hb⟩
                replace hBF := hBF.trans (hb.mono hBF.size)
                go_wp2
                go_ret
                exact ⟨rfl, hBF⟩
          · subst ht
            cases hokc : ok with
            | false =>
              go_wp2
              go_ret
              exact ⟨rfl, hB⟩
            | true =>
              obtain ⟨k, hvk, hk3, hask, hsee, hless⟩ := HH.out hokc
              subst hvk
              subst hokc
              have HA := Lib.hid hask
              have HS2 := Lib.hid hsee
              have HLS := Lib.hid hless
              clear hask hsee hless
              have s0 := VS.c0
              have s1 := VS.c1
              have s2 := VS.c2
              have s3 := VS.c3
              have sf0 := VS.fz 0
              have sf1 := VS.fz 1
              have sf2 := VS.fz 2
              have sf3 := VS.fz 3
              have VT : Var4 (_ : World) b5 (.int .i64 D) (.int .i64 A) (.int .i64 (k : Int)) (.slice au ts.length cu) := VS.put2v (.int .i64 (k : Int))
              have hBT := hB.setCell (p := ⟨b5, 2, none⟩) hwb (.int .i64 (k : Int))
              have oT := oS.setFar (b := b5) (o := 2) (x := .int .i64 (k : Int)) (fun e => by have := hS _ e; omega)
              go_wp2_with fail
              refine (seesAt_c (x := true) (y := true) D A (k : Int) m _ ts _ oT.rd HA.out (by rw [HS2.out]; rfl)).mono ?_
              rintro e wf ⟨rfl, hb⟩
              replace oT := oT.later hb
              replace VT := VT.next hb
              replace hBT := hBT.trans (hb.mono hBT.size)
              clear hb s0 s1 s2 s3 sf0 sf1 sf2 sf3
              rcases Nat.eq_zero_or_pos k with hk0 | hkp
              · have hz : ((k : Int) == 0) = true := by simp [hk0]
                clear hk0
                go_wp2
                go_ret
                exact ⟨rfl, hBT⟩
              · have hz : ((k : Int) == 0) = false := by simp; omega
                have HL := Lib.hid (HLS.out (by omega))
                have hsub : (0 : Int) ≤ (k : Int) - 1 := by omega
                have s0 := VT.c0
                have s1 := VT.c1
                have s2 := VT.c2
                have s3 := VT.c3
                have sf0 := VT.fz 0
                have sf1 := VT.fz 1
                have sf2 := VT.fz 2
                have sf3 := VT.fz 3
                have hBF := hBT.setCell (p := ⟨b5, 2, none⟩) hwb (.int .i64 ((k : Int) - 1))
                have oF := oT.setFar (b := b5) (o := 2) (x := .int .i64 ((k : Int) - 1)) (fun e => by have := hS _ e; omega)
                go_wp2_with fail
                refine (seesAt_c (x := false) (y := true) D A ((k : Int) - 1) m _ ts _ oF.rd HL.out.1 (by rw [HL.out.2]; rfl)).mono ?_
                rintro e wg ⟨rfl, hb⟩
                replace hBF := hBF.trans (hb.mono hBF.size)
                go_wp2
                go_ret
                exact ⟨rfl, hBF⟩
end Go.Proofs.Ytkdmjeonlghnjaa
