/- The general law FnSights. Written by a generator of this claim's author. -/
import Derived.Test.YtkdmjeonlghnjaaSn0
import Derived.Test.YtkdmjeonlghnjaaSn1
import Derived.Test.YtkdmjeonlghnjaaRows
namespace Go.Proofs.Ytkdmjeonlghnjaa
open Go.RowKit Go.Sort
set_option linter.unusedSimpArgs false
set_option linter.unusedVariables false

theorem spSeesAt_c {x y : Bool} (D A B n : Int) (c : Value) (ts : List T2) (w : World) (hr : RdR c2 2 w c ts) (hy : askB D A B n ts = y) (hx : (y && seesB D A B n ts) = x) :
    Calls Try.prog 17 #[.agg #[.int .i64 D, .int .i64 A, .int .i64 B, c], .int .i64 n] w fun e w' => e = .returned (.tuple #[.bool x, .bool y]) ∧ Below w.heap.size w w' := by
  subst hy; subst hx; exact specSeesAt_any D A B n c ts w hr
def SeesC (D A B : Int) (ts : List T2) (k : Int) (f : Nat) (x : Bool) : Prop := ∀ (c : Value) (w : World), RdR c2 2 w c ts → Calls Try.prog f #[.agg #[.int .i64 D, .int .i64 A, .int .i64 B, c], .int .i64 k] w fun e w' => e = .returned (.tuple #[.bool x, .bool true]) ∧ Below w.heap.size w w'
theorem rv_sight {D A B : Int} {ts : List T2} (h : sightB D A B ts = true) : sightB (rvD D A B ts) (rvA D A B ts) (rvB D A B ts) (rvL D A B ts) = true := by
  obtain ⟨h1, h2, h3, h4⟩ := rv_yes h
  rw [h1, h2, h3, h4]
  exact sightB_iff.2 (sightB_iff.1 h).turn
theorem sees_facts {D A B : Int} {ts : List T2} (h : sightB D A B ts = true) (k : Nat) (hk : k ≤ 3) : ∃ x, SeesC D A B ts k 16 x ∧ SeesC D A B ts k 17 x ∧ SeesC (rvD D A B ts) (rvA D A B ts) (rvB D A B ts) (rvL D A B ts) k 16 x ∧ ((sightB D A B ts && seesB D A B 0 ts) = true → x = true) ∧ (x = true → (sightB D A B ts && seesB D A B 3 ts) = true) := by
  have ok := sightB_iff.1 h
  have ha : askB D A B k ts = true := ask_split.2 ⟨h, inB_yes (by omega) (by omega)⟩
  have hb : askB (rvD D A B ts) (rvA D A B ts) (rvB D A B ts) k (rvL D A B ts) = true := ask_split.2 ⟨rv_sight h, inB_yes (by omega) (by omega)⟩
  refine ⟨seesB D A B k ts, fun c w hr => seesAt_c D A B k c ts w hr ha rfl, fun c w hr => spSeesAt_c D A B k c ts w hr ha rfl, fun c w hr => seesAt_c _ _ _ k c _ w hr hb ?_, ?_, ?_⟩
  · obtain ⟨h1, h2, h3, h4⟩ := rv_yes h
    rw [h1, h2, h3, h4, seesB_turn]; rfl
  · rw [h, Bool.true_and]; exact fun h0 => seesB_bend ok (by omega) h0
  · rw [h, Bool.true_and]; exact fun h0 => seesB_bend ok (by omega) h0
def BackC (D A B : Int) (ts : List T2) (D' A' B' : Int) (us : List T2) : Prop := ∀ (c : Value) (w : World), RdR c2 2 w c ts → Calls Try.prog 25 #[.agg #[.int .i64 D, .int .i64 A, .int .i64 B, c]] w fun e w' => ∃ u, e = .returned (.tuple #[.agg #[.int .i64 D', .int .i64 A', .int .i64 B', u], .bool true]) ∧ RdR c2 2 w' u us ∧ Below w.heap.size w w'
theorem back_facts {D A B : Int} {ts : List T2} (h : sightB D A B ts = true) : BackC (rvD D A B ts) (rvA D A B ts) (rvB D A B ts) (rvL D A B ts) D A B ts := by
  intro c w hr
  have h2 := rv_yes (rv_sight h)
  have := implReverseSight_any (rvD D A B ts) (rvA D A B ts) (rvB D A B ts) c (rvL D A B ts) w hr
  rw [h2.1, h2.2.1, h2.2.2.1, h2.2.2.2, rv_sight h] at this
  obtain ⟨g1, g2, g3, g4⟩ := rv_yes h
  rw [g1, g2, g3, g4, rvT_len, rvT_twice] at this
  rw [g1, g2, g3]
  exact this.mono fun e w' ⟨u, he, ho, hb⟩ => ⟨u, he, ho.rd, hb⟩
theorem bulge_facts {D x n : Int} (h : bgB D x n = true) : (∀ w, Calls Try.prog 28 #[.int .i64 D, .int .i64 (D - x), .int .i64 n] w fun e w' => e = .returned (.tuple #[.int .i64 (bgV D x n), .bool true]) ∧ Below w.heap.size w w') ∧ 0 ≤ bgV D x n ∧ IntKind.i64.wrap (D - x) = D - x := by
  obtain ⟨h1, h2, h3, h4⟩ := bulge_turn h
  refine ⟨fun w => ?_, h3, IntWalk.i64_in _ (by omega)⟩
  have := implBulgeAt_any D (D - x) n w
  rw [h1, h2] at this
  exact this
theorem blocked_tells {D A B n : Int} {ts : List T2} (h : askB D A B n ts = true) : (askB D A B n ts && seesB D A B n ts) = decide ((bkR D A B n ts).length = 0) := by
  rw [h, Bool.true_and, bkR_yes h, seesB_blk]
theorem clear_tells2 {D A B n : Int} {ts : List T2} (h : clB D A B n ts = true) : askB D A B n ts = true ∧ (0 ≤ clX D A B n ts ↔ (askB D A B n ts && seesB D A B n ts) = true) ∧ 1 ≤ clY D A B n ts := by
  have := clear_tells h
  rw [this.1, Bool.true_and]
  exact ⟨rfl, this.2⟩

set_option maxRecDepth 100000 in
set_option maxHeartbeats 16000000 in
theorem walk_FnSights (a0 : Option Addr) (n0 cap0 : Nat) (z0 : List Int) (a1 : Option Addr) (n1 cap1 : Nat) (z1 : List Int) (w : World) (w0r : IsRow .u8 w a0 n0 cap0 z0) (w1r : IsRow .u8 w a1 n1 cap1 z1) :
    Calls Try.prog 3 #[.slice a0 n0 cap0, .slice a1 n1 cap1] w fun e w' => e = .returned (.bool true) ∧ Below w.heap.size w w' := by
  have hu0 := RdU.of_row w0r
  have hu1 := RdU.of_row w1r
  clear w0r w1r
  have hm0 := hu0.1
  have hm1 := hu1.1
  unfold maxLen at hm0 hm1
  obtain ⟨S, hS0⟩ : ∃ S, IntKind.i64.wrap ((n0 : Int) + (n1 : Int)) = S := ⟨_, rfl⟩
  by_cases hbig : 1048576 < S
  · go_enter Try.func3, Try.ntmps3
    go_wp2
    go_ret
    exact ⟨rfl, Below.refl _ _⟩
  · go_enter Try.func3, Try.ntmps3
    go_wp2_with fail
    refine (drawSees a0 n0 cap0 w hu0).mono ?_
    rintro e w1 ⟨D, A, B, u, ts, m, rfl, oS, hl, hm, hB⟩
    clear hm hl
    replace hu1 := (hu1.below (hB.mono (Nat.le_refl _))).any hB.size
    have hs := oS.rd
    clear oS hu0
    obtain ⟨au, cu, rfl, -⟩ := hs.len
    have VS := Var4.new w1 (.int .i64 D) (.int .i64 A) (.int .i64 B) (.slice au ts.length cu) 25
    have hb := (Below.refl w1.heap.size w1).alloc (Nat.le_refl _) (.cells #[.int .i64 D, .int .i64 A, .int .i64 B, .slice au ts.length cu] 25)
    replace hu1 := (hu1.below hb).any hb.size
    replace hs := hs.later hb
    replace hB := hB.trans (hb.mono hB.size)
    clear hb
    obtain ⟨sv, hsv⟩ : ∃ x, x = (askB D A B m ts && seesB D A B m ts) := ⟨_, rfl⟩
    obtain ⟨ok, hok⟩ : ∃ x, x = askB D A B m ts := ⟨_, rfl⟩
    obtain ⟨L, hL⟩ : ∃ x, x = bkR D A B m ts := ⟨_, rfl⟩
    obtain ⟨P, hP⟩ : ∃ x, x = clX D A B m ts := ⟨_, rfl⟩
    obtain ⟨Q, hQ⟩ : ∃ x, x = clY D A B m ts := ⟨_, rfl⟩
    obtain ⟨th, hth⟩ : ∃ x, x = clB D A B m ts := ⟨_, rfl⟩
    have H1 := fun w h => implSeesAt_any D A B m (.slice au ts.length cu) ts w h
    have H2 := fun w h => specSeesAt_any D A B m (.slice au ts.length cu) ts w h
    have H3 := fun w h => implBlockedBy_any D A B m (.slice au ts.length cu) ts w h
    have H4 := fun w h => specBlockedBy_any D A B m (.slice au ts.length cu) ts w h
    have H5 := fun w h => implClearance_any D A B m (.slice au ts.length cu) ts w h
    have H6 := fun w h => specClearance_any D A B m (.slice au ts.length cu) ts w h
    have F1 : ok = true → sv = decide (L.length = 0) := fun h => by rw [hsv, hL]; exact blocked_tells (by rw [← hok]; exact h)
    have F2 : th = true → ok = true ∧ (0 ≤ P ↔ sv = true) ∧ 1 ≤ Q := fun h => by rw [hok, hP, hsv, hQ]; exact clear_tells2 (by rw [← hth]; exact h)
    rw [← hsv, ← hok] at H1 H2
    rw [← hL, ← hok] at H3 H4
    rw [← hP, ← hQ, ← hth] at H5 H6
    replace H1 := Lib.hid H1
    replace H2 := Lib.hid H2
    replace H3 := Lib.hid H3
    replace H4 := Lib.hid H4
    replace H5 := Lib.hid H5
    replace H6 := Lib.hid H6
    replace F1 := Lib.hid F1
    replace F2 := Lib.hid F2
    clear hsv hok hL hP hQ hth
    go_wp2_with fail
    generalize w1.alloc (.cells #[.int .i64 D, .int .i64 A, .int .i64 B, .slice au ts.length cu] 25) = v1 at *
    generalize w1.heap.size = b5 at *
    refine (H1.out v1 hs).mono ?_
    rintro e v2 ⟨rfl, hb⟩
    replace hu1 := (hu1.below hb).any hb.size
    replace hs := hs.later hb
    replace hB := hB.trans (hb.mono hB.size)
    replace VS := VS.next hb
    clear hb
    have s0 := VS.c0
    have s1 := VS.c1
    have s2 := VS.c2
    have s3 := VS.c3
    have sf0 := VS.fz 0
    have sf1 := VS.fz 1
    have sf2 := VS.fz 2
    have sf3 := VS.fz 3
    go_wp2_with fail
    clear s0 s1 s2 s3 sf0 sf1 sf2 sf3
    refine (H2.out v2 hs).mono ?_
    rintro e v3 ⟨rfl, hb⟩
    replace hu1 := (hu1.below hb).any hb.size
    replace hs := hs.later hb
    replace hB := hB.trans (hb.mono hB.size)
    replace VS := VS.next hb
    clear hb
    have s0 := VS.c0
    have s1 := VS.c1
    have s2 := VS.c2
    have s3 := VS.c3
    have sf0 := VS.fz 0
    have sf1 := VS.fz 1
    have sf2 := VS.fz 2
    have sf3 := VS.fz 3
    go_wp2_with fail
    clear s0 s1 s2 s3 sf0 sf1 sf2 sf3
    refine (H3.out v3 hs).mono ?_
    rintro e v4 ⟨v_, rfl, o_, hb⟩
    obtain ⟨ac3, cc3, rfl, -⟩ := o_.rdc.2
    have hI := o_.rdc
    clear o_
    replace hu1 := (hu1.below hb).any hb.size
    replace hs := hs.later hb
    replace hB := hB.trans (hb.mono hB.size)
    replace VS := VS.next hb
    clear hb
    have s0 := VS.c0
    have s1 := VS.c1
    have s2 := VS.c2
    have s3 := VS.c3
    have sf0 := VS.fz 0
    have sf1 := VS.fz 1
    have sf2 := VS.fz 2
    have sf3 := VS.fz 3
    go_wp2_with fail
    clear s0 s1 s2 s3 sf0 sf1 sf2 sf3
    refine (H4.out v4 hs).mono ?_
    rintro e v5 ⟨v_, rfl, o_, hb⟩
    obtain ⟨ac4, cc4, rfl, -⟩ := o_.rdc.2
    have hP_ := o_.rdc
    clear o_
    replace hu1 := (hu1.below hb).any hb.size
    replace hs := hs.later hb
    replace hB := hB.trans (hb.mono hB.size)
    replace VS := VS.next hb
    replace hI := hI.later hb
    clear hb
    have s0 := VS.c0
    have s1 := VS.c1
    have s2 := VS.c2
    have s3 := VS.c3
    have sf0 := VS.fz 0
    have sf1 := VS.fz 1
    have sf2 := VS.fz 2
    have sf3 := VS.fz 3
    go_wp2_with fail
    clear s0 s1 s2 s3 sf0 sf1 sf2 sf3
    refine (H5.out v5 hs).mono ?_
    rintro e v6 ⟨rfl, hb⟩
    replace hu1 := (hu1.below hb).any hb.size
    replace hs := hs.later hb
    replace hB := hB.trans (hb.mono hB.size)
    replace VS := VS.next hb
    replace hI := hI.later hb
    replace hP_ := hP_.later hb
    clear hb
    have s0 := VS.c0
    have s1 := VS.c1
    have s2 := VS.c2
    have s3 := VS.c3
    have sf0 := VS.fz 0
    have sf1 := VS.fz 1
    have sf2 := VS.fz 2
    have sf3 := VS.fz 3
    go_wp2_with fail
    clear s0 s1 s2 s3 sf0 sf1 sf2 sf3
    refine (H6.out v6 hs).mono ?_
    rintro e v7 ⟨rfl, hb⟩
    replace hu1 := (hu1.below hb).any hb.size
    replace hs := hs.later hb
    replace hB := hB.trans (hb.mono hB.size)
    replace VS := VS.next hb
    replace hI := hI.later hb
    replace hP_ := hP_.later hb
    clear hb
    clear H1 H2 H3 H4 H5 H6
    clear VS hs
    go_wp2_with fail
    refine (drawSightBounds a1 n1 cap1 v7 hu1).mono ?_
    rintro e v8 ⟨rD, rA, rB, ru, rs, rfl, oR, hl, hb⟩
    have hr := oR.rd
    clear hl oR
    obtain ⟨ar, cr, rfl, -⟩ := hr.len
    replace hu1 := (hu1.below hb).any hb.size
    replace hB := hB.trans (hb.mono hB.size)
    replace hI := hI.later hb
    replace hP_ := hP_.later hb
    clear hb
    have VR := Var4.new v8 (.int .i64 rD) (.int .i64 rA) (.int .i64 rB) (.slice ar rs.length cr) 25
    have hb := (Below.refl v8.heap.size v8).alloc (Nat.le_refl _) (.cells #[.int .i64 rD, .int .i64 rA, .int .i64 rB, .slice ar rs.length cr] 25)
    replace hu1 := (hu1.below hb).any hb.size
    replace hB := hB.trans (hb.mono hB.size)
    replace hI := hI.later hb
    replace hP_ := hP_.later hb
    replace hr := hr.later hb
    clear hb
    obtain ⟨sur, hsur⟩ : ∃ x, x = (sightB rD rA rB rs && seesB rD rA rB 0 rs) := ⟨_, rfl⟩
    obtain ⟨may, hmay⟩ : ∃ x, x = (sightB rD rA rB rs && seesB rD rA rB 3 rs) := ⟨_, rfl⟩
    obtain ⟨five, hfive⟩ : ∃ x, x = sightB rD rA rB rs := ⟨_, rfl⟩
    obtain ⟨RD, hRD⟩ : ∃ x, x = rvD rD rA rB rs := ⟨_, rfl⟩
    obtain ⟨RA, hRA⟩ : ∃ x, x = rvA rD rA rB rs := ⟨_, rfl⟩
    obtain ⟨RB, hRB⟩ : ∃ x, x = rvB rD rA rB rs := ⟨_, rfl⟩
    obtain ⟨RL, hRL⟩ : ∃ x, x = rvL rD rA rB rs := ⟨_, rfl⟩
    have H1 := fun w h => implSightBounds_any rD rA rB (.slice ar rs.length cr) rs w h
    have H2 := fun w h => specSightBounds_any rD rA rB (.slice ar rs.length cr) rs w h
    have H3 := fun w h => implReverseSight_any rD rA rB (.slice ar rs.length cr) rs w h
    have H4 := fun w h => specReverseSight_any rD rA rB (.slice ar rs.length cr) rs w h
    have H5 := fun w h => isSight_any rD rA rB (.slice ar rs.length cr) rs w h
    have G1 : five = true → ∀ k : Nat, k ≤ 3 → ∃ x, SeesC rD rA rB rs k 16 x ∧ SeesC rD rA rB rs k 17 x ∧ SeesC RD RA RB RL k 16 x ∧ (sur = true → x = true) ∧ (x = true → may = true) := fun h k hk => by rw [hRD, hRA, hRB, hRL, hsur, hmay]; exact sees_facts (by rw [← hfive]; exact h) k hk
    have G2 : five = true → BackC RD RA RB RL rD rA rB rs := fun h => by rw [hRD, hRA, hRB, hRL]; exact back_facts (by rw [← hfive]; exact h)
    rw [← hsur, ← hmay, ← hfive] at H1 H2
    rw [← hRD, ← hRA, ← hRB, ← hRL, ← hfive] at H3 H4
    rw [← hfive] at H5
    replace H1 := Lib.hid H1
    replace H2 := Lib.hid H2
    replace H3 := Lib.hid H3
    replace H4 := Lib.hid H4
    replace H5 := Lib.hid H5
    replace G1 := Lib.hid G1
    replace G2 := Lib.hid G2
    clear hsur hmay hfive hRD hRA hRB hRL
    go_wp2_with fail
    generalize v8.alloc (.cells #[.int .i64 rD, .int .i64 rA, .int .i64 rB, .slice ar rs.length cr] 25) = v9 at *
    generalize v8.heap.size = b21 at *
    refine (H1.out v9 hr).mono ?_
    rintro e v10 ⟨rfl, hb⟩
    replace hu1 := (hu1.below hb).any hb.size
    replace hB := hB.trans (hb.mono hB.size)
    replace hI := hI.later hb
    replace hP_ := hP_.later hb
    replace hr := hr.later hb
    replace VR := VR.next hb
    clear hb
    have r0 := VR.c0
    have r1 := VR.c1
    have r2 := VR.c2
    have r3 := VR.c3
    have rf0 := VR.fz 0
    have rf1 := VR.fz 1
    have rf2 := VR.fz 2
    have rf3 := VR.fz 3
    go_wp2_with fail
    clear r0 r1 r2 r3 rf0 rf1 rf2 rf3
    refine (H2.out v10 hr).mono ?_
    rintro e v11 ⟨rfl, hb⟩
    replace hu1 := (hu1.below hb).any hb.size
    replace hB := hB.trans (hb.mono hB.size)
    replace hI := hI.later hb
    replace hP_ := hP_.later hb
    replace hr := hr.later hb
    replace VR := VR.next hb
    clear hb
    have r0 := VR.c0
    have r1 := VR.c1
    have r2 := VR.c2
    have r3 := VR.c3
    have rf0 := VR.fz 0
    have rf1 := VR.fz 1
    have rf2 := VR.fz 2
    have rf3 := VR.fz 3
    go_wp2_with fail
    clear r0 r1 r2 r3 rf0 rf1 rf2 rf3
    refine (H3.out v11 hr).mono ?_
    rintro e v12 ⟨v_, rfl, o_, hb⟩
    have hT := o_.rd
    clear o_
    obtain ⟨aT, cT, rfl, -⟩ := hT.len
    replace hu1 := (hu1.below hb).any hb.size
    replace hB := hB.trans (hb.mono hB.size)
    replace hI := hI.later hb
    replace hP_ := hP_.later hb
    replace hr := hr.later hb
    replace VR := VR.next hb
    clear hb
    have VT := Var4.new v12 (.int .i64 RD) (.int .i64 RA) (.int .i64 RB) (.slice aT RL.length cT) 25
    have hb := (Below.refl v12.heap.size v12).alloc (Nat.le_refl _) (.cells #[.int .i64 RD, .int .i64 RA, .int .i64 RB, .slice aT RL.length cT] 25)
    replace hu1 := (hu1.below hb).any hb.size
    replace hB := hB.trans (hb.mono hB.size)
    replace hI := hI.later hb
    replace hP_ := hP_.later hb
    replace hr := hr.later hb
    replace VR := VR.next hb
    replace hT := hT.later hb
    clear hb
    have r0 := VR.c0
    have r1 := VR.c1
    have r2 := VR.c2
    have r3 := VR.c3
    have rf0 := VR.fz 0
    have rf1 := VR.fz 1
    have rf2 := VR.fz 2
    have rf3 := VR.fz 3
    go_wp2_with fail
    clear r0 r1 r2 r3 rf0 rf1 rf2 rf3
    generalize v12.alloc (.cells #[.int .i64 RD, .int .i64 RA, .int .i64 RB, .slice aT RL.length cT] 25) = v13 at *
    generalize v12.heap.size = b28 at *
    refine (H4.out v13 hr).mono ?_
    rintro e v14 ⟨v_, rfl, o_, hb⟩
    have hU := o_.rd
    clear o_
    obtain ⟨aU, cU, rfl, -⟩ := hU.len
    replace hu1 := (hu1.below hb).any hb.size
    replace hB := hB.trans (hb.mono hB.size)
    replace hI := hI.later hb
    replace hP_ := hP_.later hb
    replace hr := hr.later hb
    replace VR := VR.next hb
    replace hT := hT.later hb
    replace VT := VT.next hb
    clear hb
    have VU := Var4.new v14 (.int .i64 RD) (.int .i64 RA) (.int .i64 RB) (.slice aU RL.length cU) 25
    have hb := (Below.refl v14.heap.size v14).alloc (Nat.le_refl _) (.cells #[.int .i64 RD, .int .i64 RA, .int .i64 RB, .slice aU RL.length cU] 25)
    replace hu1 := (hu1.below hb).any hb.size
    replace hB := hB.trans (hb.mono hB.size)
    replace hI := hI.later hb
    replace hP_ := hP_.later hb
    replace hr := hr.later hb
    replace VR := VR.next hb
    replace hT := hT.later hb
    replace VT := VT.next hb
    replace hU := hU.later hb
    clear hb
    go_wp2_with fail
    generalize v14.alloc (.cells #[.int .i64 RD, .int .i64 RA, .int .i64 RB, .slice aU RL.length cU] 25) = v15 at *
    generalize v14.heap.size = b30 at *
    refine (drawBulge a1 n1 cap1 v15 hu1).mono ?_
    rintro e v16 ⟨d, x, bend, rfl, hd, hx, hbd, hb⟩
    have hd0 := hd.1
    have hd1 := hd.2
    have hx0 := hx.1
    have hx1 := hx.2
    clear hd hx hbd
    replace hu1 := (hu1.below hb).any hb.size
    replace hB := hB.trans (hb.mono hB.size)
    replace hI := hI.later hb
    replace hP_ := hP_.later hb
    replace hr := hr.later hb
    replace VR := VR.next hb
    replace hT := hT.later hb
    replace VT := VT.next hb
    replace hU := hU.later hb
    replace VU := VU.next hb
    clear hb
    obtain ⟨g, hg⟩ : ∃ y, y = bgV d x bend := ⟨_, rfl⟩
    obtain ⟨nine, hnine⟩ : ∃ y, y = bgB d x bend := ⟨_, rfl⟩
    have K1 := fun w => implBulgeAt_any d x bend w
    have K2 := fun w => specBulgeAt_any d x bend w
    have G3 : nine = true → (∀ w, Calls Try.prog 28 #[.int .i64 d, .int .i64 (d - x), .int .i64 bend] w fun e w' => e = .returned (.tuple #[.int .i64 g, .bool true]) ∧ Below w.heap.size w w') ∧ 0 ≤ g ∧ IntKind.i64.wrap (d - x) = d - x := fun h => by rw [hg]; exact bulge_facts (by rw [← hnine]; exact h)
    rw [← hg, ← hnine] at K1 K2
    replace K1 := Lib.hid K1
    replace K2 := Lib.hid K2
    replace G3 := Lib.hid G3
    clear hg hnine H1 H2 H3 H4
    clear hu1
    go_wp2_with fail
    refine (K1.out v16).mono ?_
    rintro e v17 ⟨rfl, hb⟩
    replace hB := hB.trans (hb.mono hB.size)
    replace hI := hI.later hb
    replace hP_ := hP_.later hb
    replace hr := hr.later hb
    replace VR := VR.next hb
    replace hT := hT.later hb
    replace VT := VT.next hb
    replace hU := hU.later hb
    replace VU := VU.next hb
    clear hb
    go_wp2_with fail
    refine (K2.out v17).mono ?_
    rintro e v18 ⟨rfl, hb⟩
    replace hB := hB.trans (hb.mono hB.size)
    replace hI := hI.later hb
    replace hP_ := hP_.later hb
    replace hr := hr.later hb
    replace VR := VR.next hb
    replace hT := hT.later hb
    replace VT := VT.next hb
    replace hU := hU.later hb
    replace VU := VU.next hb
    clear hb
    go_upto_region 18 with fail
    go_cut [235] from 143 to 234 (fun s235 wx => s235 = .bool false ∧ Var4 wx b21 (.int .i64 rD) (.int .i64 rA) (.int .i64 rB) (.slice ar rs.length cr) ∧ RdR c2 2 wx (.slice ar rs.length cr) rs ∧ Var4 wx b28 (.int .i64 RD) (.int .i64 RA) (.int .i64 RB) (.slice aT RL.length cT) ∧ RdR c2 2 wx (.slice aT RL.length cT) RL ∧ Below w.heap.size w wx)
    case first =>
      clear K1 K2 G1 G2 G3 F1
      cases hthc : th with
      | false =>
        clear F2
        subst hthc
        go_wp2_with fail
        refine (qInts_true _ _ L _ hI.rd hP_.rd).mono ?_
        rintro e v19 ⟨rfl, nq, hq⟩
        have hb := below_drewN (Below.refl v18.heap.size v18) nq
        rw [← hq] at hb
        clear hq
        replace hB := hB.trans (hb.mono hB.size)
        replace hI := hI.later hb
        replace hP_ := hP_.later hb
        replace hr := hr.later hb
        replace VR := VR.next hb
        replace hT := hT.later hb
        replace VT := VT.next hb
        replace hU := hU.later hb
        replace VU := VU.next hb
        clear hb
        have t0 := VT.c0
        have t1 := VT.c1
        have t2 := VT.c2
        have t3 := VT.c3
        have tf0 := VT.fz 0
        have tf1 := VT.fz 1
        have tf2 := VT.fz 2
        have tf3 := VT.fz 3
        have u0 := VU.c0
        have u1 := VU.c1
        have u2 := VU.c2
        have u3 := VU.c3
        have uf0 := VU.fz 0
        have uf1 := VU.fz 1
        have uf2 := VU.fz 2
        have uf3 := VU.fz 3
        go_wp2_with fail
        clear t0 t1 t2 t3 tf0 tf1 tf2 tf3 u0 u1 u2 u3 uf0 uf1 uf2 uf3
        refine (qSight_true RD RA RB _ _ RL _ hT hU).mono ?_
        rintro e v20 ⟨rfl, hb⟩
        replace hB := hB.trans (hb.mono hB.size)
        replace hI := hI.later hb
        replace hP_ := hP_.later hb
        replace hr := hr.later hb
        replace VR := VR.next hb
        replace hT := hT.later hb
        replace VT := VT.next hb
        replace hU := hU.later hb
        replace VU := VU.next hb
        clear hb
        have r0 := VR.c0
        have r1 := VR.c1
        have r2 := VR.c2
        have r3 := VR.c3
        have rf0 := VR.fz 0
        have rf1 := VR.fz 1
        have rf2 := VR.fz 2
        have rf3 := VR.fz 3
        go_wp2_with fail
        clear r0 r1 r2 r3 rf0 rf1 rf2 rf3
        refine (H5.out _ hr).mono ?_
        rintro e v21 ⟨rfl, hb⟩
        replace hB := hB.trans (hb.mono hB.size)
        replace hI := hI.later hb
        replace hP_ := hP_.later hb
        replace hr := hr.later hb
        replace VR := VR.next hb
        replace hT := hT.later hb
        replace VT := VT.next hb
        replace hU := hU.later hb
        replace VU := VU.next hb
        clear hb
        go_wp2_with fail
        go_meet
        exact ⟨rfl, VR, hr, VT, hT, hB⟩
      | true =>
        obtain rfl : ok = true := (F2.out hthc).1
        clear F2
        subst hthc
        go_wp2_with fail
        refine (qInts_true _ _ L _ hI.rd hP_.rd).mono ?_
        rintro e v22 ⟨rfl, nq, hq⟩
        have hb := below_drewN (Below.refl v18.heap.size v18) nq
        rw [← hq] at hb
        clear hq
        replace hB := hB.trans (hb.mono hB.size)
        replace hI := hI.later hb
        replace hP_ := hP_.later hb
        replace hr := hr.later hb
        replace VR := VR.next hb
        replace hT := hT.later hb
        replace VT := VT.next hb
        replace hU := hU.later hb
        replace VU := VU.next hb
        clear hb
        have t0 := VT.c0
        have t1 := VT.c1
        have t2 := VT.c2
        have t3 := VT.c3
        have tf0 := VT.fz 0
        have tf1 := VT.fz 1
        have tf2 := VT.fz 2
        have tf3 := VT.fz 3
        have u0 := VU.c0
        have u1 := VU.c1
        have u2 := VU.c2
        have u3 := VU.c3
        have uf0 := VU.fz 0
        have uf1 := VU.fz 1
        have uf2 := VU.fz 2
        have uf3 := VU.fz 3
        go_wp2_with fail
        clear t0 t1 t2 t3 tf0 tf1 tf2 tf3 u0 u1 u2 u3 uf0 uf1 uf2 uf3
        refine (qSight_true RD RA RB _ _ RL _ hT hU).mono ?_
        rintro e v23 ⟨rfl, hb⟩
        replace hB := hB.trans (hb.mono hB.size)
        replace hI := hI.later hb
        replace hP_ := hP_.later hb
        replace hr := hr.later hb
        replace VR := VR.next hb
        replace hT := hT.later hb
        replace VT := VT.next hb
        replace hU := hU.later hb
        replace VU := VU.next hb
        clear hb
        have r0 := VR.c0
        have r1 := VR.c1
        have r2 := VR.c2
        have r3 := VR.c3
        have rf0 := VR.fz 0
        have rf1 := VR.fz 1
        have rf2 := VR.fz 2
        have rf3 := VR.fz 3
        go_wp2_with fail
        clear r0 r1 r2 r3 rf0 rf1 rf2 rf3
        refine (H5.out _ hr).mono ?_
        rintro e v24 ⟨rfl, hb⟩
        replace hB := hB.trans (hb.mono hB.size)
        replace hI := hI.later hb
        replace hP_ := hP_.later hb
        replace hr := hr.later hb
        replace VR := VR.next hb
        replace hT := hT.later hb
        replace VT := VT.next hb
        replace hU := hU.later hb
        replace VU := VU.next hb
        clear hb
        go_wp2_with fail
        go_meet
        exact ⟨rfl, VR, hr, VT, hT, hB⟩
    case rest =>
      clear VR hr VT hT hB hI hP_ VU hU K1 K2 H5
      obtain ⟨rfl, VR, hr, VT, hT, hB⟩ := hcut
      generalize L.length = NL at *
      go_upto_if 236 with fail
      go_cut [39, 40, 41, 42, 43, 44, 45, 46, 47] from 237 to 305 (fun s39 s40 s41 s42 s43 s44 s45 s46 s47 wx => Below w.heap.size w wx)
      case first =>
        cases hfc : five with
        | false =>
          subst hfc
          go_wp2_with fail
          go_meet
          exact hB
        | true =>
          replace G1 := Lib.hid (G1.out hfc)
          replace G2 := Lib.hid (G2.out hfc)
          subst hfc
          go_wp2_with fail
          go_loopw [39] (fun i wr => ∃ k : Nat, k ≤ 4 ∧ i = .int .i64 k ∧ Var4 wr b21 (.int .i64 rD) (.int .i64 rA) (.int .i64 rB) (.slice ar rs.length cr) ∧ RdR c2 2 wr (.slice ar rs.length cr) rs ∧ Var4 wr b28 (.int .i64 RD) (.int .i64 RA) (.int .i64 RB) (.slice aT RL.length cT) ∧ RdR c2 2 wr (.slice aT RL.length cT) RL ∧ Below w.heap.size w wr) (fun i wr => 4 - (intOf i).toNat)
          case atStart => exact ⟨0, by omega, rfl, VR, hr, VT, hT, hB⟩
          case round =>
            clear VR hr VT hT hB
            obtain ⟨k, hk4, rfl, VR, hr, VT, hT, hB⟩ := hrel
            by_cases hk : k ≤ 3
            · have hkI : (k : Int) ≤ 3 := by omega
              obtain ⟨x_, C1, C2, C3, hx1, hx2⟩ := G1.out k hk
              replace C1 := Lib.hid C1
              replace C2 := Lib.hid C2
              replace C3 := Lib.hid C3
              have r0 := VR.c0
              have r1 := VR.c1
              have r2 := VR.c2
              have r3 := VR.c3
              have rf0 := VR.fz 0
              have rf1 := VR.fz 1
              have rf2 := VR.fz 2
              have rf3 := VR.fz 3
              go_wp2_with fail
              clear r0 r1 r2 r3 rf0 rf1 rf2 rf3
              refine (C1.out _ _ hr).mono ?_
              rintro e v25 ⟨rfl, hb⟩
              replace VR := VR.next hb
              replace hr := hr.later hb
              replace VT := VT.next hb
              replace hT := hT.later hb
              replace hB := hB.trans (hb.mono hB.size)
              clear hb
              have r0 := VR.c0
              have r1 := VR.c1
              have r2 := VR.c2
              have r3 := VR.c3
              have rf0 := VR.fz 0
              have rf1 := VR.fz 1
              have rf2 := VR.fz 2
              have rf3 := VR.fz 3
              go_wp2_with fail
              clear r0 r1 r2 r3 rf0 rf1 rf2 rf3
              refine (C2.out _ _ hr).mono ?_
              rintro e v26 ⟨rfl, hb⟩
              replace VR := VR.next hb
              replace hr := hr.later hb
              replace VT := VT.next hb
              replace hT := hT.later hb
              replace hB := hB.trans (hb.mono hB.size)
              clear hb
              have t0 := VT.c0
              have t1 := VT.c1
              have t2 := VT.c2
              have t3 := VT.c3
              have tf0 := VT.fz 0
              have tf1 := VT.fz 1
              have tf2 := VT.fz 2
              have tf3 := VT.fz 3
              go_wp2_with fail
              clear t0 t1 t2 t3 tf0 tf1 tf2 tf3
              refine (C3.out _ _ hT).mono ?_
              rintro e v27 ⟨rfl, hb⟩
              replace VR := VR.next hb
              replace hr := hr.later hb
              replace VT := VT.next hb
              replace hT := hT.later hb
              replace hB := hB.trans (hb.mono hB.size)
              clear hb
              clear C1 C2 C3
              cases sur <;> cases x_ <;> cases may <;> first | (exfalso; simp at hx1 hx2; done) | skip
              all_goals
                go_wp2
                go_roundw
                case rel => exact ⟨k + 1, by omega, by go_num, VR, hr, VT, hT, hB⟩
                case measure => simp [intOf]; omega
            · have hkI : ¬ (k : Int) ≤ 3 := by omega
              clear G1
              have t0 := VT.c0
              have t1 := VT.c1
              have t2 := VT.c2
              have t3 := VT.c3
              have tf0 := VT.fz 0
              have tf1 := VT.fz 1
              have tf2 := VT.fz 2
              have tf3 := VT.fz 3
              go_wp2_with fail
              clear t0 t1 t2 t3 tf0 tf1 tf2 tf3
              refine (G2.out _ _ hT).mono ?_
              rintro e v28 ⟨v_, rfl, hX, hb⟩
              obtain ⟨aX, cX, rfl, -⟩ := hX.len
              replace VR := VR.next hb
              replace hr := hr.later hb
              replace VT := VT.next hb
              replace hT := hT.later hb
              replace hB := hB.trans (hb.mono hB.size)
              clear hb
              clear VT hT
              have VX := Var4.new v28 (.int .i64 rD) (.int .i64 rA) (.int .i64 rB) (.slice aX rs.length cX) 25
              have hb := (Below.refl v28.heap.size v28).alloc (Nat.le_refl _) (.cells #[.int .i64 rD, .int .i64 rA, .int .i64 rB, .slice aX rs.length cX] 25)
              replace VR := VR.next hb
              replace hr := hr.later hb
              replace hB := hB.trans (hb.mono hB.size)
              replace hX := hX.later hb
              clear hb
              have r0 := VR.c0
              have r1 := VR.c1
              have r2 := VR.c2
              have r3 := VR.c3
              have rf0 := VR.fz 0
              have rf1 := VR.fz 1
              have rf2 := VR.fz 2
              have rf3 := VR.fz 3
              have x0 := VX.c0
              have x1 := VX.c1
              have x2 := VX.c2
              have x3 := VX.c3
              have xf0 := VX.fz 0
              have xf1 := VX.fz 1
              have xf2 := VX.fz 2
              have xf3 := VX.fz 3
              go_wp2_with fail
              generalize v28.alloc (.cells #[.int .i64 rD, .int .i64 rA, .int .i64 rB, .slice aX rs.length cX] 25) = v29 at *
              generalize v28.heap.size = b46 at *
              clear r0 r1 r2 r3 rf0 rf1 rf2 rf3 x0 x1 x2 x3 xf0 xf1 xf2 xf3
              refine (qSight_true rD rA rB _ _ rs _ hX hr).mono ?_
              rintro e v30 ⟨rfl, hb⟩
              replace VR := VR.next hb
              replace hr := hr.later hb
              replace hB := hB.trans (hb.mono hB.size)
              replace hX := hX.later hb
              replace VX := VX.next hb
              clear hb
              clear VX hX VR hr
              clear G2
              go_wp2_with fail
              go_meet
              exact hB
      case rest =>
        clear VR hr VT hT hB G1 G2
        have hB := hcut
        clear hcut
        go_upto_if 306 with fail
        go_cut [48, 49] from 307 to 326 (fun s48 s49 wx => Below w.heap.size w wx)
        case first =>
          cases hnc : nine with
          | false =>
            subst hnc
            go_wp2_with fail
            go_meet
            exact hB
          | true =>
            obtain ⟨HB, hg0, hwr⟩ := G3.out hnc
            replace HB := Lib.hid HB
            have hg1 : ¬ g < 0 := by omega
            subst hnc
            go_wp2_with fail
            refine (HB.out _).mono ?_
            rintro e v31 ⟨rfl, hb⟩
            replace hB := hB.trans (hb.mono hB.size)
            clear hb
            clear HB
            go_wp2_with fail
            go_meet
            exact hB
        case rest =>
          clear hB G3
          have hB := hcut
          clear hcut
          cases hokc : ok with
          | false =>
            go_wp2
            go_ret
            exact ⟨rfl, hB⟩
          | true =>
            have hf := F1.out hokc
            subst hokc
            by_cases hN : NL = 0
            · have hz : ((NL : Int) == 0) = true := by simp [hN]
              have hs1 : sv = true := by rw [hf]; simp [hN]
              clear hf hN
              cases hthc : th with
              | false =>
                subst hthc
                subst hs1
                go_wp2
                go_ret
                exact ⟨rfl, hB⟩
              | true =>
                obtain ⟨-, q1, q2⟩ := F2.out hthc
                have q3 : 0 ≤ P := q1.2 hs1
                have q4 : ¬ P < 0 := by omega
                clear q1 F2
                subst hthc
                subst hs1
                go_wp2
                go_ret
                first | exact ⟨rfl, hB⟩ | exact ⟨congrArg (fun b => Ending.returned (Value.bool b)) (show decide (0 ≤ P) = true by simp [q3]), hB⟩ | exact ⟨by simp [q3, q4], hB⟩
            · have hz : ((NL : Int) == 0) = false := by simp; omega
              have hs1 : sv = false := by rw [hf]; simp [hN]
              clear hf hN
              cases hthc : th with
              | false =>
                subst hthc
                subst hs1
                go_wp2
                go_ret
                exact ⟨rfl, hB⟩
              | true =>
                obtain ⟨-, q1, q2⟩ := F2.out hthc
                have q3 : ¬ 0 ≤ P := fun h => by have := q1.1 h; rw [hs1] at this; simp at this
                have q4 : P < 0 := by omega
                clear q1 F2
                subst hthc
                subst hs1
                go_wp2
                go_ret
                have q5 : (!decide (0 ≤ P)) = true := by simp; omega
                first | exact ⟨rfl, hB⟩ | exact ⟨congrArg (fun b => Ending.returned (Value.bool b)) q5, hB⟩ | exact ⟨by rw [q5]; rfl, hB⟩ | exact ⟨by simp [q5, q3], hB⟩ | exact ⟨by simp_all, hB⟩
end Go.Proofs.Ytkdmjeonlghnjaa
