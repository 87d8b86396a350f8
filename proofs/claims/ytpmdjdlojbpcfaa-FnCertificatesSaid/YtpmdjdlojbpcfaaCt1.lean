/- The general law FnCertificates. Written by a generator of this claim's author. -/
import Derived.Test.YtpmdjdlojbpcfaaDt2
import Derived.Test.YtpmdjdlojbpcfaaStR
import Derived.Test.YtpmdjdlojbpcfaaRows
namespace Go.Proofs.Ytpmdjdlojbpcfaa
open Go.RowKit Go.Sort
set_option linter.unusedSimpArgs false
set_option linter.unusedVariables false
theorem RdU.of_row {w : World} {a : Option Addr} {n cap : Nat} {zs : List Int} (h : IsRow .u8 w a n cap zs) : RdU w w.heap.size (.slice a n cap) n := by
  rcases h with ⟨rfl, rfl, rfl, rfl⟩ | ⟨x, rfl, hl, hm, hz, hc, hw⟩
  · exact ⟨by simp, .inl ⟨rfl, _, _, rfl⟩⟩
  · by_cases h0 : n = 0
    · subst h0; exact ⟨by simp, .inl ⟨rfl, _, _, rfl⟩⟩
    · obtain ⟨b, off, spot⟩ := x
      have hc0 := hc 0 (by omega)
      have hspot : spot = none := by simpa [Addr.add] using World.cell?_spot hc0
      subst hspot
      have hadd : ∀ i, (⟨b, off, none⟩ : Addr).add i = ⟨b, off + i, none⟩ := by intro i; unfold Addr.add; split <;> simp_all
      refine ⟨by omega, .inr ⟨b, off, cap, rfl, ?_, fun i hi => ?_⟩⟩
      · have := World.block_lt_of_cell? w _ hc0
        simpa [Addr.add] using this
      · have := hc i (by omega)
        rw [hadd] at this
        refine ⟨_, this, ?_⟩
        have hmem : zs.getD i 0 ∈ zs := by
          rw [List.getD_eq_getElem?_getD, List.getElem?_eq_getElem (by omega)]
          exact List.getElem_mem _
        have := hw _ hmem
        simp only [Lit.wf, Bool.and_eq_true, decide_eq_true_eq] at this
        have h1 : IntKind.u8.min = 0 := by rfl
        have h2 : IntKind.u8.max = 255 := by rfl
        rw [h1, h2] at this
        exact this

theorem qInts_true (v1 v2 : Value) (zs : List Int) (w : World) (h1 : Rd w v1 zs) (h2 : Rd w v2 zs) :
    Calls Try.prog 31 #[v1, v2] w fun e w' => e = .returned (.bool true) ∧ ∃ n, w' = w.drewN n := by
  rcases h1 with ⟨rfl, a1, c1, rfl, -⟩ | ⟨g1, o1, c1, rfl, hg1, hm, k1⟩
  · rcases h2 with ⟨-, a2, c2, rfl, -⟩ | ⟨g2, o2, c2, rfl, hg2, -, k2⟩
    all_goals
      go_enter Try.func31, Try.ntmps31
      go_wp2
      go_loopw [13] (fun i wr => i = .int .i64 0 ∧ wr = w) (fun i wr => 0)
      case atStart => exact ⟨rfl, rfl⟩
      case round =>
        obtain ⟨rfl, rfl⟩ := hrel
        go_wp2
        go_ret
        exact ⟨rfl, 0, rfl⟩
  · rcases h2 with ⟨rfl, a2, c2, rfl, -⟩ | ⟨g2, o2, c2, rfl, hg2, -, k2⟩
    · go_enter Try.func31, Try.ntmps31
      go_wp2
      go_loopw [13] (fun i wr => i = .int .i64 0 ∧ wr = w) (fun i wr => 0)
      case atStart => exact ⟨rfl, rfl⟩
      case round =>
        obtain ⟨rfl, rfl⟩ := hrel
        go_wp2
        go_ret
        exact ⟨rfl, 0, rfl⟩
    · unfold maxLen at hm
      obtain ⟨n, hn⟩ : ∃ n, n = zs.length := ⟨_, rfl⟩
      rw [← hn] at k1 k2 hm
      rw [← hn]
      clear hn
      go_enter Try.func31, Try.ntmps31
      go_wp2
      go_loopw [13] (fun i wr => ∃ k : Nat, k ≤ n ∧ i = .int .i64 k ∧ ∃ m, wr = w.drewN m) (fun i wr => n - (intOf i).toNat)
      case atStart => exact ⟨0, Nat.zero_le _, rfl, 0, rfl⟩
      case round =>
        obtain ⟨k, hk, rfl, m, rfl⟩ := hrel
        by_cases hlt : k < n
        · have q1 := k1 k hlt
          have q2 := k2 k hlt
          clear k1 k2
          go_wp2
          go_quiet (fail)
          go_wp2
          go_roundw
          case rel => exact ⟨k + 1, by omega, by go_num, _, rfl⟩
          case measure => simp [intOf]; omega
        · clear k1 k2
          go_wp2
          go_ret
          exact ⟨rfl, m, rfl⟩
set_option maxRecDepth 100000 in
set_option maxHeartbeats 8000000 in
theorem walk_FnCertificates (a0 : Option Addr) (n0 cap0 : Nat) (z0 : List Int) (a1 : Option Addr) (n1 cap1 : Nat) (z1 : List Int) (w : World) (w0r : IsRow .u8 w a0 n0 cap0 z0) (w1r : IsRow .u8 w a1 n1 cap1 z1) :
    Calls Try.prog 4 #[.slice a0 n0 cap0, .slice a1 n1 cap1] w fun e w' => e = .returned (.bool true) ∧ Below w.heap.size w w' := by
  have hu0 := RdU.of_row w0r
  have hu1 := RdU.of_row w1r
  clear w0r w1r
  have hm0 := hu0.1
  have hm1 := hu1.1
  unfold maxLen at hm0 hm1
  have hB := Below.refl w.heap.size w
  obtain ⟨S, hS0⟩ : ∃ S, IntKind.i64.wrap ((n0 : Int) + (n1 : Int)) = S := ⟨_, rfl⟩
  by_cases hbig : 1048576 < S
  · go_enter Try.func4, Try.ntmps4
    go_wp2
    go_ret
    exact ⟨rfl, Below.refl _ _⟩
  · go_enter Try.func4, Try.ntmps4
    go_wp2_with fail
    refine (drawMost a0 n0 cap0 w hu0).mono ?_
    rintro e w1 ⟨v, L, k, rfl, J1, -, -, hb⟩
    obtain ⟨av, cv, rfl, -⟩ := J1.len
    replace J1 := Lib.hid J1
    obtain ⟨mL, hmL⟩ : ∃ x, x = L.length := ⟨_, rfl⟩
    rw [← hmL] at J1 ⊢
    clear hmL hu0
    replace hB := hB.trans (hb.mono hB.size)
    replace hu1 := (hu1.below hb).any hb.size
    clear hb
    have CI := fun W h => implMostApart_i (.slice av mL cv) L (k : Int) W h
    have CS := fun W h => specMostApart_i (.slice av mL cv) L (k : Int) W h
    obtain ⟨ok, hok⟩ : ∃ x, x = stB L (k : Int) := ⟨_, rfl⟩
    obtain ⟨l, hl⟩ : ∃ x, x = maL L (k : Int) := ⟨_, rfl⟩
    rw [← hok, ← hl] at CI CS
    have FM : Hid (ok = true → (aaA L (k : Int) l = true ∧ aaB L (k : Int) l = true) ∧ ∀ c, lcR L (k : Int) 1 = some c → l.length ≤ c.length) := Lib.hid fun h => by
      rw [hok] at h
      have hm := isMost_maL _ w1 h J1.out
      rw [← hl] at hm
      exact ⟨cert_most h hm, fun c hc => cert_le h hm hc⟩
    replace CI := Lib.hid CI
    replace CS := Lib.hid CS
    clear hok hl
    go_wp2_with fail
    refine (CI.out _ J1.out).mono ?_
    rintro e w2 ⟨v1, rfl, o1, hb⟩
    obtain ⟨p1, c1, rfl⟩ := o1.rd.len
    have R1 := Lib.hid o1.rd
    obtain ⟨q, hq⟩ : ∃ x, x = l.length := ⟨_, rfl⟩
    rw [← hq] at R1 ⊢
    have HQ := Lib.hid hq
    clear hq o1 CI
    replace J1 := Lib.hid (J1.out.later hb)
    replace hB := hB.trans (hb.mono hB.size)
    replace hu1 := (hu1.below hb).any hb.size
    clear hb
    go_wp2_with fail
    refine (CS.out _ J1.out).mono ?_
    rintro e w3 ⟨v2, rfl, o2, hb⟩
    obtain ⟨p2, d2, rfl⟩ := o2.rd.len
    have R2 := Lib.hid o2.rd
    rw [← HQ.out] at R2 ⊢
    clear o2 CS
    replace J1 := Lib.hid (J1.out.later hb)
    replace R1 := Lib.hid (R1.out.later hb)
    replace hB := hB.trans (hb.mono hB.size)
    replace hu1 := (hu1.below hb).any hb.size
    clear hb
    go_wp2_with fail
    refine (drawApart a1 n1 cap1 _ hu1).mono ?_
    rintro e w4 ⟨v, M, m, u, zs, rfl, J2, -, -, Z2, -, hb⟩
    obtain ⟨aM, cM, rfl, -⟩ := J2.len
    obtain ⟨az, cz, rfl⟩ := Z2.len
    replace J2 := Lib.hid J2
    replace Z2 := Lib.hid Z2
    obtain ⟨mM, hmM⟩ : ∃ x, x = M.length := ⟨_, rfl⟩
    obtain ⟨qz, hqz⟩ : ∃ x, x = zs.length := ⟨_, rfl⟩
    rw [← hmM] at J2 ⊢
    rw [← hqz] at Z2 ⊢
    have HZ := Lib.hid hqz
    clear hmM hqz
    replace J1 := Lib.hid (J1.out.later hb)
    replace R1 := Lib.hid (R1.out.later hb)
    replace R2 := Lib.hid (R2.out.later hb)
    replace hB := hB.trans (hb.mono hB.size)
    replace hu1 := (hu1.below hb).any hb.size
    clear hb
    have CI := fun W h h' => implAreApart_any (.slice aM mM cM) (.slice az qz cz) M (m : Int) zs W h h'
    have CS := fun W h h' => specAreApart_any (.slice aM mM cM) (.slice az qz cz) M (m : Int) zs W h h'
    have FA : Hid (aaA M (m : Int) zs = true → aaB M (m : Int) zs = true → stB M (m : Int) = true ∧ zs.length ≤ (maL M (m : Int)).length) := Lib.hid fun h h' =>
      ⟨aa_st h, cert_ap h' (isMost_maL _ w4 (aa_st h) J2.out)⟩
    obtain ⟨p, hp⟩ : ∃ x, x = aaB M (m : Int) zs := ⟨_, rfl⟩
    obtain ⟨one, ho⟩ : ∃ x, x = aaA M (m : Int) zs := ⟨_, rfl⟩
    rw [← hp, ← ho] at CI CS FA
    replace CI := Lib.hid CI
    replace CS := Lib.hid CS
    clear hp ho
    go_wp2_with fail
    refine (CI.out _ J2.out Z2.out).mono ?_
    rintro e w5 ⟨rfl, hb⟩
    clear CI
    replace J1 := Lib.hid (J1.out.later hb)
    replace R1 := Lib.hid (R1.out.later hb)
    replace R2 := Lib.hid (R2.out.later hb)
    replace J2 := Lib.hid (J2.out.later hb)
    replace Z2 := Lib.hid (Z2.out.later hb)
    replace hB := hB.trans (hb.mono hB.size)
    replace hu1 := (hu1.below hb).any hb.size
    clear hb
    go_wp2_with fail
    refine (CS.out _ J2.out Z2.out).mono ?_
    rintro e w6 ⟨rfl, hb⟩
    clear CS
    replace J1 := Lib.hid (J1.out.later hb)
    replace R1 := Lib.hid (R1.out.later hb)
    replace R2 := Lib.hid (R2.out.later hb)
    replace J2 := Lib.hid (J2.out.later hb)
    replace Z2 := Lib.hid (Z2.out.later hb)
    replace hB := hB.trans (hb.mono hB.size)
    replace hu1 := (hu1.below hb).any hb.size
    clear hb
    go_wp2_with fail
    refine (drawCount a1 n1 cap1 _ hu1).mono ?_
    rintro e w7 ⟨v, B, b, cnt, rfl, J3, -, -, -, hb⟩
    obtain ⟨aB, cB, rfl, -⟩ := J3.len
    replace J3 := Lib.hid J3
    obtain ⟨mB, hmB⟩ : ∃ x, x = B.length := ⟨_, rfl⟩
    rw [← hmB] at J3 ⊢
    clear hmB
    replace J1 := Lib.hid (J1.out.later hb)
    replace R1 := Lib.hid (R1.out.later hb)
    replace R2 := Lib.hid (R2.out.later hb)
    replace J2 := Lib.hid (J2.out.later hb)
    replace Z2 := Lib.hid (Z2.out.later hb)
    replace hB := hB.trans (hb.mono hB.size)
    replace hu1 := (hu1.below hb).any hb.size
    clear hb
    have CI := fun W h => implCountCovers_any (.slice aB mB cB) B (b : Int) cnt W h
    have CS := fun W h => specCountCovers_any (.slice aB mB cB) B (b : Int) cnt W h
    have FC : Hid (ccA B (b : Int) cnt = true → 0 ≤ ccV B (b : Int) cnt ∧ (lcR B (b : Int) 1 = none → ccV B (b : Int) cnt = 0) ∧ ∀ c, lcR B (b : Int) 1 = some c → ((cnt < (c.length : Int) → ccV B (b : Int) cnt = 0) ∧ (cnt = (c.length : Int) → 1 ≤ ccV B (b : Int) cnt))) := Lib.hid fun h => cert_cc h
    obtain ⟨c, hc⟩ : ∃ x, x = ccV B (b : Int) cnt := ⟨_, rfl⟩
    obtain ⟨three, ht⟩ : ∃ x, x = ccA B (b : Int) cnt := ⟨_, rfl⟩
    rw [← hc, ← ht] at CI CS FC
    replace CI := Lib.hid CI
    replace CS := Lib.hid CS
    clear hc ht
    go_wp2_with fail
    refine (CI.out _ J3.out).mono ?_
    rintro e w8 ⟨rfl, hb⟩
    clear CI
    replace J1 := Lib.hid (J1.out.later hb)
    replace R1 := Lib.hid (R1.out.later hb)
    replace R2 := Lib.hid (R2.out.later hb)
    replace J2 := Lib.hid (J2.out.later hb)
    replace Z2 := Lib.hid (Z2.out.later hb)
    replace J3 := Lib.hid (J3.out.later hb)
    replace hB := hB.trans (hb.mono hB.size)
    replace hu1 := (hu1.below hb).any hb.size
    clear hb
    go_wp2_with fail
    refine (CS.out _ J3.out).mono ?_
    rintro e w9 ⟨rfl, hb⟩
    clear CS
    replace J1 := Lib.hid (J1.out.later hb)
    replace R1 := Lib.hid (R1.out.later hb)
    replace R2 := Lib.hid (R2.out.later hb)
    replace J2 := Lib.hid (J2.out.later hb)
    replace Z2 := Lib.hid (Z2.out.later hb)
    replace J3 := Lib.hid (J3.out.later hb)
    replace hB := hB.trans (hb.mono hB.size)
    replace hu1 := (hu1.below hb).any hb.size
    clear hb
    go_wp2_with fail
    refine (qInts_true _ _ l _ R1.out R2.out).mono ?_
    rintro e w' ⟨rfl, x, rfl⟩
    have hb := below_drewN (Below.refl w9.heap.size w9) x
    replace J1 := Lib.hid (J1.out.later hb)
    replace R1 := Lib.hid (R1.out.later hb)
    replace R2 := Lib.hid (R2.out.later hb)
    replace J2 := Lib.hid (J2.out.later hb)
    replace Z2 := Lib.hid (Z2.out.later hb)
    replace J3 := Lib.hid (J3.out.later hb)
    replace hB := hB.trans (hb.mono hB.size)
    replace hu1 := (hu1.below hb).any hb.size
    clear hb R2 hu1 hm0 hm1
    generalize w9.drewN x = w10 at *
    go_upto_region 14 with fail
    go_cut [132] from 129 to 131 (fun s132 wx => s132 = .bool (one && p) ∧ wx = w10)
    case first =>
      cases one with
      | false =>
        go_wp2_with fail
        go_meet
        exact ⟨rfl, rfl⟩
      | true =>
        cases p with
        | false =>
          go_wp2_with fail
          go_meet
          exact ⟨rfl, rfl⟩
        | true =>
          go_wp2_with fail
          go_meet
          exact ⟨rfl, rfl⟩
    case rest =>
    obtain ⟨rfl, hwx⟩ := hcut
    have hwx' := hwx.symm
    clear hwx
    subst hwx'
    obtain ⟨op, hop⟩ : ∃ x, x = (one && p) := ⟨_, rfl⟩
    replace FA : Hid (op = true → stB M (m : Int) = true ∧ zs.length ≤ (maL M (m : Int)).length) := Lib.hid fun h => by
      rw [hop, Bool.and_eq_true] at h
      exact FA.out h.1 h.2
    rw [← hop]
    clear hop
    go_upto_if 132 with fail
    go_cut [25, 26] from 133 to 147 (fun s25 s26 wx => Below w10.heap.size w10 wx)
    case first =>
      cases op with
      | false =>
        go_wp2_with fail
        go_meet
        exact Below.refl _ _
      | true =>
        obtain ⟨F1, F2⟩ := FA.out rfl
        have CM := implMostApart_i (.slice aM mM cM) M (m : Int) w10 J2.out
        rw [F1] at CM
        replace CM := Lib.hid CM
        obtain ⟨qm, hqm⟩ : ∃ x, x = (maL M (m : Int)).length := ⟨_, rfl⟩
        rw [← hqm, ← HZ.out] at F2
        have HQM := Lib.hid hqm
        have hlt : ¬ (qm : Int) < (qz : Int) := by omega
        have hlt2 : decide ((qm : Int) < (qz : Int)) = false := by simp; omega
        clear F1 F2 hqm FA FC FM
        go_wp2_with fail
        refine CM.out.mono ?_
        rintro e wa ⟨v3, rfl, o3, hb⟩
        obtain ⟨p3, d3, rfl⟩ := o3.rd.len
        rw [← HQM.out]
        go_wp2_with fail
        go_meet
        exact hb
    case rest =>
    have hW := hcut
    clear hcut FA J2 Z2 HZ
    go_upto_if 148 with fail
    go_cut [27, 28, 29, 30] from 149 to 207 (fun s27 s28 s29 s30 wx => Below w10.heap.size w10 wx)
    case first =>
      cases three with
      | false =>
        go_wp2_with fail
        go_meet
        exact hW
      | true =>
        obtain ⟨F0, F1, F2⟩ := FC.out rfl
        have CL := fun W h => implLeastCover_i (.slice aB mB cB) B (b : Int) 1 W h
        have CK := fun W h => specLeastCover_i (.slice aB mB cB) B (b : Int) 1 W h
        clear FC FM
        cases hr : lcR B (b : Int) 1 with
        | none =>
          rw [hr] at CL CK
          simp only [Option.isSome_none, Option.getD_none] at CL CK
          have hc := F1 hr
          clear F0 F1 F2 hr
          subst hc
          replace CL := Lib.hid CL
          replace CK := Lib.hid CK
          go_wp2_with fail
          refine (CL.out _ (J3.out.later hW)).mono ?_
          rintro e wa ⟨va, rfl, oa, hb⟩
          obtain ⟨pa, da, rfl⟩ := oa.rd.len
          have RA := Lib.hid oa.rd
          have hW1 := hW.trans (hb.mono hW.size)
          clear oa CL
          go_wp2_with fail
          refine (CK.out _ (J3.out.later hW1)).mono ?_
          rintro e wb ⟨vb, rfl, ob, hb2⟩
          obtain ⟨pb, db, rfl⟩ := ob.rd.len
          have RB := Lib.hid ob.rd
          replace RA := Lib.hid (RA.out.later hb2)
          have hW2 := hW1.trans (hb2.mono hW1.size)
          clear ob CK
          go_wp2_with fail
          refine (qInts_true _ _ [] _ RA.out RB.out).mono ?_
          rintro e w' ⟨rfl, x, rfl⟩
          go_wp2_with fail
          go_meet
          exact hW2.trans ((below_drewN (Below.refl _ _) x).mono hW2.size)
        | some cc =>
          rw [hr] at CL CK
          simp only [Option.isSome_some, Option.getD_some] at CL CK
          obtain ⟨G1, G2⟩ := F2 cc hr
          obtain ⟨qc, hqc⟩ : ∃ x, x = cc.length := ⟨_, rfl⟩
          rw [← hqc] at G1 G2
          have HQC := Lib.hid hqc
          clear F1 F2 hr hqc
          replace CL := Lib.hid CL
          replace CK := Lib.hid CK
          go_wp2_with fail
          refine (CL.out _ (J3.out.later hW)).mono ?_
          rintro e wa ⟨va, rfl, oa, hb⟩
          obtain ⟨pa, da, rfl⟩ := oa.rd.len
          have RA := Lib.hid oa.rd
          rw [← HQC.out] at RA ⊢
          have hW1 := hW.trans (hb.mono hW.size)
          clear oa CL
          go_wp2_with fail
          refine (CK.out _ (J3.out.later hW1)).mono ?_
          rintro e wb ⟨vb, rfl, ob, hb2⟩
          obtain ⟨pb, db, rfl⟩ := ob.rd.len
          have RB := Lib.hid ob.rd
          rw [← HQC.out] at RB ⊢
          replace RA := Lib.hid (RA.out.later hb2)
          have hW2 := hW1.trans (hb2.mono hW1.size)
          clear ob CK
          have hcase : (cnt < (qc : Int) ∧ c = 0) ∨ (cnt = (qc : Int) ∧ 1 ≤ c) ∨ ((qc : Int) < cnt ∧ c = 0) ∨ ((qc : Int) < cnt ∧ 1 ≤ c) := by omega
          clear G1 G2
          rcases hcase with ⟨h1, rfl⟩ | ⟨rfl, h1⟩ | ⟨h1, rfl⟩ | ⟨h1, h2⟩
          · have k1 : decide (cnt < (qc : Int)) = true := by simpa using h1
            have k2 : (cnt == (qc : Int)) = false := by simp; omega
            go_wp2_with fail
            refine (qInts_true _ _ cc _ RA.out RB.out).mono ?_
            rintro e w' ⟨rfl, x, rfl⟩
            go_wp2_with fail
            go_meet
            exact hW2.trans ((below_drewN (Below.refl _ _) x).mono hW2.size)
          · have k1 : decide ((qc : Int) < (qc : Int)) = false := by simp
            have k2 : ((qc : Int) == (qc : Int)) = true := by simp
            have k3 : decide (0 < c) = true := by simp; omega
            have k4 : decide (c < 0) = false := by simp; omega
            have k5 : decide (c < 1) = false := by simp; omega
            have k6 : ¬ c < 1 := by omega
            have k7 : ¬ c < 0 := by omega
            have k8 : 0 < c := by omega
            go_wp2_with fail
            refine (qInts_true _ _ cc _ RA.out RB.out).mono ?_
            rintro e w' ⟨rfl, x, rfl⟩
            go_wp2_with fail
            go_meet
            exact hW2.trans ((below_drewN (Below.refl _ _) x).mono hW2.size)
          · have k1 : decide (cnt < (qc : Int)) = false := by simp; omega
            have k2 : (cnt == (qc : Int)) = false := by simp; omega
            have k3 : ¬ cnt < (qc : Int) := by omega
            have k4 : ¬ cnt = (qc : Int) := by omega
            go_wp2_with fail
            refine (qInts_true _ _ cc _ RA.out RB.out).mono ?_
            rintro e w' ⟨rfl, x, rfl⟩
            go_wp2_with fail
            go_meet
            exact hW2.trans ((below_drewN (Below.refl _ _) x).mono hW2.size)
          · have k1 : decide (cnt < (qc : Int)) = false := by simp; omega
            have k2 : (cnt == (qc : Int)) = false := by simp; omega
            have k3 : ¬ cnt < (qc : Int) := by omega
            have k4 : ¬ cnt = (qc : Int) := by omega
            have k5 : decide (0 < c) = true := by simp; omega
            have k6 : decide (c < 0) = false := by simp; omega
            have k7 : ¬ c < 0 := by omega
            have k8 : 0 < c := by omega
            go_wp2_with fail
            refine (qInts_true _ _ cc _ RA.out RB.out).mono ?_
            rintro e w' ⟨rfl, x, rfl⟩
            go_wp2_with fail
            go_meet
            exact hW2.trans ((below_drewN (Below.refl _ _) x).mono hW2.size)
    case rest =>
    have hW2 := hcut
    clear hcut hW FC J3
    cases ok with
    | false =>
      go_wp2_with fail
      go_ret
      exact ⟨rfl, hB.trans (hW2.mono hB.size)⟩
    | true =>
      obtain ⟨⟨F1, F2⟩, F3⟩ := FM.out rfl
      have CA := fun W h h' => implAreApart_any (.slice av mL cv) (.slice p1 q c1) L (k : Int) l W h h'
      rw [F1, F2] at CA
      replace CA := Lib.hid CA
      have CL := fun W h => implLeastCover_i (.slice av mL cv) L (k : Int) 1 W h
      have CK := fun W h => specLeastCover_i (.slice av mL cv) L (k : Int) 1 W h
      clear F1 F2 FM
      go_wp2_with fail
      refine (CA.out _ (J1.out.later hW2) (R1.out.later hW2)).mono ?_
      rintro e wa ⟨rfl, hb⟩
      have hW3 := hW2.trans (hb.mono hW2.size)
      clear CA hb
      cases hr : lcR L (k : Int) 1 with
      | none =>
        rw [hr] at CL CK
        simp only [Option.isSome_none, Option.getD_none] at CL CK
        clear F3 hr
        replace CL := Lib.hid CL
        replace CK := Lib.hid CK
        go_wp2_with fail
        refine (CL.out _ (J1.out.later hW3)).mono ?_
        rintro e wb ⟨vb, rfl, ob, hb⟩
        obtain ⟨pb, db, rfl⟩ := ob.rd.len
        have RA := Lib.hid ob.rd
        have hW4 := hW3.trans (hb.mono hW3.size)
        clear ob CL
        go_wp2_with fail
        refine (CK.out _ (J1.out.later hW4)).mono ?_
        rintro e wd ⟨vd, rfl, od, hb2⟩
        obtain ⟨pd, dd, rfl⟩ := od.rd.len
        have RB := Lib.hid od.rd
        replace RA := Lib.hid (RA.out.later hb2)
        have hW5 := hW4.trans (hb2.mono hW4.size)
        clear od CK
        go_wp2_with fail
        refine (qInts_true _ _ [] _ RA.out RB.out).mono ?_
        rintro e w' ⟨rfl, x, rfl⟩
        have hW6 := hW5.trans ((below_drewN (Below.refl _ _) x).mono hW5.size)
        go_wp2_with fail
        go_ret
        exact ⟨rfl, hB.trans (hW6.mono hB.size)⟩
      | some cc =>
        rw [hr] at CL CK
        simp only [Option.isSome_some, Option.getD_some] at CL CK
        have G1 := F3 cc hr
        obtain ⟨qc, hqc⟩ : ∃ x, x = cc.length := ⟨_, rfl⟩
        rw [← hqc, ← HQ.out] at G1
        have HQC := Lib.hid hqc
        have k1 : (q : Int) ≤ (qc : Int) := by omega
        have k2 : decide ((q : Int) ≤ (qc : Int)) = true := by simpa using k1
        clear F3 hr hqc G1
        replace CL := Lib.hid CL
        replace CK := Lib.hid CK
        go_wp2_with fail
        refine (CL.out _ (J1.out.later hW3)).mono ?_
        rintro e wb ⟨vb, rfl, ob, hb⟩
        obtain ⟨pb, db, rfl⟩ := ob.rd.len
        have RA := Lib.hid ob.rd
        rw [← HQC.out] at RA ⊢
        have hW4 := hW3.trans (hb.mono hW3.size)
        clear ob CL
        go_wp2_with fail
        refine (CK.out _ (J1.out.later hW4)).mono ?_
        rintro e wd ⟨vd, rfl, od, hb2⟩
        obtain ⟨pd, dd, rfl⟩ := od.rd.len
        have RB := Lib.hid od.rd
        rw [← HQC.out] at RB ⊢
        replace RA := Lib.hid (RA.out.later hb2)
        have hW5 := hW4.trans (hb2.mono hW4.size)
        clear od CK
        go_wp2_with fail
        refine (qInts_true _ _ cc _ RA.out RB.out).mono ?_
        rintro e w' ⟨rfl, x, rfl⟩
        have hW6 := hW5.trans ((below_drewN (Below.refl _ _) x).mono hW5.size)
        go_wp2_with fail
        go_ret
        exact ⟨rfl, hB.trans (hW6.mono hB.size)⟩
end Go.Proofs.Ytpmdjdlojbpcfaa
