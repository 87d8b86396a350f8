/- Chapter 6: AddLink of the model. Written by a generator of this claim's author. -/
import Derived.Test.YteickcpmicifgaaNeH
import Derived.Test.YteickcpmicifgaaBx
namespace Go.Proofs.Yteickcpmicifgaa
open Go.RowKit Go.Sort
set_option linter.unusedSimpArgs false
set_option linter.unusedVariables false

theorem ad_f0 {ts ls : List T3} {x : T3} (h : netB ts ls = false) : adC ts ls x = false ∧ adT ts ls x = [] ∧ adR ts ls x = [] := by
  have h1 : adC ts ls x = false := by unfold adC; rw [h]; rfl
  exact ⟨h1, ad_no h1⟩
theorem ad_f1 {ts ls : List T3} {x : T3} (h : netB ts (adL ls x) = false) : adC ts ls x = false ∧ adT ts ls x = [] ∧ adR ts ls x = [] := by
  have h1 : adC ts ls x = false := by unfold adC; rw [h]; simp
  exact ⟨h1, ad_no h1⟩
theorem ad_t {ts ls : List T3} {x : T3} (h : netB ts ls = true) (h' : netB ts (adL ls x) = true) : adC ts ls x = true ∧ adT ts ls x = ts ∧ adR ts ls x = adL ls x := by
  have h1 : adC ts ls x = true := by unfold adC; rw [h, h']; rfl
  exact ⟨h1, ad_yes h1⟩

set_option maxRecDepth 100000 in
set_option maxHeartbeats 8000000 in
theorem specAddLink_any (c0 c1 : Value) (ts ls : List T3) (x0 x1 x2 : Int) (w : World) (hr : RdN w c0 c1 ts ls) :
    Calls Try.prog 36 #[.agg #[c0, c1], .agg #[.int .i64 x0, .int .i64 x1, .int .i64 x2]] w fun e w' => ∃ v0 v1, e = .returned (.tuple #[.agg #[v0, v1], .bool (adC ts ls ⟨x0, x1, x2⟩)]) ∧ OwnN w' w.heap.size w'.heap.size v0 v1 (adT ts ls ⟨x0, x1, x2⟩) (adR ts ls ⟨x0, x1, x2⟩) ∧ Below w.heap.size w w' := by
  obtain ⟨a0, p0, rfl, hp0⟩ := hr.1.len
  obtain ⟨a1, p1, rfl, hp1⟩ := hr.2.len
  obtain ⟨n, hn⟩ : ∃ n, n = ts.length := ⟨_, rfl⟩
  obtain ⟨m, hm⟩ : ∃ m, m = ls.length := ⟨_, rfl⟩
  have hm0 : (ts.length : Int) ≤ 9223372036854775807 := by have := hr.1.max; unfold maxLen at this; omega
  have hm1 : (ls.length : Int) ≤ 9223372036854775807 := by have := hr.2.max; unfold maxLen at this; omega
  rw [← hn] at hr hp0 hm0
  rw [← hm] at hr hp1 hm1
  rw [← hn, ← hm]
  have HN := Lib.hid hn
  have HM := Lib.hid hm
  clear hn hm
  have N0 := ((NB.start hr 31).alloc (.cells #[.int .i64 x0, .int .i64 x1, .int .i64 x2] 53)).alloc (.cells #[.slice none 0 0, .slice none 0 0] 31)
  have X0 := (Box3.new (w.alloc (.cells #[.slice a0 n p0, .slice a1 m p1] 31)) (.int .i64 x0) (.int .i64 x1) (.int .i64 x2) 53).next ((Below.refl _ _).alloc (Nat.le_refl _) (.cells #[.slice none 0 0, .slice none 0 0] 31))
  have V0 := Var2.new ((w.alloc (.cells #[.slice a0 n p0, .slice a1 m p1] 31)).alloc (.cells #[.int .i64 x0, .int .i64 x1, .int .i64 x2] 53)) (.slice none 0 0) (.slice none 0 0) 31
  have hsz : (((w.alloc (.cells #[.slice a0 n p0, .slice a1 m p1] 31)).alloc (.cells #[.int .i64 x0, .int .i64 x1, .int .i64 x2] 53)).alloc (.cells #[.slice none 0 0, .slice none 0 0] 31)).heap.size = w.heap.size + 3 := by simp
  simp only [World.size_alloc] at X0 V0
  have HR := Lib.hid hr
  clear hr
  cases c0 : netB ts ls with
  | false =>
    have H0 := Lib.hid c0
    have HF := Lib.hid (ad_f0 (x := ⟨x0, x1, x2⟩) c0)
    clear c0
    have h0 := N0.b0
    have h1 := N0.b1
    have y0 := X0.c0
    have y1 := X0.c1
    have y2 := X0.c2
    have r0 := V0.c0
    have r1 := V0.c1
    have s0 := V0.f0
    have s1 := V0.f1
    go_enter Try.func36, Try.ntmps36
    go_wp2_with fail
    generalize ((w.alloc (.cells #[.slice a0 n p0, .slice a1 m p1] 31)).alloc (.cells #[.int .i64 x0, .int .i64 x1, .int .i64 x2] 53)).alloc (.cells #[.slice none 0 0, .slice none 0 0] 31) = W at *
    refine (neGood_b _ _ ts ls _ N0.rd H0.out).mono ?_
    rintro e w1 ⟨rfl, hb1⟩
    have N1 := N0.next hb1
    have X1 := X0.next hb1
    have V1 := V0.next hb1
    have hz1 : w.heap.size + 3 ≤ w1.heap.size := by have := hb1.size; omega
    clear h0 h1 y0 y1 y2 r0 r1 s0 s1
    have h0 := N1.b0
    have h1 := N1.b1
    have y0 := X1.c0
    have y1 := X1.c1
    have y2 := X1.c2
    have r0 := V1.c0
    have r1 := V1.c1
    have s0 := V1.f0
    have s1 := V1.f1
    go_wp2
    refine bodyPost_ret (v := .tuple #[.agg #[.slice none 0 0, .slice none 0 0], .bool false]) (by simp [results, Try.results36, go_sem, r0, r1, s0, s1, *]) rfl ⟨.slice none 0 0, .slice none 0 0, by rw [HF.out.1], by rw [HF.out.2.1, HF.out.2.2]; exact OwnN.nil _ _ _, ?_⟩
    exact (N1.below.setCell (p := ⟨w.heap.size + 2, 0, none⟩) (by show w.heap.size ≤ w.heap.size + 2; omega) _).setCell (p := ⟨w.heap.size + 2, 1, none⟩) (by show w.heap.size ≤ w.heap.size + 2; omega) _
  | true =>
    have H0 := Lib.hid c0
    have HOK := Lib.hid (netB_iff.1 c0)
    have hn16 : n ≤ 16 := by have := HOK.out.t16; rw [HN.out]; exact this
    have hm40 : m ≤ 40 := by have := HOK.out.l40; rw [HM.out]; exact this
    clear c0
    have h0 := N0.b0
    have h1 := N0.b1
    have y0 := X0.c0
    have y1 := X0.c1
    have y2 := X0.c2
    have r0 := V0.c0
    have r1 := V0.c1
    have s0 := V0.f0
    have s1 := V0.f1
    go_enter Try.func36, Try.ntmps36
    go_wp2_with fail
    generalize ((w.alloc (.cells #[.slice a0 n p0, .slice a1 m p1] 31)).alloc (.cells #[.int .i64 x0, .int .i64 x1, .int .i64 x2] 53)).alloc (.cells #[.slice none 0 0, .slice none 0 0] 31) = W at *
    refine (neGood_b _ _ ts ls _ N0.rd H0.out).mono ?_
    rintro e w1 ⟨rfl, hb1⟩
    have N1 := N0.next hb1
    have X1 := X0.next hb1
    have V1 := V0.next hb1
    have hz1 : w.heap.size + 3 ≤ w1.heap.size := by have := hb1.size; omega
    clear h0 h1 y0 y1 y2 r0 r1 s0 s1
    have h0 := N1.b0
    have h1 := N1.b1
    have y0 := X1.c0
    have y1 := X1.c1
    have y2 := X1.c2
    have r0 := V1.c0
    have r1 := V1.c1
    have s0 := V1.f0
    have s1 := V1.f1
    go_wp2_with fail
    refine (neOwn_any _ _ ts ls _ N1.rd (by rw [← HN.out]; omega) (by rw [← HM.out]; omega)).mono ?_
    rintro e w2 ⟨q0, q1, rfl, oN, hb2⟩
    obtain ⟨ad0, cd0, rfl, -⟩ := oN.1.1.rd.len
    obtain ⟨ad1, cd1, rfl, -⟩ := oN.2.1.rd.len
    have hz2 : w1.heap.size ≤ w2.heap.size := hb2.size
    have ho0 := oN.1.2
    have al := (Below.refl w2.heap.size w2).alloc (Nat.le_refl _) (.cells #[.slice ad0 ts.length cd0, .slice ad1 ls.length cd1] 31)
    have N2 := (N1.next hb2).next al
    have X2 := (X1.next hb2).next al
    have V2 := (V1.next hb2).next al
    have O2 := Var2.new w2 (.slice ad0 ts.length cd0) (.slice ad1 ls.length cd1) 31
    have o0 := oN.1.1.later al
    have HO0 : Hid (∀ k, (Value.slice ad0 ts.length cd0).ownBlock = some k → k < w2.heap.size) := Lib.hid ho0
    have hzA : (w2.alloc (.cells #[.slice ad0 ts.length cd0, .slice ad1 ls.length cd1] 31)).heap.size = w2.heap.size + 1 := by simp
    clear h0 h1 y0 y1 y2 r0 r1 s0 s1 oN al ho0
    go_wp2
    generalize w2.alloc (.cells #[.slice ad0 ts.length cd0, .slice ad1 ls.length cd1] 31) = W2 at *
    generalize hbo : w2.heap.size = bo at *
    have hbo3 : w.heap.size + 3 ≤ bo := by omega
    have hboW : bo < W2.heap.size := by omega
    have hboW1 : w1.heap.size ≤ bo := by omega
    clear hzA hbo hz2
    go_loopw [7] (fun c wr => ∃ k : Nat, k ≤ m ∧ c = .int .i64 k ∧ Below W2.heap.size W2 wr ∧ Hid (∀ j, j < k → befB (rAt ls j) ⟨x0, x1, x2⟩ = true)) (fun c wr => m - (intOf c).toNat)
    case atStart => exact ⟨0, Nat.zero_le _, rfl, Below.refl _ _, Lib.hid fun j hj => by omega⟩
    case round =>
      obtain ⟨k, hk, rfl, hbl, hall⟩ := hrel
      have NK := N2.next hbl
      have XK := X2.next hbl
      have K0 := cell_regrown NK.b0
      have K1 := cell_regrown NK.b1
      have K2 := cell_regrown XK.c0
      have K3 := cell_regrown XK.c1
      have K4 := cell_regrown XK.c2
      by_cases hlt : k < m
      · obtain ⟨g, off, rfl, hg, q0, q1, q2⟩ := NK.rd.2.at3 HM.out k hlt
        have K5 := cell_regrown q0
        have K6 := cell_regrown q1
        have K7 := cell_regrown q2
        clear q0 q1 q2
        cases hbf : befB ⟨(rAt ls k).x0, (rAt ls k).x1, (rAt ls k).x2⟩ ⟨x0, x1, x2⟩ with
        | true =>
          have C0 := neBefore_g _ _ _ _ _ _ wr hbf
          have hall' : Hid (∀ j, j < k + 1 → befB (rAt ls j) ⟨x0, x1, x2⟩ = true) := Lib.hid fun j hj => by
            by_cases e : j = k
            · rw [e]; exact hbf
            · exact hall.out j (by omega)
          clear hbf
          go_wp2
          refine wp_region_quiet_below (by kernel_rfl) (by kernel_rfl) ?_
          repeat (go_big_quiet_step (first | (with_reducible exact C0 _ _)))
          refine wpQuiet_nil ?_
          intro _ hw'
          obtain ⟨⟨dq, osq⟩, hw''⟩ := hw'
          subst hw''
          have hb3 := hbl.trans ((below_regrown wr dq osq).mono hbl.size)
          clear C0 K0 K1 K2 K3 K4 K5 K6 K7
          go_wp2
          go_roundw
          case rel => exact ⟨k + 1, by omega, by go_num, hb3, hall'⟩
          case measure => simp [intOf]; omega
        | false =>
          have C0 := neBefore_g _ _ _ _ _ _ wr hbf
          have HPL : Hid (plK ls ⟨x0, x1, x2⟩ = k) := Lib.hid (plK_eq (by rw [← HM.out]; omega) hall.out (fun _ => hbf))
          clear hbf
          go_wp2
          refine wp_region_quiet_below (by kernel_rfl) (by kernel_rfl) ?_
          repeat (go_big_quiet_step (first | (with_reducible exact C0 _ _)))
          refine wpQuiet_nil ?_
          intro _ hw'
          obtain ⟨⟨dq, osq⟩, hw''⟩ := hw'
          subst hw''
          have hb3 := hbl.trans ((below_regrown wr dq osq).mono hbl.size)
          clear C0 K0 K1 K2 K3 K4 K5 K6 K7
          have NR := N2.next hb3
          have XR := X2.next hb3
          have VR := V2.next hb3
          have OR := O2.next hb3
          have oR := o0.later hb3
          have hzR : bo < (grow (redrawn wr dq) osq).heap.size := OR.lt
          have HAD : Hid (adL ls ⟨x0, x1, x2⟩ = ls.take k ++ [⟨x0, x1, x2⟩] ++ ls.drop k) := Lib.hid (by unfold adL; rw [HPL.out])
          clear hbl NK XK hall HPL
          go_wp2
          generalize grow (redrawn wr dq) osq = WR at *
          obtain ⟨a5, hs1, hs2, hs3⟩ := sliceHiLink NR.rd.2 HM.out hp1 k (by omega)
          obtain ⟨a6, c6, ht1, ht2, ht3⟩ := sliceLoLink NR.rd.2 HM.out hp1 k (by omega)
          have hk00 : (0 : Int) ≤ (k : Int) := by omega
          have HL1 : Hid (([] : List T3).length + (ls.take k).length ≤ 4194304) := Lib.hid (by have := HM.out; simp; omega)
          have HL2 : Hid ((ls.take k).length + ([⟨x0, x1, x2⟩] : List T3).length ≤ 4194304) := Lib.hid (by have := HM.out; simp; omega)
          have HL3 : Hid ((ls.take k ++ ([⟨x0, x1, x2⟩] : List T3)).length + (ls.drop k).length ≤ 4194304) := Lib.hid (by have := HM.out; simp; omega)
          refine wp_region_held_drew (S := (fun w' => w'.cell? ⟨w.heap.size, 0, none⟩ = some (.slice a0 n p0) ∧ w'.cell? ⟨w.heap.size, 1, none⟩ = some (.slice (some ⟨g, off, none⟩) m p1) ∧ w'.cell? ⟨w.heap.size + 1, 0, none⟩ = some (.int .i64 x0) ∧ w'.cell? ⟨w.heap.size + 1, 1, none⟩ = some (.int .i64 x1) ∧ w'.cell? ⟨w.heap.size + 1, 2, none⟩ = some (.int .i64 x2))) (by kernel_rfl) ?_ (fun hHeld => ?_)
          · exact ⟨NR.drew.b0, NR.drew.b1, (XR.next (Below.refl _ _).drew).c0, (XR.next (Below.refl _ _).drew).c1, (XR.next (Below.refl _ _).drew).c2⟩
          refine wpAnyH_name ?_
          intro wS hwS
          rw [← hwS] at hHeld
          have hbS := below_named hwS
          clear hwS
          have hB0 := Below.refl wS.heap.size wS
          have NS := NR.next hbS
          have XS := XR.next hbS
          have VS := VR.next hbS
          have OS := OR.next hbS
          have oS := oR.later hbS
          have HT := Lib.hid (hs3.later hbS)
          have HD := Lib.hid (ht3.later hbS)
          have hzS : bo < wS.heap.size := OS.lt
          have KB : Hid (∀ y : World, Below wS.heap.size wS y → y.cell? ⟨w.heap.size, 0, none⟩ = some (.slice a0 n p0) ∧ y.cell? ⟨w.heap.size, 1, none⟩ = some (.slice (some ⟨g, off, none⟩) m p1) ∧ y.cell? ⟨w.heap.size + 1, 0, none⟩ = some (.int .i64 x0) ∧ y.cell? ⟨w.heap.size + 1, 1, none⟩ = some (.int .i64 x1) ∧ y.cell? ⟨w.heap.size + 1, 2, none⟩ = some (.int .i64 x2)) := Lib.hid fun y h => ⟨(NS.next h).b0, (NS.next h).b1, (XS.next h).c0, (XS.next h).c1, (XS.next h).c2⟩
          clear NR XR VR OR oR hs3 ht3
          refine wpAnyH_take (i := 1) (oi := { dst := some 31, op := Go.Op.fieldAddr 31 (Go.Operand.tmp 2) 1, type := 0, pos := "l6_tower.go:152", after := #[], guard := none }) (v := ?_) rfl (by kernel_rfl) (by kernel_rfl) (by kernel_rfl) (fun _ _ _ h => h) (Or.inl ⟨by rfl, ?_⟩) (by assumption) ?_
          rotate_left
          · intro w hSw; (try dsimp only at hSw); go_simp; try with_reducible rfl
          try simp only [Act.put, List.setIfInBounds_toArray, List.set_cons_zero, List.set_cons_succ]
          refine wpAnyH_take (i := 2) (oi := { dst := some 32, op := Go.Op.load 29 (Go.Operand.tmp 31), type := 29, pos := "l6_tower.go:152", after := #[{ on := 1, ground := Go.Ground.data }], guard := none }) (v := ?_) rfl (by kernel_rfl) (by kernel_rfl) (by kernel_rfl) (fun _ _ _ h => h) (Or.inl ⟨by rfl, ?_⟩) (by assumption) ?_
          rotate_left
          · intro w hSw; (try dsimp only at hSw); go_simp; try with_reducible rfl
          try simp only [Act.put, List.setIfInBounds_toArray, List.set_cons_zero, List.set_cons_succ]
          refine wpAnyH_take (i := 3) (oi := { dst := some 33, op := Go.Op.move (Go.Operand.tmp 7), type := 3, pos := "l6_tower.go:152", after := #[], guard := none }) (v := ?_) rfl (by kernel_rfl) (by kernel_rfl) (by kernel_rfl) (fun _ _ _ h => h) (Or.inl ⟨by rfl, ?_⟩) (by assumption) ?_
          rotate_left
          · intro w hSw; (try dsimp only at hSw); go_simp; try with_reducible rfl
          try simp only [Act.put, List.setIfInBounds_toArray, List.set_cons_zero, List.set_cons_succ]
          refine wpAnyH_take (i := 4) (oi := { dst := some 34, op := Go.Op.slice 29 (Go.Operand.tmp 32) none (some (Go.Operand.tmp 33)) none, type := 29, pos := "l6_tower.go:152", after := #[{ on := 2, ground := Go.Ground.data }, { on := 3, ground := Go.Ground.data }], guard := none }) (v := ?_) rfl (by kernel_rfl) (by kernel_rfl) (by kernel_rfl) (fun _ _ _ h => h) (Or.inl ⟨by rfl, ?_⟩) (by assumption) ?_
          rotate_left
          · intro w hSw; (try dsimp only at hSw); go_simp; try with_reducible rfl
          try simp only [Act.put, List.setIfInBounds_toArray, List.set_cons_zero, List.set_cons_succ]
          refine wpAnyH_take (i := 6) (oi := { dst := some 36, op := Go.Op.load 53 (Go.Operand.tmp 3), type := 53, pos := "l6_tower.go:152", after := #[], guard := none }) (v := ?_) rfl (by kernel_rfl) (by kernel_rfl) (by kernel_rfl) (fun _ _ _ h => h) (Or.inl ⟨by rfl, ?_⟩) (by assumption) ?_
          rotate_left
          · intro w hSw; (try dsimp only at hSw); go_simp; try with_reducible rfl
          try simp only [Act.put, List.setIfInBounds_toArray, List.set_cons_zero, List.set_cons_succ]
          refine wpAnyH_take (i := 9) (oi := { dst := some 39, op := Go.Op.fieldAddr 31 (Go.Operand.tmp 2) 1, type := 0, pos := "l6_tower.go:152", after := #[], guard := none }) (v := ?_) rfl (by kernel_rfl) (by kernel_rfl) (by kernel_rfl) (fun _ _ _ h => h) (Or.inl ⟨by rfl, ?_⟩) (by assumption) ?_
          rotate_left
          · intro w hSw; (try dsimp only at hSw); go_simp; try with_reducible rfl
          try simp only [Act.put, List.setIfInBounds_toArray, List.set_cons_zero, List.set_cons_succ]
          refine wpAnyH_take (i := 10) (oi := { dst := some 40, op := Go.Op.load 29 (Go.Operand.tmp 39), type := 29, pos := "l6_tower.go:152", after := #[{ on := 9, ground := Go.Ground.data }], guard := none }) (v := ?_) rfl (by kernel_rfl) (by kernel_rfl) (by kernel_rfl) (fun _ _ _ h => h) (Or.inl ⟨by rfl, ?_⟩) (by assumption) ?_
          rotate_left
          · intro w hSw; (try dsimp only at hSw); go_simp; try with_reducible rfl
          try simp only [Act.put, List.setIfInBounds_toArray, List.set_cons_zero, List.set_cons_succ]
          refine wpAnyH_take (i := 11) (oi := { dst := some 41, op := Go.Op.move (Go.Operand.tmp 7), type := 3, pos := "l6_tower.go:152", after := #[], guard := none }) (v := ?_) rfl (by kernel_rfl) (by kernel_rfl) (by kernel_rfl) (fun _ _ _ h => h) (Or.inl ⟨by rfl, ?_⟩) (by assumption) ?_
          rotate_left
          · intro w hSw; (try dsimp only at hSw); go_simp; try with_reducible rfl
          try simp only [Act.put, List.setIfInBounds_toArray, List.set_cons_zero, List.set_cons_succ]
          refine wpAnyH_take (i := 12) (oi := { dst := some 42, op := Go.Op.slice 29 (Go.Operand.tmp 40) (some (Go.Operand.tmp 41)) none none, type := 29, pos := "l6_tower.go:152", after := #[{ on := 10, ground := Go.Ground.data }, { on := 11, ground := Go.Ground.data }], guard := none }) (v := ?_) rfl (by kernel_rfl) (by kernel_rfl) (by kernel_rfl) (fun _ _ _ h => h) (Or.inl ⟨by rfl, ?_⟩) (by assumption) ?_
          rotate_left
          · intro w hSw; (try dsimp only at hSw); go_simp; try with_reducible rfl
          try simp only [Act.put, List.setIfInBounds_toArray, List.set_cons_zero, List.set_cons_succ]
          refine wpAnyH_ready (rs := [0, 7]) (by kernel_rfl) (by simp) ?_
          refine AllReadyH.cons (o := { dst := some 30, op := Go.Op.buildSlice 29 0 #[], type := 29, pos := "l6_tower.go:152", after := #[], guard := none }) rfl (fun K hK => ?_) ?_
          · go_simp
            refine hK.out _ _ ?_ (fun hHeld => ?_)
            · exact KB.out _ (hB0.alloc hB0.size _)
            clear hK K
            try simp only [Act.put, List.setIfInBounds_toArray, List.set_cons_zero, List.set_cons_succ]
            refine wpAnyH_name ?_
            intro w1 hw1
            rw [← hw1] at hHeld
            have hb1 := below_alloc hw1
            have z1 := lt_named hw1
            have e1 : OwnR 53 c3 3 w1 wS.heap.size (.slice (some ⟨wS.heap.size, 0, none⟩) 0 0) ([] : List T3) := by rw [hw1]; exact OwnR.emptyLink _ _ hB0.size
            clear hw1
            have hB2 := hB0.trans (hb1.mono hB0.size)
            refine wpAnyH_ready (rs := [5, 7]) (by kernel_rfl) (by simp) ?_
            refine AllReadyH.cons (o := { dst := some 35, op := Go.Op.call { callee := Go.Callee.builtin Go.Builtin.append, args := #[Go.Operand.tmp 30, Go.Operand.tmp 34], argTypes := #[29, 29] }, type := 29, pos := "l6_tower.go:152", after := #[{ on := 0, ground := Go.Ground.data }, { on := 4, ground := Go.Ground.data }], guard := none }) rfl (fun K hK => ?_) ?_
            · refine step_append_LinkS (by rfl) _ _ (by rfl) wS.heap.size _ _ [] (ls.take k) (by rfl) (by rfl) e1 (HT.out.later hB2) HL1.out (hB2.size) ?_
              intro v3 w3 o1 hg3 hat3
              have hBn3 := hB2.grown hg3 hB2.size (fun k hk => (e1.lt k hk).1)
              rw [List.nil_append] at o1
              try go_simp
              refine hK.out _ _ ?_ (fun hHeld => ?_)
              · exact KB.out _ hBn3
              clear hK K
              try simp only [Act.put, List.setIfInBounds_toArray, List.set_cons_zero, List.set_cons_succ]
              refine wpAnyH_ready (rs := [7]) (by kernel_rfl) (by simp) ?_
              refine AllReadyH.cons (o := { dst := some 37, op := Go.Op.buildSlice 29 1 #[(0, Go.Operand.tmp 36)], type := 29, pos := "l6_tower.go:152", after := #[{ on := 6, ground := Go.Ground.data }], guard := none }) rfl (fun K hK => ?_) AllReadyH.nil
              go_simp
              refine hK.out _ _ ?_ (fun hHeld => ?_)
              · exact KB.out _ (hBn3.alloc hBn3.size _)
              clear hK K
              try simp only [Act.put, List.setIfInBounds_toArray, List.set_cons_zero, List.set_cons_succ]
              refine wpAnyH_name ?_
              intro w4 hw4
              rw [← hw4] at hHeld
              have hb4 := below_alloc hw4
              have z4 := lt_named hw4
              have b0 : w4.cell? ⟨w3.heap.size, 0, none⟩ = some (.int .i64 x0) := by rw [hw4]; simp [go_sem]
              have b1 : w4.cell? ⟨w3.heap.size, 1, none⟩ = some (.int .i64 x1) := by rw [hw4]; simp [go_sem]
              have b2 : w4.cell? ⟨w3.heap.size, 2, none⟩ = some (.int .i64 x2) := by rw [hw4]; simp [go_sem]
              clear hw4
              have o1 := o1.later hb4
              have hB5 := hBn3.trans (hb4.mono hBn3.size)
              refine wpAnyH_ready (rs := [8]) (by kernel_rfl) (by simp) ?_
              refine AllReadyH.cons (o := { dst := some 38, op := Go.Op.call { callee := Go.Callee.builtin Go.Builtin.append, args := #[Go.Operand.tmp 35, Go.Operand.tmp 37], argTypes := #[29, 29] }, type := 29, pos := "l6_tower.go:152", after := #[{ on := 5, ground := Go.Ground.data }, { on := 7, ground := Go.Ground.data }, { on := 5, ground := Go.Ground.chain }], guard := none }) rfl (fun K hK => ?_) AllReadyH.nil
              refine step_append_LinkS (by rfl) _ _ (by rfl) wS.heap.size _ _ (ls.take k) [⟨x0, x1, x2⟩] (by rfl) (by rfl) o1 (RdR.one3 ⟨x0, x1, x2⟩ (World.block_lt_of_cell? _ _ b0) (Nat.le_refl _) (by unfold maxLen; decide) b0 b1 b2) HL2.out (hB5.size) ?_
              intro v6 w6 o2 hg6 hat6
              have hBn6 := hB5.grown hg6 hB5.size (fun k hk => (o1.lt k hk).1)
              try go_simp
              refine hK.out _ _ ?_ (fun hHeld => ?_)
              · exact KB.out _ hBn6
              clear hK K
              try simp only [Act.put, List.setIfInBounds_toArray, List.set_cons_zero, List.set_cons_succ]
              refine wpAnyH_ready (rs := [13]) (by kernel_rfl) (by simp) ?_
              refine AllReadyH.cons (o := { dst := some 43, op := Go.Op.call { callee := Go.Callee.builtin Go.Builtin.append, args := #[Go.Operand.tmp 38, Go.Operand.tmp 42], argTypes := #[29, 29] }, type := 29, pos := "l6_tower.go:152", after := #[{ on := 8, ground := Go.Ground.data }, { on := 12, ground := Go.Ground.data }, { on := 8, ground := Go.Ground.chain }], guard := none }) rfl (fun K hK => ?_) AllReadyH.nil
              refine step_append_LinkS (by rfl) _ _ (by rfl) wS.heap.size _ _ (ls.take k ++ [⟨x0, x1, x2⟩]) (ls.drop k) (by rfl) (by rfl) o2 (HD.out.later hBn6) HL3.out (hBn6.size) ?_
              intro v7 w7 o3 hg7 hat7
              have hBn7 := hBn6.grown hg7 hBn6.size (fun k hk => (o2.lt k hk).1)
              rw [← HAD.out] at o3
              obtain ⟨ad3, cd3, rfl, -⟩ := o3.rd.len
              try go_simp
              refine hK.out _ _ ?_ (fun hHeld => ?_)
              · exact KB.out _ hBn7
              clear hK K
              try simp only [Act.put, List.setIfInBounds_toArray, List.set_cons_zero, List.set_cons_succ]
              refine wpAnyH_take (i := 14) (oi := { dst := some 44, op := Go.Op.fieldAddr 31 (Go.Operand.tmp 6) 1, type := 0, pos := "l6_tower.go:152", after := #[{ on := 0, ground := Go.Ground.phase }, { on := 1, ground := Go.Ground.phase }, { on := 2, ground := Go.Ground.phase }, { on := 3, ground := Go.Ground.phase }, { on := 4, ground := Go.Ground.phase }, { on := 5, ground := Go.Ground.phase }, { on := 6, ground := Go.Ground.phase }, { on := 7, ground := Go.Ground.phase }, { on := 8, ground := Go.Ground.phase }, { on := 9, ground := Go.Ground.phase }, { on := 10, ground := Go.Ground.phase }, { on := 11, ground := Go.Ground.phase }, { on := 12, ground := Go.Ground.phase }, { on := 13, ground := Go.Ground.phase }], guard := none }) (v := ?_) rfl (by kernel_rfl) (by kernel_rfl) (by kernel_rfl) (fun _ _ _ h => h) (Or.inl ⟨by rfl, ?_⟩) (by assumption) ?_
              rotate_left
              · intro w hSw; (try dsimp only at hSw); go_simp; try with_reducible rfl
              try simp only [Act.put, List.setIfInBounds_toArray, List.set_cons_zero, List.set_cons_succ]
              refine wpAnyH_ready (rs := [15]) (by kernel_rfl) (by simp) ?_
              refine AllReadyH.cons (o := { dst := none, op := Go.Op.store 29 (Go.Operand.tmp 44) (Go.Operand.tmp 43), type := 0, pos := "l6_tower.go:152", after := #[{ on := 14, ground := Go.Ground.data }, { on := 13, ground := Go.Ground.data }, { on := 13, ground := Go.Ground.chain }, { on := 0, ground := Go.Ground.phase }, { on := 1, ground := Go.Ground.phase }, { on := 2, ground := Go.Ground.phase }, { on := 3, ground := Go.Ground.phase }, { on := 4, ground := Go.Ground.phase }, { on := 5, ground := Go.Ground.phase }, { on := 6, ground := Go.Ground.phase }, { on := 7, ground := Go.Ground.phase }, { on := 8, ground := Go.Ground.phase }, { on := 9, ground := Go.Ground.phase }, { on := 10, ground := Go.Ground.phase }, { on := 11, ground := Go.Ground.phase }, { on := 12, ground := Go.Ground.phase }, { on := 13, ground := Go.Ground.phase }], guard := none }) rfl (fun K hK => ?_) AllReadyH.nil
              have OL := OS.next hBn7
              have j1 := OL.c1
              have j3 := OL.f1
              go_simp
              refine hK.out _ _ ?_ (fun hHeld => ?_)
              · exact ⟨((NS.next hBn7).set HR.out (by omega)).b0, ((NS.next hBn7).set HR.out (by omega)).b1, ((XS.next hBn7).set (by omega)).c0, ((XS.next hBn7).set (by omega)).c1, ((XS.next hBn7).set (by omega)).c2⟩
              clear hK K
              try simp only [Act.put, List.setIfInBounds_toArray, List.set_cons_zero, List.set_cons_succ]
              refine wpAnyH_done (by kernel_rfl) ?_ _
              have NL := (NS.next hBn7).set (o := 1) (u := .slice ad3 (adL ls ⟨x0, x1, x2⟩).length cd3) HR.out (show w.heap.size < bo by omega)
              have VL := (VS.next hBn7).set (o := 1) (u := .slice ad3 (adL ls ⟨x0, x1, x2⟩).length cd3) (show bo ≠ w.heap.size + 2 by omega) ⟨_, OL.c1⟩
              have OM := OL.put1 (u := .slice ad3 (adL ls ⟨x0, x1, x2⟩).length cd3)
              have p0 := (oS.later hBn7).setFar (b := bo) (o := 1) (x := .slice ad3 (adL ls ⟨x0, x1, x2⟩).length cd3) (fun e => by have := HO0.out _ e; omega)
              have p3 := o3.setFar (b := bo) (o := 1) (x := .slice ad3 (adL ls ⟨x0, x1, x2⟩).length cd3) (fun e => by have := (o3.lt _ e).1; omega)
              clear j1 j3 OL hHeld NS XS VS OS oS HT HD KB
              generalize w7.setCell ⟨bo, 1, none⟩ (.slice ad3 (adL ls ⟨x0, x1, x2⟩).length cd3) = WL at *
              have j0 := OM.c0
              have j1 := OM.c1
              cases cg : netB ts (adL ls ⟨x0, x1, x2⟩) with
              | false =>
                have HG := Lib.hid cg
                have HF := Lib.hid (ad_f1 cg)
                clear cg
                go_wp2_with fail
                refine (neGood_b _ _ ts _ _ ⟨p0.rd, p3.rd⟩ HG.out).mono ?_
                rintro e wE ⟨rfl, hbE⟩
                have VE := VL.next hbE
                have NE := NL.next hbE
                have r0 := VE.c0
                have r1 := VE.c1
                have s0 := VE.f0
                have s1 := VE.f1
                have sz := VE.lt
                go_wp2
                refine bodyPost_ret (v := .tuple #[.agg #[.slice none 0 0, .slice none 0 0], .bool false]) (by simp [results, Try.results36, go_sem, r0, r1, s0, s1, *]) rfl ⟨.slice none 0 0, .slice none 0 0, by rw [HF.out.1], by rw [HF.out.2.1, HF.out.2.2]; exact OwnN.nil _ _ _, ?_⟩
                exact (NE.below.setCell (p := ⟨w.heap.size + 2, 0, none⟩) (by show w.heap.size ≤ w.heap.size + 2; omega) _).setCell (p := ⟨w.heap.size + 2, 1, none⟩) (by show w.heap.size ≤ w.heap.size + 2; omega) _
              | true =>
                have HG := Lib.hid cg
                have HF := Lib.hid (ad_t H0.out cg)
                clear cg
                go_wp2_with fail
                refine (neGood_b _ _ ts _ _ ⟨p0.rd, p3.rd⟩ HG.out).mono ?_
                rintro e wE ⟨rfl, hbE⟩
                have VE := VL.next hbE
                have NE := NL.next hbE
                have OE := OM.next hbE
                have pE := p0.later hbE
                have pF := p3.later hbE
                have r0 := VE.c0
                have r1 := VE.c1
                have s0 := VE.f0
                have s1 := VE.f1
                have sz := VE.lt
                have j0 := OE.c0
                have j1 := OE.c1
                go_wp2
                refine bodyPost_ret (v := .tuple #[.agg #[.slice ad0 ts.length cd0, .slice ad3 (adL ls ⟨x0, x1, x2⟩).length cd3], .bool true]) (by simp [results, Try.results36, go_sem, r0, r1, s0, s1, j0, j1, sz]) rfl ⟨_, _, by rw [HF.out.1], ?_, ?_⟩
                · rw [HF.out.2.1, HF.out.2.2]
                  have q0 := ((pE.setFar (b := w.heap.size + 2) (o := 0) (x := .slice ad0 ts.length cd0) (fun e => by have := (pE.lt _ e).1; omega)).setFar (b := w.heap.size + 2) (o := 1) (x := .slice ad3 (adL ls ⟨x0, x1, x2⟩).length cd3) (fun e => by have := (pE.lt _ e).1; omega)).base (B' := w.heap.size) (by omega)
                  have q1 := ((pF.setFar (b := w.heap.size + 2) (o := 0) (x := .slice ad0 ts.length cd0) (fun e => by have := (pF.lt _ e).1; omega)).setFar (b := w.heap.size + 2) (o := 1) (x := .slice ad3 (adL ls ⟨x0, x1, x2⟩).length cd3) (fun e => by have := (pF.lt _ e).1; omega)).base (B' := w.heap.size) (by omega)
                  exact ⟨⟨q0, fun k hk => (q0.lt k hk).2⟩, ⟨q1, fun k hk => (q1.lt k hk).2⟩⟩
                · exact (NE.below.setCell (p := ⟨w.heap.size + 2, 0, none⟩) (by show w.heap.size ≤ w.heap.size + 2; omega) _).setCell (p := ⟨w.heap.size + 2, 1, none⟩) (by show w.heap.size ≤ w.heap.size + 2; omega) _
            refine AllReadyH.cons (o := { dst := some 37, op := Go.Op.buildSlice 29 1 #[(0, Go.Operand.tmp 36)], type := 29, pos := "l6_tower.go:152", after := #[{ on := 6, ground := Go.Ground.data }], guard := none }) rfl (fun K hK => ?_) AllReadyH.nil
            go_simp
            refine hK.out _ _ ?_ (fun hHeld => ?_)
            · exact KB.out _ (hB2.alloc hB2.size _)
            clear hK K
            try simp only [Act.put, List.setIfInBounds_toArray, List.set_cons_zero, List.set_cons_succ]
            refine wpAnyH_name ?_
            intro w8 hw8
            rw [← hw8] at hHeld
            have hb8 := below_alloc hw8
            have z8 := lt_named hw8
            have b0 : w8.cell? ⟨w1.heap.size, 0, none⟩ = some (.int .i64 x0) := by rw [hw8]; simp [go_sem]
            have b1 : w8.cell? ⟨w1.heap.size, 1, none⟩ = some (.int .i64 x1) := by rw [hw8]; simp [go_sem]
            have b2 : w8.cell? ⟨w1.heap.size, 2, none⟩ = some (.int .i64 x2) := by rw [hw8]; simp [go_sem]
            clear hw8
            have e1 := e1.later hb8
            have hB9 := hB2.trans (hb8.mono hB2.size)
            refine wpAnyH_ready (rs := [5]) (by kernel_rfl) (by simp) ?_
            refine AllReadyH.cons (o := { dst := some 35, op := Go.Op.call { callee := Go.Callee.builtin Go.Builtin.append, args := #[Go.Operand.tmp 30, Go.Operand.tmp 34], argTypes := #[29, 29] }, type := 29, pos := "l6_tower.go:152", after := #[{ on := 0, ground := Go.Ground.data }, { on := 4, ground := Go.Ground.data }], guard := none }) rfl (fun K hK => ?_) AllReadyH.nil
            refine step_append_LinkS (by rfl) _ _ (by rfl) wS.heap.size _ _ [] (ls.take k) (by rfl) (by rfl) e1 (HT.out.later hB9) HL1.out (hB9.size) ?_
            intro v10 w10 o1 hg10 hat10
            have hBn10 := hB9.grown hg10 hB9.size (fun k hk => (e1.lt k hk).1)
            rw [List.nil_append] at o1
            have b0 := hg10.cell b0 (by simp [Value.ownBlock]; omega)
            have b1 := hg10.cell b1 (by simp [Value.ownBlock]; omega)
            have b2 := hg10.cell b2 (by simp [Value.ownBlock]; omega)
            try go_simp
            refine hK.out _ _ ?_ (fun hHeld => ?_)
            · exact KB.out _ hBn10
            clear hK K
            try simp only [Act.put, List.setIfInBounds_toArray, List.set_cons_zero, List.set_cons_succ]
            refine wpAnyH_ready (rs := [8]) (by kernel_rfl) (by simp) ?_
            refine AllReadyH.cons (o := { dst := some 38, op := Go.Op.call { callee := Go.Callee.builtin Go.Builtin.append, args := #[Go.Operand.tmp 35, Go.Operand.tmp 37], argTypes := #[29, 29] }, type := 29, pos := "l6_tower.go:152", after := #[{ on := 5, ground := Go.Ground.data }, { on := 7, ground := Go.Ground.data }, { on := 5, ground := Go.Ground.chain }], guard := none }) rfl (fun K hK => ?_) AllReadyH.nil
            refine step_append_LinkS (by rfl) _ _ (by rfl) wS.heap.size _ _ (ls.take k) [⟨x0, x1, x2⟩] (by rfl) (by rfl) o1 (RdR.one3 ⟨x0, x1, x2⟩ (World.block_lt_of_cell? _ _ b0) (Nat.le_refl _) (by unfold maxLen; decide) b0 b1 b2) HL2.out (hBn10.size) ?_
            intro v11 w11 o2 hg11 hat11
            have hBn11 := hBn10.grown hg11 hBn10.size (fun k hk => (o1.lt k hk).1)
            try go_simp
            refine hK.out _ _ ?_ (fun hHeld => ?_)
            · exact KB.out _ hBn11
            clear hK K
            try simp only [Act.put, List.setIfInBounds_toArray, List.set_cons_zero, List.set_cons_succ]
            refine wpAnyH_ready (rs := [13]) (by kernel_rfl) (by simp) ?_
            refine AllReadyH.cons (o := { dst := some 43, op := Go.Op.call { callee := Go.Callee.builtin Go.Builtin.append, args := #[Go.Operand.tmp 38, Go.Operand.tmp 42], argTypes := #[29, 29] }, type := 29, pos := "l6_tower.go:152", after := #[{ on := 8, ground := Go.Ground.data }, { on := 12, ground := Go.Ground.data }, { on := 8, ground := Go.Ground.chain }], guard := none }) rfl (fun K hK => ?_) AllReadyH.nil
            refine step_append_LinkS (by rfl) _ _ (by rfl) wS.heap.size _ _ (ls.take k ++ [⟨x0, x1, x2⟩]) (ls.drop k) (by rfl) (by rfl) o2 (HD.out.later hBn11) HL3.out (hBn11.size) ?_
            intro v12 w12 o3 hg12 hat12
            have hBn12 := hBn11.grown hg12 hBn11.size (fun k hk => (o2.lt k hk).1)
            rw [← HAD.out] at o3
            obtain ⟨ad3, cd3, rfl, -⟩ := o3.rd.len
            try go_simp
            refine hK.out _ _ ?_ (fun hHeld => ?_)
            · exact KB.out _ hBn12
            clear hK K
            try simp only [Act.put, List.setIfInBounds_toArray, List.set_cons_zero, List.set_cons_succ]
            refine wpAnyH_take (i := 14) (oi := { dst := some 44, op := Go.Op.fieldAddr 31 (Go.Operand.tmp 6) 1, type := 0, pos := "l6_tower.go:152", after := #[{ on := 0, ground := Go.Ground.phase }, { on := 1, ground := Go.Ground.phase }, { on := 2, ground := Go.Ground.phase }, { on := 3, ground := Go.Ground.phase }, { on := 4, ground := Go.Ground.phase }, { on := 5, ground := Go.Ground.phase }, { on := 6, ground := Go.Ground.phase }, { on := 7, ground := Go.Ground.phase }, { on := 8, ground := Go.Ground.phase }, { on := 9, ground := Go.Ground.phase }, { on := 10, ground := Go.Ground.phase }, { on := 11, ground := Go.Ground.phase }, { on := 12, ground := Go.Ground.phase }, { on := 13, ground := Go.Ground.phase }], guard := none }) (v := ?_) rfl (by kernel_rfl) (by kernel_rfl) (by kernel_rfl) (fun _ _ _ h => h) (Or.inl ⟨by rfl, ?_⟩) (by assumption) ?_
            rotate_left
            · intro w hSw; (try dsimp only at hSw); go_simp; try with_reducible rfl
            try simp only [Act.put, List.setIfInBounds_toArray, List.set_cons_zero, List.set_cons_succ]
            refine wpAnyH_ready (rs := [15]) (by kernel_rfl) (by simp) ?_
            refine AllReadyH.cons (o := { dst := none, op := Go.Op.store 29 (Go.Operand.tmp 44) (Go.Operand.tmp 43), type := 0, pos := "l6_tower.go:152", after := #[{ on := 14, ground := Go.Ground.data }, { on := 13, ground := Go.Ground.data }, { on := 13, ground := Go.Ground.chain }, { on := 0, ground := Go.Ground.phase }, { on := 1, ground := Go.Ground.phase }, { on := 2, ground := Go.Ground.phase }, { on := 3, ground := Go.Ground.phase }, { on := 4, ground := Go.Ground.phase }, { on := 5, ground := Go.Ground.phase }, { on := 6, ground := Go.Ground.phase }, { on := 7, ground := Go.Ground.phase }, { on := 8, ground := Go.Ground.phase }, { on := 9, ground := Go.Ground.phase }, { on := 10, ground := Go.Ground.phase }, { on := 11, ground := Go.Ground.phase }, { on := 12, ground := Go.Ground.phase }, { on := 13, ground := Go.Ground.phase }], guard := none }) rfl (fun K hK => ?_) AllReadyH.nil
            have OL := OS.next hBn12
            have j1 := OL.c1
            have j3 := OL.f1
            go_simp
            refine hK.out _ _ ?_ (fun hHeld => ?_)
            · exact ⟨((NS.next hBn12).set HR.out (by omega)).b0, ((NS.next hBn12).set HR.out (by omega)).b1, ((XS.next hBn12).set (by omega)).c0, ((XS.next hBn12).set (by omega)).c1, ((XS.next hBn12).set (by omega)).c2⟩
            clear hK K
            try simp only [Act.put, List.setIfInBounds_toArray, List.set_cons_zero, List.set_cons_succ]
            refine wpAnyH_done (by kernel_rfl) ?_ _
            have NL := (NS.next hBn12).set (o := 1) (u := .slice ad3 (adL ls ⟨x0, x1, x2⟩).length cd3) HR.out (show w.heap.size < bo by omega)
            have VL := (VS.next hBn12).set (o := 1) (u := .slice ad3 (adL ls ⟨x0, x1, x2⟩).length cd3) (show bo ≠ w.heap.size + 2 by omega) ⟨_, OL.c1⟩
            have OM := OL.put1 (u := .slice ad3 (adL ls ⟨x0, x1, x2⟩).length cd3)
            have p0 := (oS.later hBn12).setFar (b := bo) (o := 1) (x := .slice ad3 (adL ls ⟨x0, x1, x2⟩).length cd3) (fun e => by have := HO0.out _ e; omega)
            have p3 := o3.setFar (b := bo) (o := 1) (x := .slice ad3 (adL ls ⟨x0, x1, x2⟩).length cd3) (fun e => by have := (o3.lt _ e).1; omega)
            clear j1 j3 OL hHeld NS XS VS OS oS HT HD KB
            generalize w12.setCell ⟨bo, 1, none⟩ (.slice ad3 (adL ls ⟨x0, x1, x2⟩).length cd3) = WL at *
            have j0 := OM.c0
            have j1 := OM.c1
            cases cg : netB ts (adL ls ⟨x0, x1, x2⟩) with
            | false =>
              have HG := Lib.hid cg
              have HF := Lib.hid (ad_f1 cg)
              clear cg
              go_wp2_with fail
              refine (neGood_b _ _ ts _ _ ⟨p0.rd, p3.rd⟩ HG.out).mono ?_
              rintro e wE ⟨rfl, hbE⟩
              have VE := VL.next hbE
              have NE := NL.next hbE
              have r0 := VE.c0
              have r1 := VE.c1
              have s0 := VE.f0
              have s1 := VE.f1
              have sz := VE.lt
              go_wp2
              refine bodyPost_ret (v := .tuple #[.agg #[.slice none 0 0, .slice none 0 0], .bool false]) (by simp [results, Try.results36, go_sem, r0, r1, s0, s1, *]) rfl ⟨.slice none 0 0, .slice none 0 0, by rw [HF.out.1], by rw [HF.out.2.1, HF.out.2.2]; exact OwnN.nil _ _ _, ?_⟩
              exact (NE.below.setCell (p := ⟨w.heap.size + 2, 0, none⟩) (by show w.heap.size ≤ w.heap.size + 2; omega) _).setCell (p := ⟨w.heap.size + 2, 1, none⟩) (by show w.heap.size ≤ w.heap.size + 2; omega) _
            | true =>
              have HG := Lib.hid cg
              have HF := Lib.hid (ad_t H0.out cg)
              clear cg
              go_wp2_with fail
              refine (neGood_b _ _ ts _ _ ⟨p0.rd, p3.rd⟩ HG.out).mono ?_
              rintro e wE ⟨rfl, hbE⟩
              have VE := VL.next hbE
              have NE := NL.next hbE
              have OE := OM.next hbE
              have pE := p0.later hbE
              have pF := p3.later hbE
              have r0 := VE.c0
              have r1 := VE.c1
              have s0 := VE.f0
              have s1 := VE.f1
              have sz := VE.lt
              have j0 := OE.c0
              have j1 := OE.c1
              go_wp2
              refine bodyPost_ret (v := .tuple #[.agg #[.slice ad0 ts.length cd0, .slice ad3 (adL ls ⟨x0, x1, x2⟩).length cd3], .bool true]) (by simp [results, Try.results36, go_sem, r0, r1, s0, s1, j0, j1, sz]) rfl ⟨_, _, by rw [HF.out.1], ?_, ?_⟩
              · rw [HF.out.2.1, HF.out.2.2]
                have q0 := ((pE.setFar (b := w.heap.size + 2) (o := 0) (x := .slice ad0 ts.length cd0) (fun e => by have := (pE.lt _ e).1; omega)).setFar (b := w.heap.size + 2) (o := 1) (x := .slice ad3 (adL ls ⟨x0, x1, x2⟩).length cd3) (fun e => by have := (pE.lt _ e).1; omega)).base (B' := w.heap.size) (by omega)
                have q1 := ((pF.setFar (b := w.heap.size + 2) (o := 0) (x := .slice ad0 ts.length cd0) (fun e => by have := (pF.lt _ e).1; omega)).setFar (b := w.heap.size + 2) (o := 1) (x := .slice ad3 (adL ls ⟨x0, x1, x2⟩).length cd3) (fun e => by have := (pF.lt _ e).1; omega)).base (B' := w.heap.size) (by omega)
                exact ⟨⟨q0, fun k hk => (q0.lt k hk).2⟩, ⟨q1, fun k hk => (q1.lt k hk).2⟩⟩
              · exact (NE.below.setCell (p := ⟨w.heap.size + 2, 0, none⟩) (by show w.heap.size ≤ w.heap.size + 2; omega) _).setCell (p := ⟨w.heap.size + 2, 1, none⟩) (by show w.heap.size ≤ w.heap.size + 2; omega) _
          refine AllReadyH.cons (o := { dst := some 37, op := Go.Op.buildSlice 29 1 #[(0, Go.Operand.tmp 36)], type := 29, pos := "l6_tower.go:152", after := #[{ on := 6, ground := Go.Ground.data }], guard := none }) rfl (fun K hK => ?_) AllReadyH.nil
          go_simp
          refine hK.out _ _ ?_ (fun hHeld => ?_)
          · exact KB.out _ (hB0.alloc hB0.size _)
          clear hK K
          try simp only [Act.put, List.setIfInBounds_toArray, List.set_cons_zero, List.set_cons_succ]
          refine wpAnyH_name ?_
          intro w13 hw13
          rw [← hw13] at hHeld
          have hb13 := below_alloc hw13
          have z13 := lt_named hw13
          have b0 : w13.cell? ⟨wS.heap.size, 0, none⟩ = some (.int .i64 x0) := by rw [hw13]; simp [go_sem]
          have b1 : w13.cell? ⟨wS.heap.size, 1, none⟩ = some (.int .i64 x1) := by rw [hw13]; simp [go_sem]
          have b2 : w13.cell? ⟨wS.heap.size, 2, none⟩ = some (.int .i64 x2) := by rw [hw13]; simp [go_sem]
          clear hw13
          have hB14 := hB0.trans (hb13.mono hB0.size)
          refine wpAnyH_ready (rs := [0]) (by kernel_rfl) (by simp) ?_
          refine AllReadyH.cons (o := { dst := some 30, op := Go.Op.buildSlice 29 0 #[], type := 29, pos := "l6_tower.go:152", after := #[], guard := none }) rfl (fun K hK => ?_) AllReadyH.nil
          go_simp
          refine hK.out _ _ ?_ (fun hHeld => ?_)
          · exact KB.out _ (hB14.alloc hB14.size _)
          clear hK K
          try simp only [Act.put, List.setIfInBounds_toArray, List.set_cons_zero, List.set_cons_succ]
          refine wpAnyH_name ?_
          intro w15 hw15
          rw [← hw15] at hHeld
          have hb15 := below_alloc hw15
          have z15 := lt_named hw15
          have e1 : OwnR 53 c3 3 w15 wS.heap.size (.slice (some ⟨w13.heap.size, 0, none⟩) 0 0) ([] : List T3) := by rw [hw15]; exact OwnR.emptyLink _ _ hB14.size
          clear hw15
          have b0 := bcell hb15 b0
          have b1 := bcell hb15 b1
          have b2 := bcell hb15 b2
          have hB16 := hB14.trans (hb15.mono hB14.size)
          refine wpAnyH_ready (rs := [5]) (by kernel_rfl) (by simp) ?_
          refine AllReadyH.cons (o := { dst := some 35, op := Go.Op.call { callee := Go.Callee.builtin Go.Builtin.append, args := #[Go.Operand.tmp 30, Go.Operand.tmp 34], argTypes := #[29, 29] }, type := 29, pos := "l6_tower.go:152", after := #[{ on := 0, ground := Go.Ground.data }, { on := 4, ground := Go.Ground.data }], guard := none }) rfl (fun K hK => ?_) AllReadyH.nil
          refine step_append_LinkS (by rfl) _ _ (by rfl) wS.heap.size _ _ [] (ls.take k) (by rfl) (by rfl) e1 (HT.out.later hB16) HL1.out (hB16.size) ?_
          intro v17 w17 o1 hg17 hat17
          have hBn17 := hB16.grown hg17 hB16.size (fun k hk => (e1.lt k hk).1)
          rw [List.nil_append] at o1
          have b0 := hg17.cell b0 (by simp [Value.ownBlock]; omega)
          have b1 := hg17.cell b1 (by simp [Value.ownBlock]; omega)
          have b2 := hg17.cell b2 (by simp [Value.ownBlock]; omega)
          try go_simp
          refine hK.out _ _ ?_ (fun hHeld => ?_)
          · exact KB.out _ hBn17
          clear hK K
          try simp only [Act.put, List.setIfInBounds_toArray, List.set_cons_zero, List.set_cons_succ]
          refine wpAnyH_ready (rs := [8]) (by kernel_rfl) (by simp) ?_
          refine AllReadyH.cons (o := { dst := some 38, op := Go.Op.call { callee := Go.Callee.builtin Go.Builtin.append, args := #[Go.Operand.tmp 35, Go.Operand.tmp 37], argTypes := #[29, 29] }, type := 29, pos := "l6_tower.go:152", after := #[{ on := 5, ground := Go.Ground.data }, { on := 7, ground := Go.Ground.data }, { on := 5, ground := Go.Ground.chain }], guard := none }) rfl (fun K hK => ?_) AllReadyH.nil
          refine step_append_LinkS (by rfl) _ _ (by rfl) wS.heap.size _ _ (ls.take k) [⟨x0, x1, x2⟩] (by rfl) (by rfl) o1 (RdR.one3 ⟨x0, x1, x2⟩ (World.block_lt_of_cell? _ _ b0) (Nat.le_refl _) (by unfold maxLen; decide) b0 b1 b2) HL2.out (hBn17.size) ?_
          intro v18 w18 o2 hg18 hat18
          have hBn18 := hBn17.grown hg18 hBn17.size (fun k hk => (o1.lt k hk).1)
          try go_simp
          refine hK.out _ _ ?_ (fun hHeld => ?_)
          · exact KB.out _ hBn18
          clear hK K
          try simp only [Act.put, List.setIfInBounds_toArray, List.set_cons_zero, List.set_cons_succ]
          refine wpAnyH_ready (rs := [13]) (by kernel_rfl) (by simp) ?_
          refine AllReadyH.cons (o := { dst := some 43, op := Go.Op.call { callee := Go.Callee.builtin Go.Builtin.append, args := #[Go.Operand.tmp 38, Go.Operand.tmp 42], argTypes := #[29, 29] }, type := 29, pos := "l6_tower.go:152", after := #[{ on := 8, ground := Go.Ground.data }, { on := 12, ground := Go.Ground.data }, { on := 8, ground := Go.Ground.chain }], guard := none }) rfl (fun K hK => ?_) AllReadyH.nil
          refine step_append_LinkS (by rfl) _ _ (by rfl) wS.heap.size _ _ (ls.take k ++ [⟨x0, x1, x2⟩]) (ls.drop k) (by rfl) (by rfl) o2 (HD.out.later hBn18) HL3.out (hBn18.size) ?_
          intro v19 w19 o3 hg19 hat19
          have hBn19 := hBn18.grown hg19 hBn18.size (fun k hk => (o2.lt k hk).1)
          rw [← HAD.out] at o3
          obtain ⟨ad3, cd3, rfl, -⟩ := o3.rd.len
          try go_simp
          refine hK.out _ _ ?_ (fun hHeld => ?_)
          · exact KB.out _ hBn19
          clear hK K
          try simp only [Act.put, List.setIfInBounds_toArray, List.set_cons_zero, List.set_cons_succ]
          refine wpAnyH_take (i := 14) (oi := { dst := some 44, op := Go.Op.fieldAddr 31 (Go.Operand.tmp 6) 1, type := 0, pos := "l6_tower.go:152", after := #[{ on := 0, ground := Go.Ground.phase }, { on := 1, ground := Go.Ground.phase }, { on := 2, ground := Go.Ground.phase }, { on := 3, ground := Go.Ground.phase }, { on := 4, ground := Go.Ground.phase }, { on := 5, ground := Go.Ground.phase }, { on := 6, ground := Go.Ground.phase }, { on := 7, ground := Go.Ground.phase }, { on := 8, ground := Go.Ground.phase }, { on := 9, ground := Go.Ground.phase }, { on := 10, ground := Go.Ground.phase }, { on := 11, ground := Go.Ground.phase }, { on := 12, ground := Go.Ground.phase }, { on := 13, ground := Go.Ground.phase }], guard := none }) (v := ?_) rfl (by kernel_rfl) (by kernel_rfl) (by kernel_rfl) (fun _ _ _ h => h) (Or.inl ⟨by rfl, ?_⟩) (by assumption) ?_
          rotate_left
          · intro w hSw; (try dsimp only at hSw); go_simp; try with_reducible rfl
          try simp only [Act.put, List.setIfInBounds_toArray, List.set_cons_zero, List.set_cons_succ]
          refine wpAnyH_ready (rs := [15]) (by kernel_rfl) (by simp) ?_
          refine AllReadyH.cons (o := { dst := none, op := Go.Op.store 29 (Go.Operand.tmp 44) (Go.Operand.tmp 43), type := 0, pos := "l6_tower.go:152", after := #[{ on := 14, ground := Go.Ground.data }, { on := 13, ground := Go.Ground.data }, { on := 13, ground := Go.Ground.chain }, { on := 0, ground := Go.Ground.phase }, { on := 1, ground := Go.Ground.phase }, { on := 2, ground := Go.Ground.phase }, { on := 3, ground := Go.Ground.phase }, { on := 4, ground := Go.Ground.phase }, { on := 5, ground := Go.Ground.phase }, { on := 6, ground := Go.Ground.phase }, { on := 7, ground := Go.Ground.phase }, { on := 8, ground := Go.Ground.phase }, { on := 9, ground := Go.Ground.phase }, { on := 10, ground := Go.Ground.phase }, { on := 11, ground := Go.Ground.phase }, { on := 12, ground := Go.Ground.phase }, { on := 13, ground := Go.Ground.phase }], guard := none }) rfl (fun K hK => ?_) AllReadyH.nil
          have OL := OS.next hBn19
          have j1 := OL.c1
          have j3 := OL.f1
          go_simp
          refine hK.out _ _ ?_ (fun hHeld => ?_)
          · exact ⟨((NS.next hBn19).set HR.out (by omega)).b0, ((NS.next hBn19).set HR.out (by omega)).b1, ((XS.next hBn19).set (by omega)).c0, ((XS.next hBn19).set (by omega)).c1, ((XS.next hBn19).set (by omega)).c2⟩
          clear hK K
          try simp only [Act.put, List.setIfInBounds_toArray, List.set_cons_zero, List.set_cons_succ]
          refine wpAnyH_done (by kernel_rfl) ?_ _
          have NL := (NS.next hBn19).set (o := 1) (u := .slice ad3 (adL ls ⟨x0, x1, x2⟩).length cd3) HR.out (show w.heap.size < bo by omega)
          have VL := (VS.next hBn19).set (o := 1) (u := .slice ad3 (adL ls ⟨x0, x1, x2⟩).length cd3) (show bo ≠ w.heap.size + 2 by omega) ⟨_, OL.c1⟩
          have OM := OL.put1 (u := .slice ad3 (adL ls ⟨x0, x1, x2⟩).length cd3)
          have p0 := (oS.later hBn19).setFar (b := bo) (o := 1) (x := .slice ad3 (adL ls ⟨x0, x1, x2⟩).length cd3) (fun e => by have := HO0.out _ e; omega)
          have p3 := o3.setFar (b := bo) (o := 1) (x := .slice ad3 (adL ls ⟨x0, x1, x2⟩).length cd3) (fun e => by have := (o3.lt _ e).1; omega)
          clear j1 j3 OL hHeld NS XS VS OS oS HT HD KB
          generalize w19.setCell ⟨bo, 1, none⟩ (.slice ad3 (adL ls ⟨x0, x1, x2⟩).length cd3) = WL at *
          have j0 := OM.c0
          have j1 := OM.c1
          cases cg : netB ts (adL ls ⟨x0, x1, x2⟩) with
          | false =>
            have HG := Lib.hid cg
            have HF := Lib.hid (ad_f1 cg)
            clear cg
            go_wp2_with fail
            refine (neGood_b _ _ ts _ _ ⟨p0.rd, p3.rd⟩ HG.out).mono ?_
            rintro e wE ⟨rfl, hbE⟩
            have VE := VL.next hbE
            have NE := NL.next hbE
            have r0 := VE.c0
            have r1 := VE.c1
            have s0 := VE.f0
            have s1 := VE.f1
            have sz := VE.lt
            go_wp2
            refine bodyPost_ret (v := .tuple #[.agg #[.slice none 0 0, .slice none 0 0], .bool false]) (by simp [results, Try.results36, go_sem, r0, r1, s0, s1, *]) rfl ⟨.slice none 0 0, .slice none 0 0, by rw [HF.out.1], by rw [HF.out.2.1, HF.out.2.2]; exact OwnN.nil _ _ _, ?_⟩
            exact (NE.below.setCell (p := ⟨w.heap.size + 2, 0, none⟩) (by show w.heap.size ≤ w.heap.size + 2; omega) _).setCell (p := ⟨w.heap.size + 2, 1, none⟩) (by show w.heap.size ≤ w.heap.size + 2; omega) _
          | true =>
            have HG := Lib.hid cg
            have HF := Lib.hid (ad_t H0.out cg)
            clear cg
            go_wp2_with fail
            refine (neGood_b _ _ ts _ _ ⟨p0.rd, p3.rd⟩ HG.out).mono ?_
            rintro e wE ⟨rfl, hbE⟩
            have VE := VL.next hbE
            have NE := NL.next hbE
            have OE := OM.next hbE
            have pE := p0.later hbE
            have pF := p3.later hbE
            have r0 := VE.c0
            have r1 := VE.c1
            have s0 := VE.f0
            have s1 := VE.f1
            have sz := VE.lt
            have j0 := OE.c0
            have j1 := OE.c1
            go_wp2
            refine bodyPost_ret (v := .tuple #[.agg #[.slice ad0 ts.length cd0, .slice ad3 (adL ls ⟨x0, x1, x2⟩).length cd3], .bool true]) (by simp [results, Try.results36, go_sem, r0, r1, s0, s1, j0, j1, sz]) rfl ⟨_, _, by rw [HF.out.1], ?_, ?_⟩
            · rw [HF.out.2.1, HF.out.2.2]
              have q0 := ((pE.setFar (b := w.heap.size + 2) (o := 0) (x := .slice ad0 ts.length cd0) (fun e => by have := (pE.lt _ e).1; omega)).setFar (b := w.heap.size + 2) (o := 1) (x := .slice ad3 (adL ls ⟨x0, x1, x2⟩).length cd3) (fun e => by have := (pE.lt _ e).1; omega)).base (B' := w.heap.size) (by omega)
              have q1 := ((pF.setFar (b := w.heap.size + 2) (o := 0) (x := .slice ad0 ts.length cd0) (fun e => by have := (pF.lt _ e).1; omega)).setFar (b := w.heap.size + 2) (o := 1) (x := .slice ad3 (adL ls ⟨x0, x1, x2⟩).length cd3) (fun e => by have := (pF.lt _ e).1; omega)).base (B' := w.heap.size) (by omega)
              exact ⟨⟨q0, fun k hk => (q0.lt k hk).2⟩, ⟨q1, fun k hk => (q1.lt k hk).2⟩⟩
            · exact (NE.below.setCell (p := ⟨w.heap.size + 2, 0, none⟩) (by show w.heap.size ≤ w.heap.size + 2; omega) _).setCell (p := ⟨w.heap.size + 2, 1, none⟩) (by show w.heap.size ≤ w.heap.size + 2; omega) _
      · obtain rfl : k = m := by omega
        have HPL : Hid (plK ls ⟨x0, x1, x2⟩ = k) := Lib.hid (plK_eq (by rw [← HM.out]; omega) hall.out (fun h => by have := HM.out; omega))
        go_wp2
        refine wp_region_quiet_below (by kernel_rfl) (by kernel_rfl) ?_
        repeat (go_big_quiet_step (fail))
        refine wpQuiet_nil ?_
        intro _ hw'
        obtain ⟨⟨dq, osq⟩, hw''⟩ := hw'
        subst hw''
        have hb3 := hbl.trans ((below_regrown wr dq osq).mono hbl.size)
        clear K0 K1 K2 K3 K4
        have NR := N2.next hb3
        have XR := X2.next hb3
        have VR := V2.next hb3
        have OR := O2.next hb3
        have oR := o0.later hb3
        have hzR : bo < (grow (redrawn wr dq) osq).heap.size := OR.lt
        have HAD : Hid (adL ls ⟨x0, x1, x2⟩ = ls.take k ++ [⟨x0, x1, x2⟩] ++ ls.drop k) := Lib.hid (by unfold adL; rw [HPL.out])
        clear hbl NK XK hall HPL
        go_wp2
        generalize grow (redrawn wr dq) osq = WR at *
        obtain ⟨a5, hs1, hs2, hs3⟩ := sliceHiLink NR.rd.2 HM.out hp1 k (Nat.le_refl _)
        obtain ⟨a6, c6, ht1, ht2, ht3⟩ := sliceLoLink NR.rd.2 HM.out hp1 k (Nat.le_refl _)
        simp only [Nat.sub_self] at ht1 ht2 ht3
        have hk00 : (0 : Int) ≤ (k : Int) := by omega
        have HL1 : Hid (([] : List T3).length + (ls.take k).length ≤ 4194304) := Lib.hid (by have := HM.out; simp; omega)
        have HL2 : Hid ((ls.take k).length + ([⟨x0, x1, x2⟩] : List T3).length ≤ 4194304) := Lib.hid (by have := HM.out; simp; omega)
        have HL3 : Hid ((ls.take k ++ ([⟨x0, x1, x2⟩] : List T3)).length + (ls.drop k).length ≤ 4194304) := Lib.hid (by have := HM.out; simp; omega)
        refine wp_region_held_drew (S := (fun w' => w'.cell? ⟨w.heap.size, 0, none⟩ = some (.slice a0 n p0) ∧ w'.cell? ⟨w.heap.size, 1, none⟩ = some (.slice a1 k p1) ∧ w'.cell? ⟨w.heap.size + 1, 0, none⟩ = some (.int .i64 x0) ∧ w'.cell? ⟨w.heap.size + 1, 1, none⟩ = some (.int .i64 x1) ∧ w'.cell? ⟨w.heap.size + 1, 2, none⟩ = some (.int .i64 x2))) (by kernel_rfl) ?_ (fun hHeld => ?_)
        · exact ⟨NR.drew.b0, NR.drew.b1, (XR.next (Below.refl _ _).drew).c0, (XR.next (Below.refl _ _).drew).c1, (XR.next (Below.refl _ _).drew).c2⟩
        refine wpAnyH_name ?_
        intro wS hwS
        rw [← hwS] at hHeld
        have hbS := below_named hwS
        clear hwS
        have hB0 := Below.refl wS.heap.size wS
        have NS := NR.next hbS
        have XS := XR.next hbS
        have VS := VR.next hbS
        have OS := OR.next hbS
        have oS := oR.later hbS
        have HT := Lib.hid (hs3.later hbS)
        have HD := Lib.hid (ht3.later hbS)
        have hzS : bo < wS.heap.size := OS.lt
        have KB : Hid (∀ y : World, Below wS.heap.size wS y → y.cell? ⟨w.heap.size, 0, none⟩ = some (.slice a0 n p0) ∧ y.cell? ⟨w.heap.size, 1, none⟩ = some (.slice a1 k p1) ∧ y.cell? ⟨w.heap.size + 1, 0, none⟩ = some (.int .i64 x0) ∧ y.cell? ⟨w.heap.size + 1, 1, none⟩ = some (.int .i64 x1) ∧ y.cell? ⟨w.heap.size + 1, 2, none⟩ = some (.int .i64 x2)) := Lib.hid fun y h => ⟨(NS.next h).b0, (NS.next h).b1, (XS.next h).c0, (XS.next h).c1, (XS.next h).c2⟩
        clear NR XR VR OR oR hs3 ht3
        refine wpAnyH_take (i := 1) (oi := { dst := some 31, op := Go.Op.fieldAddr 31 (Go.Operand.tmp 2) 1, type := 0, pos := "l6_tower.go:152", after := #[], guard := none }) (v := ?_) rfl (by kernel_rfl) (by kernel_rfl) (by kernel_rfl) (fun _ _ _ h => h) (Or.inl ⟨by rfl, ?_⟩) (by assumption) ?_
        rotate_left
        · intro w hSw; (try dsimp only at hSw); go_simp; try with_reducible rfl
        try simp only [Act.put, List.setIfInBounds_toArray, List.set_cons_zero, List.set_cons_succ]
        refine wpAnyH_take (i := 2) (oi := { dst := some 32, op := Go.Op.load 29 (Go.Operand.tmp 31), type := 29, pos := "l6_tower.go:152", after := #[{ on := 1, ground := Go.Ground.data }], guard := none }) (v := ?_) rfl (by kernel_rfl) (by kernel_rfl) (by kernel_rfl) (fun _ _ _ h => h) (Or.inl ⟨by rfl, ?_⟩) (by assumption) ?_
        rotate_left
        · intro w hSw; (try dsimp only at hSw); go_simp; try with_reducible rfl
        try simp only [Act.put, List.setIfInBounds_toArray, List.set_cons_zero, List.set_cons_succ]
        refine wpAnyH_take (i := 3) (oi := { dst := some 33, op := Go.Op.move (Go.Operand.tmp 7), type := 3, pos := "l6_tower.go:152", after := #[], guard := none }) (v := ?_) rfl (by kernel_rfl) (by kernel_rfl) (by kernel_rfl) (fun _ _ _ h => h) (Or.inl ⟨by rfl, ?_⟩) (by assumption) ?_
        rotate_left
        · intro w hSw; (try dsimp only at hSw); go_simp; try with_reducible rfl
        try simp only [Act.put, List.setIfInBounds_toArray, List.set_cons_zero, List.set_cons_succ]
        refine wpAnyH_take (i := 4) (oi := { dst := some 34, op := Go.Op.slice 29 (Go.Operand.tmp 32) none (some (Go.Operand.tmp 33)) none, type := 29, pos := "l6_tower.go:152", after := #[{ on := 2, ground := Go.Ground.data }, { on := 3, ground := Go.Ground.data }], guard := none }) (v := ?_) rfl (by kernel_rfl) (by kernel_rfl) (by kernel_rfl) (fun _ _ _ h => h) (Or.inl ⟨by rfl, ?_⟩) (by assumption) ?_
        rotate_left
        · intro w hSw; (try dsimp only at hSw); go_simp; try with_reducible rfl
        try simp only [Act.put, List.setIfInBounds_toArray, List.set_cons_zero, List.set_cons_succ]
        refine wpAnyH_take (i := 6) (oi := { dst := some 36, op := Go.Op.load 53 (Go.Operand.tmp 3), type := 53, pos := "l6_tower.go:152", after := #[], guard := none }) (v := ?_) rfl (by kernel_rfl) (by kernel_rfl) (by kernel_rfl) (fun _ _ _ h => h) (Or.inl ⟨by rfl, ?_⟩) (by assumption) ?_
        rotate_left
        · intro w hSw; (try dsimp only at hSw); go_simp; try with_reducible rfl
        try simp only [Act.put, List.setIfInBounds_toArray, List.set_cons_zero, List.set_cons_succ]
        refine wpAnyH_take (i := 9) (oi := { dst := some 39, op := Go.Op.fieldAddr 31 (Go.Operand.tmp 2) 1, type := 0, pos := "l6_tower.go:152", after := #[], guard := none }) (v := ?_) rfl (by kernel_rfl) (by kernel_rfl) (by kernel_rfl) (fun _ _ _ h => h) (Or.inl ⟨by rfl, ?_⟩) (by assumption) ?_
        rotate_left
        · intro w hSw; (try dsimp only at hSw); go_simp; try with_reducible rfl
        try simp only [Act.put, List.setIfInBounds_toArray, List.set_cons_zero, List.set_cons_succ]
        refine wpAnyH_take (i := 10) (oi := { dst := some 40, op := Go.Op.load 29 (Go.Operand.tmp 39), type := 29, pos := "l6_tower.go:152", after := #[{ on := 9, ground := Go.Ground.data }], guard := none }) (v := ?_) rfl (by kernel_rfl) (by kernel_rfl) (by kernel_rfl) (fun _ _ _ h => h) (Or.inl ⟨by rfl, ?_⟩) (by assumption) ?_
        rotate_left
        · intro w hSw; (try dsimp only at hSw); go_simp; try with_reducible rfl
        try simp only [Act.put, List.setIfInBounds_toArray, List.set_cons_zero, List.set_cons_succ]
        refine wpAnyH_take (i := 11) (oi := { dst := some 41, op := Go.Op.move (Go.Operand.tmp 7), type := 3, pos := "l6_tower.go:152", after := #[], guard := none }) (v := ?_) rfl (by kernel_rfl) (by kernel_rfl) (by kernel_rfl) (fun _ _ _ h => h) (Or.inl ⟨by rfl, ?_⟩) (by assumption) ?_
        rotate_left
        · intro w hSw; (try dsimp only at hSw); go_simp; try with_reducible rfl
        try simp only [Act.put, List.setIfInBounds_toArray, List.set_cons_zero, List.set_cons_succ]
        refine wpAnyH_take (i := 12) (oi := { dst := some 42, op := Go.Op.slice 29 (Go.Operand.tmp 40) (some (Go.Operand.tmp 41)) none none, type := 29, pos := "l6_tower.go:152", after := #[{ on := 10, ground := Go.Ground.data }, { on := 11, ground := Go.Ground.data }], guard := none }) (v := ?_) rfl (by kernel_rfl) (by kernel_rfl) (by kernel_rfl) (fun _ _ _ h => h) (Or.inl ⟨by rfl, ?_⟩) (by assumption) ?_
        rotate_left
        · intro w hSw; (try dsimp only at hSw); go_simp; try with_reducible rfl
        try simp only [Act.put, List.setIfInBounds_toArray, List.set_cons_zero, List.set_cons_succ]
        refine wpAnyH_ready (rs := [0, 7]) (by kernel_rfl) (by simp) ?_
        refine AllReadyH.cons (o := { dst := some 30, op := Go.Op.buildSlice 29 0 #[], type := 29, pos := "l6_tower.go:152", after := #[], guard := none }) rfl (fun K hK => ?_) ?_
        · go_simp
          refine hK.out _ _ ?_ (fun hHeld => ?_)
          · exact KB.out _ (hB0.alloc hB0.size _)
          clear hK K
          try simp only [Act.put, List.setIfInBounds_toArray, List.set_cons_zero, List.set_cons_succ]
          refine wpAnyH_name ?_
          intro w1 hw1
          rw [← hw1] at hHeld
          have hb1 := below_alloc hw1
          have z1 := lt_named hw1
          have e1 : OwnR 53 c3 3 w1 wS.heap.size (.slice (some ⟨wS.heap.size, 0, none⟩) 0 0) ([] : List T3) := by rw [hw1]; exact OwnR.emptyLink _ _ hB0.size
          clear hw1
          have hB2 := hB0.trans (hb1.mono hB0.size)
          refine wpAnyH_ready (rs := [5, 7]) (by kernel_rfl) (by simp) ?_
          refine AllReadyH.cons (o := { dst := some 35, op := Go.Op.call { callee := Go.Callee.builtin Go.Builtin.append, args := #[Go.Operand.tmp 30, Go.Operand.tmp 34], argTypes := #[29, 29] }, type := 29, pos := "l6_tower.go:152", after := #[{ on := 0, ground := Go.Ground.data }, { on := 4, ground := Go.Ground.data }], guard := none }) rfl (fun K hK => ?_) ?_
          · refine step_append_LinkS (by rfl) _ _ (by rfl) wS.heap.size _ _ [] (ls.take k) (by rfl) (by rfl) e1 (HT.out.later hB2) HL1.out (hB2.size) ?_
            intro v3 w3 o1 hg3 hat3
            have hBn3 := hB2.grown hg3 hB2.size (fun k hk => (e1.lt k hk).1)
            rw [List.nil_append] at o1
            try go_simp
            refine hK.out _ _ ?_ (fun hHeld => ?_)
            · exact KB.out _ hBn3
            clear hK K
            try simp only [Act.put, List.setIfInBounds_toArray, List.set_cons_zero, List.set_cons_succ]
            refine wpAnyH_ready (rs := [7]) (by kernel_rfl) (by simp) ?_
            refine AllReadyH.cons (o := { dst := some 37, op := Go.Op.buildSlice 29 1 #[(0, Go.Operand.tmp 36)], type := 29, pos := "l6_tower.go:152", after := #[{ on := 6, ground := Go.Ground.data }], guard := none }) rfl (fun K hK => ?_) AllReadyH.nil
            go_simp
            refine hK.out _ _ ?_ (fun hHeld => ?_)
            · exact KB.out _ (hBn3.alloc hBn3.size _)
            clear hK K
            try simp only [Act.put, List.setIfInBounds_toArray, List.set_cons_zero, List.set_cons_succ]
            refine wpAnyH_name ?_
            intro w4 hw4
            rw [← hw4] at hHeld
            have hb4 := below_alloc hw4
            have z4 := lt_named hw4
            have b0 : w4.cell? ⟨w3.heap.size, 0, none⟩ = some (.int .i64 x0) := by rw [hw4]; simp [go_sem]
            have b1 : w4.cell? ⟨w3.heap.size, 1, none⟩ = some (.int .i64 x1) := by rw [hw4]; simp [go_sem]
            have b2 : w4.cell? ⟨w3.heap.size, 2, none⟩ = some (.int .i64 x2) := by rw [hw4]; simp [go_sem]
            clear hw4
            have o1 := o1.later hb4
            have hB5 := hBn3.trans (hb4.mono hBn3.size)
            refine wpAnyH_ready (rs := [8]) (by kernel_rfl) (by simp) ?_
            refine AllReadyH.cons (o := { dst := some 38, op := Go.Op.call { callee := Go.Callee.builtin Go.Builtin.append, args := #[Go.Operand.tmp 35, Go.Operand.tmp 37], argTypes := #[29, 29] }, type := 29, pos := "l6_tower.go:152", after := #[{ on := 5, ground := Go.Ground.data }, { on := 7, ground := Go.Ground.data }, { on := 5, ground := Go.Ground.chain }], guard := none }) rfl (fun K hK => ?_) AllReadyH.nil
            refine step_append_LinkS (by rfl) _ _ (by rfl) wS.heap.size _ _ (ls.take k) [⟨x0, x1, x2⟩] (by rfl) (by rfl) o1 (RdR.one3 ⟨x0, x1, x2⟩ (World.block_lt_of_cell? _ _ b0) (Nat.le_refl _) (by unfold maxLen; decide) b0 b1 b2) HL2.out (hB5.size) ?_
            intro v6 w6 o2 hg6 hat6
            have hBn6 := hB5.grown hg6 hB5.size (fun k hk => (o1.lt k hk).1)
            try go_simp
            refine hK.out _ _ ?_ (fun hHeld => ?_)
            · exact KB.out _ hBn6
            clear hK K
            try simp only [Act.put, List.setIfInBounds_toArray, List.set_cons_zero, List.set_cons_succ]
            refine wpAnyH_ready (rs := [13]) (by kernel_rfl) (by simp) ?_
            refine AllReadyH.cons (o := { dst := some 43, op := Go.Op.call { callee := Go.Callee.builtin Go.Builtin.append, args := #[Go.Operand.tmp 38, Go.Operand.tmp 42], argTypes := #[29, 29] }, type := 29, pos := "l6_tower.go:152", after := #[{ on := 8, ground := Go.Ground.data }, { on := 12, ground := Go.Ground.data }, { on := 8, ground := Go.Ground.chain }], guard := none }) rfl (fun K hK => ?_) AllReadyH.nil
            refine step_append_LinkS (by rfl) _ _ (by rfl) wS.heap.size _ _ (ls.take k ++ [⟨x0, x1, x2⟩]) (ls.drop k) (by rfl) (by rfl) o2 (HD.out.later hBn6) HL3.out (hBn6.size) ?_
            intro v7 w7 o3 hg7 hat7
            have hBn7 := hBn6.grown hg7 hBn6.size (fun k hk => (o2.lt k hk).1)
            rw [← HAD.out] at o3
            obtain ⟨ad3, cd3, rfl, -⟩ := o3.rd.len
            try go_simp
            refine hK.out _ _ ?_ (fun hHeld => ?_)
            · exact KB.out _ hBn7
            clear hK K
            try simp only [Act.put, List.setIfInBounds_toArray, List.set_cons_zero, List.set_cons_succ]
            refine wpAnyH_take (i := 14) (oi := { dst := some 44, op := Go.Op.fieldAddr 31 (Go.Operand.tmp 6) 1, type := 0, pos := "l6_tower.go:152", after := #[{ on := 0, ground := Go.Ground.phase }, { on := 1, ground := Go.Ground.phase }, { on := 2, ground := Go.Ground.phase }, { on := 3, ground := Go.Ground.phase }, { on := 4, ground := Go.Ground.phase }, { on := 5, ground := Go.Ground.phase }, { on := 6, ground := Go.Ground.phase }, { on := 7, ground := Go.Ground.phase }, { on := 8, ground := Go.Ground.phase }, { on := 9, ground := Go.Ground.phase }, { on := 10, ground := Go.Ground.phase }, { on := 11, ground := Go.Ground.phase }, { on := 12, ground := Go.Ground.phase }, { on := 13, ground := Go.Ground.phase }], guard := none }) (v := ?_) rfl (by kernel_rfl) (by kernel_rfl) (by kernel_rfl) (fun _ _ _ h => h) (Or.inl ⟨by rfl, ?_⟩) (by assumption) ?_
            rotate_left
            · intro w hSw; (try dsimp only at hSw); go_simp; try with_reducible rfl
            try simp only [Act.put, List.setIfInBounds_toArray, List.set_cons_zero, List.set_cons_succ]
            refine wpAnyH_ready (rs := [15]) (by kernel_rfl) (by simp) ?_
            refine AllReadyH.cons (o := { dst := none, op := Go.Op.store 29 (Go.Operand.tmp 44) (Go.Operand.tmp 43), type := 0, pos := "l6_tower.go:152", after := #[{ on := 14, ground := Go.Ground.data }, { on := 13, ground := Go.Ground.data }, { on := 13, ground := Go.Ground.chain }, { on := 0, ground := Go.Ground.phase }, { on := 1, ground := Go.Ground.phase }, { on := 2, ground := Go.Ground.phase }, { on := 3, ground := Go.Ground.phase }, { on := 4, ground := Go.Ground.phase }, { on := 5, ground := Go.Ground.phase }, { on := 6, ground := Go.Ground.phase }, { on := 7, ground := Go.Ground.phase }, { on := 8, ground := Go.Ground.phase }, { on := 9, ground := Go.Ground.phase }, { on := 10, ground := Go.Ground.phase }, { on := 11, ground := Go.Ground.phase }, { on := 12, ground := Go.Ground.phase }, { on := 13, ground := Go.Ground.phase }], guard := none }) rfl (fun K hK => ?_) AllReadyH.nil
            have OL := OS.next hBn7
            have j1 := OL.c1
            have j3 := OL.f1
            go_simp
            refine hK.out _ _ ?_ (fun hHeld => ?_)
            · exact ⟨((NS.next hBn7).set HR.out (by omega)).b0, ((NS.next hBn7).set HR.out (by omega)).b1, ((XS.next hBn7).set (by omega)).c0, ((XS.next hBn7).set (by omega)).c1, ((XS.next hBn7).set (by omega)).c2⟩
            clear hK K
            try simp only [Act.put, List.setIfInBounds_toArray, List.set_cons_zero, List.set_cons_succ]
            refine wpAnyH_done (by kernel_rfl) ?_ _
            have NL := (NS.next hBn7).set (o := 1) (u := .slice ad3 (adL ls ⟨x0, x1, x2⟩).length cd3) HR.out (show w.heap.size < bo by omega)
            have VL := (VS.next hBn7).set (o := 1) (u := .slice ad3 (adL ls ⟨x0, x1, x2⟩).length cd3) (show bo ≠ w.heap.size + 2 by omega) ⟨_, OL.c1⟩
            have OM := OL.put1 (u := .slice ad3 (adL ls ⟨x0, x1, x2⟩).length cd3)
            have p0 := (oS.later hBn7).setFar (b := bo) (o := 1) (x := .slice ad3 (adL ls ⟨x0, x1, x2⟩).length cd3) (fun e => by have := HO0.out _ e; omega)
            have p3 := o3.setFar (b := bo) (o := 1) (x := .slice ad3 (adL ls ⟨x0, x1, x2⟩).length cd3) (fun e => by have := (o3.lt _ e).1; omega)
            clear j1 j3 OL hHeld NS XS VS OS oS HT HD KB
            generalize w7.setCell ⟨bo, 1, none⟩ (.slice ad3 (adL ls ⟨x0, x1, x2⟩).length cd3) = WL at *
            have j0 := OM.c0
            have j1 := OM.c1
            cases cg : netB ts (adL ls ⟨x0, x1, x2⟩) with
            | false =>
              have HG := Lib.hid cg
              have HF := Lib.hid (ad_f1 cg)
              clear cg
              go_wp2_with fail
              refine (neGood_b _ _ ts _ _ ⟨p0.rd, p3.rd⟩ HG.out).mono ?_
              rintro e wE ⟨rfl, hbE⟩
              have VE := VL.next hbE
              have NE := NL.next hbE
              have r0 := VE.c0
              have r1 := VE.c1
              have s0 := VE.f0
              have s1 := VE.f1
              have sz := VE.lt
              go_wp2
              refine bodyPost_ret (v := .tuple #[.agg #[.slice none 0 0, .slice none 0 0], .bool false]) (by simp [results, Try.results36, go_sem, r0, r1, s0, s1, *]) rfl ⟨.slice none 0 0, .slice none 0 0, by rw [HF.out.1], by rw [HF.out.2.1, HF.out.2.2]; exact OwnN.nil _ _ _, ?_⟩
              exact (NE.below.setCell (p := ⟨w.heap.size + 2, 0, none⟩) (by show w.heap.size ≤ w.heap.size + 2; omega) _).setCell (p := ⟨w.heap.size + 2, 1, none⟩) (by show w.heap.size ≤ w.heap.size + 2; omega) _
            | true =>
              have HG := Lib.hid cg
              have HF := Lib.hid (ad_t H0.out cg)
              clear cg
              go_wp2_with fail
              refine (neGood_b _ _ ts _ _ ⟨p0.rd, p3.rd⟩ HG.out).mono ?_
              rintro e wE ⟨rfl, hbE⟩
              have VE := VL.next hbE
              have NE := NL.next hbE
              have OE := OM.next hbE
              have pE := p0.later hbE
              have pF := p3.later hbE
              have r0 := VE.c0
              have r1 := VE.c1
              have s0 := VE.f0
              have s1 := VE.f1
              have sz := VE.lt
              have j0 := OE.c0
              have j1 := OE.c1
              go_wp2
              refine bodyPost_ret (v := .tuple #[.agg #[.slice ad0 ts.length cd0, .slice ad3 (adL ls ⟨x0, x1, x2⟩).length cd3], .bool true]) (by simp [results, Try.results36, go_sem, r0, r1, s0, s1, j0, j1, sz]) rfl ⟨_, _, by rw [HF.out.1], ?_, ?_⟩
              · rw [HF.out.2.1, HF.out.2.2]
                have q0 := ((pE.setFar (b := w.heap.size + 2) (o := 0) (x := .slice ad0 ts.length cd0) (fun e => by have := (pE.lt _ e).1; omega)).setFar (b := w.heap.size + 2) (o := 1) (x := .slice ad3 (adL ls ⟨x0, x1, x2⟩).length cd3) (fun e => by have := (pE.lt _ e).1; omega)).base (B' := w.heap.size) (by omega)
                have q1 := ((pF.setFar (b := w.heap.size + 2) (o := 0) (x := .slice ad0 ts.length cd0) (fun e => by have := (pF.lt _ e).1; omega)).setFar (b := w.heap.size + 2) (o := 1) (x := .slice ad3 (adL ls ⟨x0, x1, x2⟩).length cd3) (fun e => by have := (pF.lt _ e).1; omega)).base (B' := w.heap.size) (by omega)
                exact ⟨⟨q0, fun k hk => (q0.lt k hk).2⟩, ⟨q1, fun k hk => (q1.lt k hk).2⟩⟩
              · exact (NE.below.setCell (p := ⟨w.heap.size + 2, 0, none⟩) (by show w.heap.size ≤ w.heap.size + 2; omega) _).setCell (p := ⟨w.heap.size + 2, 1, none⟩) (by show w.heap.size ≤ w.heap.size + 2; omega) _
          refine AllReadyH.cons (o := { dst := some 37, op := Go.Op.buildSlice 29 1 #[(0, Go.Operand.tmp 36)], type := 29, pos := "l6_tower.go:152", after := #[{ on := 6, ground := Go.Ground.data }], guard := none }) rfl (fun K hK => ?_) AllReadyH.nil
          go_simp
          refine hK.out _ _ ?_ (fun hHeld => ?_)
          · exact KB.out _ (hB2.alloc hB2.size _)
          clear hK K
          try simp only [Act.put, List.setIfInBounds_toArray, List.set_cons_zero, List.set_cons_succ]
          refine wpAnyH_name ?_
          intro w8 hw8
          rw [← hw8] at hHeld
          have hb8 := below_alloc hw8
          have z8 := lt_named hw8
          have b0 : w8.cell? ⟨w1.heap.size, 0, none⟩ = some (.int .i64 x0) := by rw [hw8]; simp [go_sem]
          have b1 : w8.cell? ⟨w1.heap.size, 1, none⟩ = some (.int .i64 x1) := by rw [hw8]; simp [go_sem]
          have b2 : w8.cell? ⟨w1.heap.size, 2, none⟩ = some (.int .i64 x2) := by rw [hw8]; simp [go_sem]
          clear hw8
          have e1 := e1.later hb8
          have hB9 := hB2.trans (hb8.mono hB2.size)
          refine wpAnyH_ready (rs := [5]) (by kernel_rfl) (by simp) ?_
          refine AllReadyH.cons (o := { dst := some 35, op := Go.Op.call { callee := Go.Callee.builtin Go.Builtin.append, args := #[Go.Operand.tmp 30, Go.Operand.tmp 34], argTypes := #[29, 29] }, type := 29, pos := "l6_tower.go:152", after := #[{ on := 0, ground := Go.Ground.data }, { on := 4, ground := Go.Ground.data }], guard := none }) rfl (fun K hK => ?_) AllReadyH.nil
          refine step_append_LinkS (by rfl) _ _ (by rfl) wS.heap.size _ _ [] (ls.take k) (by rfl) (by rfl) e1 (HT.out.later hB9) HL1.out (hB9.size) ?_
          intro v10 w10 o1 hg10 hat10
          have hBn10 := hB9.grown hg10 hB9.size (fun k hk => (e1.lt k hk).1)
          rw [List.nil_append] at o1
          have b0 := hg10.cell b0 (by simp [Value.ownBlock]; omega)
          have b1 := hg10.cell b1 (by simp [Value.ownBlock]; omega)
          have b2 := hg10.cell b2 (by simp [Value.ownBlock]; omega)
          try go_simp
          refine hK.out _ _ ?_ (fun hHeld => ?_)
          · exact KB.out _ hBn10
          clear hK K
          try simp only [Act.put, List.setIfInBounds_toArray, List.set_cons_zero, List.set_cons_succ]
          refine wpAnyH_ready (rs := [8]) (by kernel_rfl) (by simp) ?_
          refine AllReadyH.cons (o := { dst := some 38, op := Go.Op.call { callee := Go.Callee.builtin Go.Builtin.append, args := #[Go.Operand.tmp 35, Go.Operand.tmp 37], argTypes := #[29, 29] }, type := 29, pos := "l6_tower.go:152", after := #[{ on := 5, ground := Go.Ground.data }, { on := 7, ground := Go.Ground.data }, { on := 5, ground := Go.Ground.chain }], guard := none }) rfl (fun K hK => ?_) AllReadyH.nil
          refine step_append_LinkS (by rfl) _ _ (by rfl) wS.heap.size _ _ (ls.take k) [⟨x0, x1, x2⟩] (by rfl) (by rfl) o1 (RdR.one3 ⟨x0, x1, x2⟩ (World.block_lt_of_cell? _ _ b0) (Nat.le_refl _) (by unfold maxLen; decide) b0 b1 b2) HL2.out (hBn10.size) ?_
          intro v11 w11 o2 hg11 hat11
          have hBn11 := hBn10.grown hg11 hBn10.size (fun k hk => (o1.lt k hk).1)
          try go_simp
          refine hK.out _ _ ?_ (fun hHeld => ?_)
          · exact KB.out _ hBn11
          clear hK K
          try simp only [Act.put, List.setIfInBounds_toArray, List.set_cons_zero, List.set_cons_succ]
          refine wpAnyH_ready (rs := [13]) (by kernel_rfl) (by simp) ?_
          refine AllReadyH.cons (o := { dst := some 43, op := Go.Op.call { callee := Go.Callee.builtin Go.Builtin.append, args := #[Go.Operand.tmp 38, Go.Operand.tmp 42], argTypes := #[29, 29] }, type := 29, pos := "l6_tower.go:152", after := #[{ on := 8, ground := Go.Ground.data }, { on := 12, ground := Go.Ground.data }, { on := 8, ground := Go.Ground.chain }], guard := none }) rfl (fun K hK => ?_) AllReadyH.nil
          refine step_append_LinkS (by rfl) _ _ (by rfl) wS.heap.size _ _ (ls.take k ++ [⟨x0, x1, x2⟩]) (ls.drop k) (by rfl) (by rfl) o2 (HD.out.later hBn11) HL3.out (hBn11.size) ?_
          intro v12 w12 o3 hg12 hat12
          have hBn12 := hBn11.grown hg12 hBn11.size (fun k hk => (o2.lt k hk).1)
          rw [← HAD.out] at o3
          obtain ⟨ad3, cd3, rfl, -⟩ := o3.rd.len
          try go_simp
          refine hK.out _ _ ?_ (fun hHeld => ?_)
          · exact KB.out _ hBn12
          clear hK K
          try simp only [Act.put, List.setIfInBounds_toArray, List.set_cons_zero, List.set_cons_succ]
          refine wpAnyH_take (i := 14) (oi := { dst := some 44, op := Go.Op.fieldAddr 31 (Go.Operand.tmp 6) 1, type := 0, pos := "l6_tower.go:152", after := #[{ on := 0, ground := Go.Ground.phase }, { on := 1, ground := Go.Ground.phase }, { on := 2, ground := Go.Ground.phase }, { on := 3, ground := Go.Ground.phase }, { on := 4, ground := Go.Ground.phase }, { on := 5, ground := Go.Ground.phase }, { on := 6, ground := Go.Ground.phase }, { on := 7, ground := Go.Ground.phase }, { on := 8, ground := Go.Ground.phase }, { on := 9, ground := Go.Ground.phase }, { on := 10, ground := Go.Ground.phase }, { on := 11, ground := Go.Ground.phase }, { on := 12, ground := Go.Ground.phase }, { on := 13, ground := Go.Ground.phase }], guard := none }) (v := ?_) rfl (by kernel_rfl) (by kernel_rfl) (by kernel_rfl) (fun _ _ _ h => h) (Or.inl ⟨by rfl, ?_⟩) (by assumption) ?_
          rotate_left
          · intro w hSw; (try dsimp only at hSw); go_simp; try with_reducible rfl
          try simp only [Act.put, List.setIfInBounds_toArray, List.set_cons_zero, List.set_cons_succ]
          refine wpAnyH_ready (rs := [15]) (by kernel_rfl) (by simp) ?_
          refine AllReadyH.cons (o := { dst := none, op := Go.Op.store 29 (Go.Operand.tmp 44) (Go.Operand.tmp 43), type := 0, pos := "l6_tower.go:152", after := #[{ on := 14, ground := Go.Ground.data }, { on := 13, ground := Go.Ground.data }, { on := 13, ground := Go.Ground.chain }, { on := 0, ground := Go.Ground.phase }, { on := 1, ground := Go.Ground.phase }, { on := 2, ground := Go.Ground.phase }, { on := 3, ground := Go.Ground.phase }, { on := 4, ground := Go.Ground.phase }, { on := 5, ground := Go.Ground.phase }, { on := 6, ground := Go.Ground.phase }, { on := 7, ground := Go.Ground.phase }, { on := 8, ground := Go.Ground.phase }, { on := 9, ground := Go.Ground.phase }, { on := 10, ground := Go.Ground.phase }, { on := 11, ground := Go.Ground.phase }, { on := 12, ground := Go.Ground.phase }, { on := 13, ground := Go.Ground.phase }], guard := none }) rfl (fun K hK => ?_) AllReadyH.nil
          have OL := OS.next hBn12
          have j1 := OL.c1
          have j3 := OL.f1
          go_simp
          refine hK.out _ _ ?_ (fun hHeld => ?_)
          · exact ⟨((NS.next hBn12).set HR.out (by omega)).b0, ((NS.next hBn12).set HR.out (by omega)).b1, ((XS.next hBn12).set (by omega)).c0, ((XS.next hBn12).set (by omega)).c1, ((XS.next hBn12).set (by omega)).c2⟩
          clear hK K
          try simp only [Act.put, List.setIfInBounds_toArray, List.set_cons_zero, List.set_cons_succ]
          refine wpAnyH_done (by kernel_rfl) ?_ _
          have NL := (NS.next hBn12).set (o := 1) (u := .slice ad3 (adL ls ⟨x0, x1, x2⟩).length cd3) HR.out (show w.heap.size < bo by omega)
          have VL := (VS.next hBn12).set (o := 1) (u := .slice ad3 (adL ls ⟨x0, x1, x2⟩).length cd3) (show bo ≠ w.heap.size + 2 by omega) ⟨_, OL.c1⟩
          have OM := OL.put1 (u := .slice ad3 (adL ls ⟨x0, x1, x2⟩).length cd3)
          have p0 := (oS.later hBn12).setFar (b := bo) (o := 1) (x := .slice ad3 (adL ls ⟨x0, x1, x2⟩).length cd3) (fun e => by have := HO0.out _ e; omega)
          have p3 := o3.setFar (b := bo) (o := 1) (x := .slice ad3 (adL ls ⟨x0, x1, x2⟩).length cd3) (fun e => by have := (o3.lt _ e).1; omega)
          clear j1 j3 OL hHeld NS XS VS OS oS HT HD KB
          generalize w12.setCell ⟨bo, 1, none⟩ (.slice ad3 (adL ls ⟨x0, x1, x2⟩).length cd3) = WL at *
          have j0 := OM.c0
          have j1 := OM.c1
          cases cg : netB ts (adL ls ⟨x0, x1, x2⟩) with
          | false =>
            have HG := Lib.hid cg
            have HF := Lib.hid (ad_f1 cg)
            clear cg
            go_wp2_with fail
            refine (neGood_b _ _ ts _ _ ⟨p0.rd, p3.rd⟩ HG.out).mono ?_
            rintro e wE ⟨rfl, hbE⟩
            have VE := VL.next hbE
            have NE := NL.next hbE
            have r0 := VE.c0
            have r1 := VE.c1
            have s0 := VE.f0
            have s1 := VE.f1
            have sz := VE.lt
            go_wp2
            refine bodyPost_ret (v := .tuple #[.agg #[.slice none 0 0, .slice none 0 0], .bool false]) (by simp [results, Try.results36, go_sem, r0, r1, s0, s1, *]) rfl ⟨.slice none 0 0, .slice none 0 0, by rw [HF.out.1], by rw [HF.out.2.1, HF.out.2.2]; exact OwnN.nil _ _ _, ?_⟩
            exact (NE.below.setCell (p := ⟨w.heap.size + 2, 0, none⟩) (by show w.heap.size ≤ w.heap.size + 2; omega) _).setCell (p := ⟨w.heap.size + 2, 1, none⟩) (by show w.heap.size ≤ w.heap.size + 2; omega) _
          | true =>
            have HG := Lib.hid cg
            have HF := Lib.hid (ad_t H0.out cg)
            clear cg
            go_wp2_with fail
            refine (neGood_b _ _ ts _ _ ⟨p0.rd, p3.rd⟩ HG.out).mono ?_
            rintro e wE ⟨rfl, hbE⟩
            have VE := VL.next hbE
            have NE := NL.next hbE
            have OE := OM.next hbE
            have pE := p0.later hbE
            have pF := p3.later hbE
            have r0 := VE.c0
            have r1 := VE.c1
            have s0 := VE.f0
            have s1 := VE.f1
            have sz := VE.lt
            have j0 := OE.c0
            have j1 := OE.c1
            go_wp2
            refine bodyPost_ret (v := .tuple #[.agg #[.slice ad0 ts.length cd0, .slice ad3 (adL ls ⟨x0, x1, x2⟩).length cd3], .bool true]) (by simp [results, Try.results36, go_sem, r0, r1, s0, s1, j0, j1, sz]) rfl ⟨_, _, by rw [HF.out.1], ?_, ?_⟩
            · rw [HF.out.2.1, HF.out.2.2]
              have q0 := ((pE.setFar (b := w.heap.size + 2) (o := 0) (x := .slice ad0 ts.length cd0) (fun e => by have := (pE.lt _ e).1; omega)).setFar (b := w.heap.size + 2) (o := 1) (x := .slice ad3 (adL ls ⟨x0, x1, x2⟩).length cd3) (fun e => by have := (pE.lt _ e).1; omega)).base (B' := w.heap.size) (by omega)
              have q1 := ((pF.setFar (b := w.heap.size + 2) (o := 0) (x := .slice ad0 ts.length cd0) (fun e => by have := (pF.lt _ e).1; omega)).setFar (b := w.heap.size + 2) (o := 1) (x := .slice ad3 (adL ls ⟨x0, x1, x2⟩).length cd3) (fun e => by have := (pF.lt _ e).1; omega)).base (B' := w.heap.size) (by omega)
              exact ⟨⟨q0, fun k hk => (q0.lt k hk).2⟩, ⟨q1, fun k hk => (q1.lt k hk).2⟩⟩
            · exact (NE.below.setCell (p := ⟨w.heap.size + 2, 0, none⟩) (by show w.heap.size ≤ w.heap.size + 2; omega) _).setCell (p := ⟨w.heap.size + 2, 1, none⟩) (by show w.heap.size ≤ w.heap.size + 2; omega) _
        refine AllReadyH.cons (o := { dst := some 37, op := Go.Op.buildSlice 29 1 #[(0, Go.Operand.tmp 36)], type := 29, pos := "l6_tower.go:152", after := #[{ on := 6, ground := Go.Ground.data }], guard := none }) rfl (fun K hK => ?_) AllReadyH.nil
        go_simp
        refine hK.out _ _ ?_ (fun hHeld => ?_)
        · exact KB.out _ (hB0.alloc hB0.size _)
        clear hK K
        try simp only [Act.put, List.setIfInBounds_toArray, List.set_cons_zero, List.set_cons_succ]
        refine wpAnyH_name ?_
        intro w13 hw13
        rw [← hw13] at hHeld
        have hb13 := below_alloc hw13
        have z13 := lt_named hw13
        have b0 : w13.cell? ⟨wS.heap.size, 0, none⟩ = some (.int .i64 x0) := by rw [hw13]; simp [go_sem]
        have b1 : w13.cell? ⟨wS.heap.size, 1, none⟩ = some (.int .i64 x1) := by rw [hw13]; simp [go_sem]
        have b2 : w13.cell? ⟨wS.heap.size, 2, none⟩ = some (.int .i64 x2) := by rw [hw13]; simp [go_sem]
        clear hw13
        have hB14 := hB0.trans (hb13.mono hB0.size)
        refine wpAnyH_ready (rs := [0]) (by kernel_rfl) (by simp) ?_
        refine AllReadyH.cons (o := { dst := some 30, op := Go.Op.buildSlice 29 0 #[], type := 29, pos := "l6_tower.go:152", after := #[], guard := none }) rfl (fun K hK => ?_) AllReadyH.nil
        go_simp
        refine hK.out _ _ ?_ (fun hHeld => ?_)
        · exact KB.out _ (hB14.alloc hB14.size _)
        clear hK K
        try simp only [Act.put, List.setIfInBounds_toArray, List.set_cons_zero, List.set_cons_succ]
        refine wpAnyH_name ?_
        intro w15 hw15
        rw [← hw15] at hHeld
        have hb15 := below_alloc hw15
        have z15 := lt_named hw15
        have e1 : OwnR 53 c3 3 w15 wS.heap.size (.slice (some ⟨w13.heap.size, 0, none⟩) 0 0) ([] : List T3) := by rw [hw15]; exact OwnR.emptyLink _ _ hB14.size
        clear hw15
        have b0 := bcell hb15 b0
        have b1 := bcell hb15 b1
        have b2 := bcell hb15 b2
        have hB16 := hB14.trans (hb15.mono hB14.size)
        refine wpAnyH_ready (rs := [5]) (by kernel_rfl) (by simp) ?_
        refine AllReadyH.cons (o := { dst := some 35, op := Go.Op.call { callee := Go.Callee.builtin Go.Builtin.append, args := #[Go.Operand.tmp 30, Go.Operand.tmp 34], argTypes := #[29, 29] }, type := 29, pos := "l6_tower.go:152", after := #[{ on := 0, ground := Go.Ground.data }, { on := 4, ground := Go.Ground.data }], guard := none }) rfl (fun K hK => ?_) AllReadyH.nil
        refine step_append_LinkS (by rfl) _ _ (by rfl) wS.heap.size _ _ [] (ls.take k) (by rfl) (by rfl) e1 (HT.out.later hB16) HL1.out (hB16.size) ?_
        intro v17 w17 o1 hg17 hat17
        have hBn17 := hB16.grown hg17 hB16.size (fun k hk => (e1.lt k hk).1)
        rw [List.nil_append] at o1
        have b0 := hg17.cell b0 (by simp [Value.ownBlock]; omega)
        have b1 := hg17.cell b1 (by simp [Value.ownBlock]; omega)
        have b2 := hg17.cell b2 (by simp [Value.ownBlock]; omega)
        try go_simp
        refine hK.out _ _ ?_ (fun hHeld => ?_)
        · exact KB.out _ hBn17
        clear hK K
        try simp only [Act.put, List.setIfInBounds_toArray, List.set_cons_zero, List.set_cons_succ]
        refine wpAnyH_ready (rs := [8]) (by kernel_rfl) (by simp) ?_
        refine AllReadyH.cons (o := { dst := some 38, op := Go.Op.call { callee := Go.Callee.builtin Go.Builtin.append, args := #[Go.Operand.tmp 35, Go.Operand.tmp 37], argTypes := #[29, 29] }, type := 29, pos := "l6_tower.go:152", after := #[{ on := 5, ground := Go.Ground.data }, { on := 7, ground := Go.Ground.data }, { on := 5, ground := Go.Ground.chain }], guard := none }) rfl (fun K hK => ?_) AllReadyH.nil
        refine step_append_LinkS (by rfl) _ _ (by rfl) wS.heap.size _ _ (ls.take k) [⟨x0, x1, x2⟩] (by rfl) (by rfl) o1 (RdR.one3 ⟨x0, x1, x2⟩ (World.block_lt_of_cell? _ _ b0) (Nat.le_refl _) (by unfold maxLen; decide) b0 b1 b2) HL2.out (hBn17.size) ?_
        intro v18 w18 o2 hg18 hat18
        have hBn18 := hBn17.grown hg18 hBn17.size (fun k hk => (o1.lt k hk).1)
        try go_simp
        refine hK.out _ _ ?_ (fun hHeld => ?_)
        · exact KB.out _ hBn18
        clear hK K
        try simp only [Act.put, List.setIfInBounds_toArray, List.set_cons_zero, List.set_cons_succ]
        refine wpAnyH_ready (rs := [13]) (by kernel_rfl) (by simp) ?_
        refine AllReadyH.cons (o := { dst := some 43, op := Go.Op.call { callee := Go.Callee.builtin Go.Builtin.append, args := #[Go.Operand.tmp 38, Go.Operand.tmp 42], argTypes := #[29, 29] }, type := 29, pos := "l6_tower.go:152", after := #[{ on := 8, ground := Go.Ground.data }, { on := 12, ground := Go.Ground.data }, { on := 8, ground := Go.Ground.chain }], guard := none }) rfl (fun K hK => ?_) AllReadyH.nil
        refine step_append_LinkS (by rfl) _ _ (by rfl) wS.heap.size _ _ (ls.take k ++ [⟨x0, x1, x2⟩]) (ls.drop k) (by rfl) (by rfl) o2 (HD.out.later hBn18) HL3.out (hBn18.size) ?_
        intro v19 w19 o3 hg19 hat19
        have hBn19 := hBn18.grown hg19 hBn18.size (fun k hk => (o2.lt k hk).1)
        rw [← HAD.out] at o3
        obtain ⟨ad3, cd3, rfl, -⟩ := o3.rd.len
        try go_simp
        refine hK.out _ _ ?_ (fun hHeld => ?_)
        · exact KB.out _ hBn19
        clear hK K
        try simp only [Act.put, List.setIfInBounds_toArray, List.set_cons_zero, List.set_cons_succ]
        refine wpAnyH_take (i := 14) (oi := { dst := some 44, op := Go.Op.fieldAddr 31 (Go.Operand.tmp 6) 1, type := 0, pos := "l6_tower.go:152", after := #[{ on := 0, ground := Go.Ground.phase }, { on := 1, ground := Go.Ground.phase }, { on := 2, ground := Go.Ground.phase }, { on := 3, ground := Go.Ground.phase }, { on := 4, ground := Go.Ground.phase }, { on := 5, ground := Go.Ground.phase }, { on := 6, ground := Go.Ground.phase }, { on := 7, ground := Go.Ground.phase }, { on := 8, ground := Go.Ground.phase }, { on := 9, ground := Go.Ground.phase }, { on := 10, ground := Go.Ground.phase }, { on := 11, ground := Go.Ground.phase }, { on := 12, ground := Go.Ground.phase }, { on := 13, ground := Go.Ground.phase }], guard := none }) (v := ?_) rfl (by kernel_rfl) (by kernel_rfl) (by kernel_rfl) (fun _ _ _ h => h) (Or.inl ⟨by rfl, ?_⟩) (by assumption) ?_
        rotate_left
        · intro w hSw; (try dsimp only at hSw); go_simp; try with_reducible rfl
        try simp only [Act.put, List.setIfInBounds_toArray, List.set_cons_zero, List.set_cons_succ]
        refine wpAnyH_ready (rs := [15]) (by kernel_rfl) (by simp) ?_
        refine AllReadyH.cons (o := { dst := none, op := Go.Op.store 29 (Go.Operand.tmp 44) (Go.Operand.tmp 43), type := 0, pos := "l6_tower.go:152", after := #[{ on := 14, ground := Go.Ground.data }, { on := 13, ground := Go.Ground.data }, { on := 13, ground := Go.Ground.chain }, { on := 0, ground := Go.Ground.phase }, { on := 1, ground := Go.Ground.phase }, { on := 2, ground := Go.Ground.phase }, { on := 3, ground := Go.Ground.phase }, { on := 4, ground := Go.Ground.phase }, { on := 5, ground := Go.Ground.phase }, { on := 6, ground := Go.Ground.phase }, { on := 7, ground := Go.Ground.phase }, { on := 8, ground := Go.Ground.phase }, { on := 9, ground := Go.Ground.phase }, { on := 10, ground := Go.Ground.phase }, { on := 11, ground := Go.Ground.phase }, { on := 12, ground := Go.Ground.phase }, { on := 13, ground := Go.Ground.phase }], guard := none }) rfl (fun K hK => ?_) AllReadyH.nil
        have OL := OS.next hBn19
        have j1 := OL.c1
        have j3 := OL.f1
        go_simp
        refine hK.out _ _ ?_ (fun hHeld => ?_)
        · exact ⟨((NS.next hBn19).set HR.out (by omega)).b0, ((NS.next hBn19).set HR.out (by omega)).b1, ((XS.next hBn19).set (by omega)).c0, ((XS.next hBn19).set (by omega)).c1, ((XS.next hBn19).set (by omega)).c2⟩
        clear hK K
        try simp only [Act.put, List.setIfInBounds_toArray, List.set_cons_zero, List.set_cons_succ]
        refine wpAnyH_done (by kernel_rfl) ?_ _
        have NL := (NS.next hBn19).set (o := 1) (u := .slice ad3 (adL ls ⟨x0, x1, x2⟩).length cd3) HR.out (show w.heap.size < bo by omega)
        have VL := (VS.next hBn19).set (o := 1) (u := .slice ad3 (adL ls ⟨x0, x1, x2⟩).length cd3) (show bo ≠ w.heap.size + 2 by omega) ⟨_, OL.c1⟩
        have OM := OL.put1 (u := .slice ad3 (adL ls ⟨x0, x1, x2⟩).length cd3)
        have p0 := (oS.later hBn19).setFar (b := bo) (o := 1) (x := .slice ad3 (adL ls ⟨x0, x1, x2⟩).length cd3) (fun e => by have := HO0.out _ e; omega)
        have p3 := o3.setFar (b := bo) (o := 1) (x := .slice ad3 (adL ls ⟨x0, x1, x2⟩).length cd3) (fun e => by have := (o3.lt _ e).1; omega)
        clear j1 j3 OL hHeld NS XS VS OS oS HT HD KB
        generalize w19.setCell ⟨bo, 1, none⟩ (.slice ad3 (adL ls ⟨x0, x1, x2⟩).length cd3) = WL at *
        have j0 := OM.c0
        have j1 := OM.c1
        cases cg : netB ts (adL ls ⟨x0, x1, x2⟩) with
        | false =>
          have HG := Lib.hid cg
          have HF := Lib.hid (ad_f1 cg)
          clear cg
          go_wp2_with fail
          refine (neGood_b _ _ ts _ _ ⟨p0.rd, p3.rd⟩ HG.out).mono ?_
          rintro e wE ⟨rfl, hbE⟩
          have VE := VL.next hbE
          have NE := NL.next hbE
          have r0 := VE.c0
          have r1 := VE.c1
          have s0 := VE.f0
          have s1 := VE.f1
          have sz := VE.lt
          go_wp2
          refine bodyPost_ret (v := .tuple #[.agg #[.slice none 0 0, .slice none 0 0], .bool false]) (by simp [results, Try.results36, go_sem, r0, r1, s0, s1, *]) rfl ⟨.slice none 0 0, .slice none 0 0, by rw [HF.out.1], by rw [HF.out.2.1, HF.out.2.2]; exact OwnN.nil _ _ _, ?_⟩
          exact (NE.below.setCell (p := ⟨w.heap.size + 2, 0, none⟩) (by show w.heap.size ≤ w.heap.size + 2; omega) _).setCell (p := ⟨w.heap.size + 2, 1, none⟩) (by show w.heap.size ≤ w.heap.size + 2; omega) _
        | true =>
          have HG := Lib.hid cg
          have HF := Lib.hid (ad_t H0.out cg)
          clear cg
          go_wp2_with fail
          refine (neGood_b _ _ ts _ _ ⟨p0.rd, p3.rd⟩ HG.out).mono ?_
          rintro e wE ⟨rfl, hbE⟩
          have VE := VL.next hbE
          have NE := NL.next hbE
          have OE := OM.next hbE
          have pE := p0.later hbE
          have pF := p3.later hbE
          have r0 := VE.c0
          have r1 := VE.c1
          have s0 := VE.f0
          have s1 := VE.f1
          have sz := VE.lt
          have j0 := OE.c0
          have j1 := OE.c1
          go_wp2
          refine bodyPost_ret (v := .tuple #[.agg #[.slice ad0 ts.length cd0, .slice ad3 (adL ls ⟨x0, x1, x2⟩).length cd3], .bool true]) (by simp [results, Try.results36, go_sem, r0, r1, s0, s1, j0, j1, sz]) rfl ⟨_, _, by rw [HF.out.1], ?_, ?_⟩
          · rw [HF.out.2.1, HF.out.2.2]
            have q0 := ((pE.setFar (b := w.heap.size + 2) (o := 0) (x := .slice ad0 ts.length cd0) (fun e => by have := (pE.lt _ e).1; omega)).setFar (b := w.heap.size + 2) (o := 1) (x := .slice ad3 (adL ls ⟨x0, x1, x2⟩).length cd3) (fun e => by have := (pE.lt _ e).1; omega)).base (B' := w.heap.size) (by omega)
            have q1 := ((pF.setFar (b := w.heap.size + 2) (o := 0) (x := .slice ad0 ts.length cd0) (fun e => by have := (pF.lt _ e).1; omega)).setFar (b := w.heap.size + 2) (o := 1) (x := .slice ad3 (adL ls ⟨x0, x1, x2⟩).length cd3) (fun e => by have := (pF.lt _ e).1; omega)).base (B' := w.heap.size) (by omega)
            exact ⟨⟨q0, fun k hk => (q0.lt k hk).2⟩, ⟨q1, fun k hk => (q1.lt k hk).2⟩⟩
          · exact (NE.below.setCell (p := ⟨w.heap.size + 2, 0, none⟩) (by show w.heap.size ≤ w.heap.size + 2; omega) _).setCell (p := ⟨w.heap.size + 2, 1, none⟩) (by show w.heap.size ≤ w.heap.size + 2; omega) _
end Go.Proofs.Yteickcpmicifgaa
