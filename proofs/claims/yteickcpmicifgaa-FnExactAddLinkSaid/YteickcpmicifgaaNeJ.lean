/- Chapter 6: AddLink of the program. Written by a generator of this claim's author. -/
import Derived.Test.YteickcpmicifgaaNeI
namespace Go.Proofs.Yteickcpmicifgaa
open Go.RowKit Go.Sort
set_option linter.unusedSimpArgs false
set_option linter.unusedVariables false

theorem Var2.put0 {W : World} {b : Nat} {q0 q1 u : Value} (h : Var2 W b q0 q1) : Var2 (W.setCell ⟨b, 0, none⟩ u) b u q1 :=
  ⟨by simpa [World.setCell] using h.lt, setc_same h.c0, by have := h.c1; simpa [go_sem] using this, by rw [setf _ _ _ _ _ _ ⟨_, h.c0⟩]; exact h.f0, by rw [setf _ _ _ _ _ _ ⟨_, h.c0⟩]; exact h.f1⟩
/-- Three things by their number. -/
def pk3 {T : Type} (a b c : T) : Nat → T
  | 0 => a
  | 1 => b
  | _ => c
theorem catRLink_three (a b c : List T3) : catRLink (pk3 a b c) 3 = a ++ b ++ c := by simp [catRLink, pk3, List.range_succ]
theorem pk3_parts {w : World} {h : Nat} {q0 q1 q2 : Value} {l0 l1 l2 : List T3} (b0 : w.cell? ⟨h, 0, none⟩ = some q0) (b1 : w.cell? ⟨h, 1, none⟩ = some q1) (b2 : w.cell? ⟨h, 2, none⟩ = some q2)
    (r0 : RdR c3 3 w q0 l0) (r1 : RdR c3 3 w q1 l1) (r2 : RdR c3 3 w q2 l2) (h0 : l0.length ≤ 1000) (h1 : l1.length ≤ 1000) (h2 : l2.length ≤ 1000) :
    ∀ j, j < 3 → w.cell? ⟨h, j, none⟩ = some (pk3 q0 q1 q2 j) ∧ RdR c3 3 w (pk3 q0 q1 q2 j) (pk3 l0 l1 l2 j) ∧ (pk3 l0 l1 l2 j).length ≤ 1000 := by
  intro j hj
  match j, hj with
  | 0, _ => exact ⟨b0, r0, h0⟩
  | 1, _ => exact ⟨b1, r1, h1⟩
  | 2, _ => exact ⟨b2, r2, h2⟩

set_option maxRecDepth 100000 in
set_option maxHeartbeats 16000000 in
theorem addLink_any (c0 c1 : Value) (ts ls : List T3) (x0 x1 x2 : Int) (w : World) (hr : RdN w c0 c1 ts ls) :
    Calls Try.prog 38 #[.agg #[c0, c1], .agg #[.int .i64 x0, .int .i64 x1, .int .i64 x2]] w fun e w' => ∃ v0 v1, e = .returned (.tuple #[.agg #[v0, v1], .bool (adC ts ls ⟨x0, x1, x2⟩)]) ∧ OwnN w' w.heap.size w'.heap.size v0 v1 (adT ts ls ⟨x0, x1, x2⟩) (adR ts ls ⟨x0, x1, x2⟩) ∧ Below w.heap.size w w' := by
  obtain ⟨a0, p0, rfl, hp0⟩ := hr.1.len
  obtain ⟨a1, p1, rfl, hp1⟩ := hr.2.len
  obtain ⟨n, hn⟩ : ∃ n, n = ts.length := ⟨_, rfl⟩
  obtain ⟨m, hm⟩ : ∃ m, m = ls.length := ⟨_, rfl⟩
  have hm0 : (ts.length : Int) ≤ 9223372036854775807 := by have := hr.1.max; unfold maxLen at this; omega
  have hm1 : (ls.length : Int) ≤ 9223372036854775807 := by have := hr.2.max; unfold maxLen at this; omega
  rw [← hn] at hr hp0 hm0
  rw [← hm] at hr hp1 hm1
  rw [← hn, ← hm]
  have HN := Lib.hid hn
  have HM := Lib.hid hm
  clear hn hm
  have N0 := ((NB.start hr 31).alloc (.cells #[.int .i64 x0, .int .i64 x1, .int .i64 x2] 53)).alloc (.cells #[.slice none 0 0, .slice none 0 0] 31)
  have X0 := (Box3.new (w.alloc (.cells #[.slice a0 n p0, .slice a1 m p1] 31)) (.int .i64 x0) (.int .i64 x1) (.int .i64 x2) 53).next ((Below.refl _ _).alloc (Nat.le_refl _) (.cells #[.slice none 0 0, .slice none 0 0] 31))
  have V0 := Var2.new ((w.alloc (.cells #[.slice a0 n p0, .slice a1 m p1] 31)).alloc (.cells #[.int .i64 x0, .int .i64 x1, .int .i64 x2] 53)) (.slice none 0 0) (.slice none 0 0) 31
  have hsz : (((w.alloc (.cells #[.slice a0 n p0, .slice a1 m p1] 31)).alloc (.cells #[.int .i64 x0, .int .i64 x1, .int .i64 x2] 53)).alloc (.cells #[.slice none 0 0, .slice none 0 0] 31)).heap.size = w.heap.size + 3 := by simp
  simp only [World.size_alloc] at X0 V0
  have HR := Lib.hid hr
  clear hr
  cases c0 : netB ts ls with
  | false =>
    have H0 := Lib.hid c0
    have HF := Lib.hid (ad_f0 (x := ⟨x0, x1, x2⟩) c0)
    clear c0
    have h0 := N0.b0
    have h1 := N0.b1
    have y0 := X0.c0
    have y1 := X0.c1
    have y2 := X0.c2
    have r0 := V0.c0
    have r1 := V0.c1
    have s0 := V0.f0
    have s1 := V0.f1
    go_enter Try.func38, Try.ntmps38
    go_wp2_with fail
    generalize ((w.alloc (.cells #[.slice a0 n p0, .slice a1 m p1] 31)).alloc (.cells #[.int .i64 x0, .int .i64 x1, .int .i64 x2] 53)).alloc (.cells #[.slice none 0 0, .slice none 0 0] 31) = W at *
    refine (isNet_b _ _ ts ls _ N0.rd H0.out).mono ?_
    rintro e w1 ⟨rfl, hb1⟩
    have N1 := N0.next hb1
    have X1 := X0.next hb1
    have V1 := V0.next hb1
    have hz1 : w.heap.size + 3 ≤ w1.heap.size := by have := hb1.size; omega
    clear h0 h1 y0 y1 y2 r0 r1 s0 s1
    have h0 := N1.b0
    have h1 := N1.b1
    have y0 := X1.c0
    have y1 := X1.c1
    have y2 := X1.c2
    have r0 := V1.c0
    have r1 := V1.c1
    have s0 := V1.f0
    have s1 := V1.f1
    go_wp2
    refine bodyPost_ret (v := .tuple #[.agg #[.slice none 0 0, .slice none 0 0], .bool false]) (by simp [results, Try.results38, go_sem, r0, r1, s0, s1, *]) rfl ⟨.slice none 0 0, .slice none 0 0, by rw [HF.out.1], by rw [HF.out.2.1, HF.out.2.2]; exact OwnN.nil _ _ _, ?_⟩
    exact (N1.below.setCell (p := ⟨w.heap.size + 2, 0, none⟩) (by show w.heap.size ≤ w.heap.size + 2; omega) _).setCell (p := ⟨w.heap.size + 2, 1, none⟩) (by show w.heap.size ≤ w.heap.size + 2; omega) _
  | true =>
    have H0 := Lib.hid c0
    have HOK := Lib.hid (netB_iff.1 c0)
    have hn16 : n ≤ 16 := by have := HOK.out.t16; rw [HN.out]; exact this
    have hm40 : m ≤ 40 := by have := HOK.out.l40; rw [HM.out]; exact this
    clear c0
    have h0 := N0.b0
    have h1 := N0.b1
    have y0 := X0.c0
    have y1 := X0.c1
    have y2 := X0.c2
    have r0 := V0.c0
    have r1 := V0.c1
    have s0 := V0.f0
    have s1 := V0.f1
    go_enter Try.func38, Try.ntmps38
    go_wp2_with fail
    generalize ((w.alloc (.cells #[.slice a0 n p0, .slice a1 m p1] 31)).alloc (.cells #[.int .i64 x0, .int .i64 x1, .int .i64 x2] 53)).alloc (.cells #[.slice none 0 0, .slice none 0 0] 31) = W at *
    refine (isNet_b _ _ ts ls _ N0.rd H0.out).mono ?_
    rintro e w1 ⟨rfl, hb1⟩
    have N1 := N0.next hb1
    have X1 := X0.next hb1
    have V1 := V0.next hb1
    have hz1 : w.heap.size + 3 ≤ w1.heap.size := by have := hb1.size; omega
    clear h0 h1 y0 y1 y2 r0 r1 s0 s1
    have h0 := N1.b0
    have h1 := N1.b1
    have y0 := X1.c0
    have y1 := X1.c1
    have y2 := X1.c2
    have r0 := V1.c0
    have r1 := V1.c1
    have s0 := V1.f0
    have s1 := V1.f1
    go_wp2_with fail
    refine (placeOfLink_any _ ls x0 x1 x2 _ (by have := HOK.out.l40; omega) (fun i j h1 h2 => HOK.out.lt h1 h2) N1.rd.2).mono ?_
    rintro e w2 ⟨k, hp, rfl, hb2⟩
    have HPL := Lib.hid hp.plK
    have hk : k ≤ m := by have := hp.le; rw [HM.out]; exact this
    have N2 := N1.next hb2
    have X2 := X1.next hb2
    have V2 := V1.next hb2
    have hz2 : w1.heap.size ≤ w2.heap.size := hb2.size
    have HAD : Hid (adL ls ⟨x0, x1, x2⟩ = ls.take k ++ [⟨x0, x1, x2⟩] ++ ls.drop k) := Lib.hid (by unfold adL; rw [HPL.out])
    clear h0 h1 y0 y1 y2 r0 r1 s0 s1 hp HPL
    go_wp2
    obtain ⟨a5, hs1, hs2, hs3⟩ := sliceHiLink N2.rd.2 HM.out hp1 k hk
    obtain ⟨a6, c6, ht1, ht2, ht3⟩ := sliceLoLink N2.rd.2 HM.out hp1 k hk
    have hk00 : (0 : Int) ≤ (k : Int) := by omega
    have HL : Hid ((ls.take k).length ≤ 1000 ∧ ([⟨x0, x1, x2⟩] : List T3).length ≤ 1000 ∧ (ls.drop k).length ≤ 1000) := Lib.hid (by have := HM.out; simp; omega)
    refine wp_region_held_drew (S := (fun w' => w'.cell? ⟨w.heap.size, 0, none⟩ = some (.slice a0 n p0) ∧ w'.cell? ⟨w.heap.size, 1, none⟩ = some (.slice a1 m p1) ∧ w'.cell? ⟨w.heap.size + 1, 0, none⟩ = some (.int .i64 x0) ∧ w'.cell? ⟨w.heap.size + 1, 1, none⟩ = some (.int .i64 x1) ∧ w'.cell? ⟨w.heap.size + 1, 2, none⟩ = some (.int .i64 x2))) (by kernel_rfl) ?_ (fun hHeld => ?_)
    · exact ⟨N2.drew.b0, N2.drew.b1, (X2.next (Below.refl _ _).drew).c0, (X2.next (Below.refl _ _).drew).c1, (X2.next (Below.refl _ _).drew).c2⟩
    refine wpAnyH_name ?_
    intro wS hwS
    rw [← hwS] at hHeld
    have hbS := below_named hwS
    clear hwS
    have hB0 := Below.refl wS.heap.size wS
    have NS := N2.next hbS
    have XS := X2.next hbS
    have VS := V2.next hbS
    have HT := Lib.hid (hs3.later hbS)
    have HD := Lib.hid (ht3.later hbS)
    have hzS : w.heap.size + 3 ≤ wS.heap.size := by have := hbS.size; omega
    have KB : Hid (∀ y : World, Below wS.heap.size wS y → y.cell? ⟨w.heap.size, 0, none⟩ = some (.slice a0 n p0) ∧ y.cell? ⟨w.heap.size, 1, none⟩ = some (.slice a1 m p1) ∧ y.cell? ⟨w.heap.size + 1, 0, none⟩ = some (.int .i64 x0) ∧ y.cell? ⟨w.heap.size + 1, 1, none⟩ = some (.int .i64 x1) ∧ y.cell? ⟨w.heap.size + 1, 2, none⟩ = some (.int .i64 x2)) := Lib.hid fun y h => ⟨(NS.next h).b0, (NS.next h).b1, (XS.next h).c0, (XS.next h).c1, (XS.next h).c2⟩
    clear N2 X2 V2 hs3 ht3
    refine wpAnyH_take (i := 0) (oi := { dst := some 20, op := Go.Op.fieldAddr 31 (Go.Operand.tmp 2) 0, type := 0, pos := "l6_tower.go:154", after := #[], guard := none }) (v := ?_) rfl (by kernel_rfl) (by kernel_rfl) (by kernel_rfl) (fun _ _ _ h => h) (Or.inl ⟨by rfl, ?_⟩) (by assumption) ?_
    rotate_left
    · intro w hSw; (try dsimp only at hSw); go_simp; try with_reducible rfl
    try simp only [Act.put, List.setIfInBounds_toArray, List.set_cons_zero, List.set_cons_succ]
    refine wpAnyH_take (i := 1) (oi := { dst := some 21, op := Go.Op.load 28 (Go.Operand.tmp 20), type := 28, pos := "l6_tower.go:154", after := #[{ on := 0, ground := Go.Ground.data }], guard := none }) (v := ?_) rfl (by kernel_rfl) (by kernel_rfl) (by kernel_rfl) (fun _ _ _ h => h) (Or.inl ⟨by rfl, ?_⟩) (by assumption) ?_
    rotate_left
    · intro w hSw; (try dsimp only at hSw); go_simp; try with_reducible rfl
    try simp only [Act.put, List.setIfInBounds_toArray, List.set_cons_zero, List.set_cons_succ]
    refine wpAnyH_take (i := 3) (oi := { dst := some 23, op := Go.Op.fieldAddr 31 (Go.Operand.tmp 2) 1, type := 0, pos := "l6_tower.go:154", after := #[], guard := none }) (v := ?_) rfl (by kernel_rfl) (by kernel_rfl) (by kernel_rfl) (fun _ _ _ h => h) (Or.inl ⟨by rfl, ?_⟩) (by assumption) ?_
    rotate_left
    · intro w hSw; (try dsimp only at hSw); go_simp; try with_reducible rfl
    try simp only [Act.put, List.setIfInBounds_toArray, List.set_cons_zero, List.set_cons_succ]
    refine wpAnyH_take (i := 4) (oi := { dst := some 24, op := Go.Op.load 29 (Go.Operand.tmp 23), type := 29, pos := "l6_tower.go:154", after := #[{ on := 3, ground := Go.Ground.data }], guard := none }) (v := ?_) rfl (by kernel_rfl) (by kernel_rfl) (by kernel_rfl) (fun _ _ _ h => h) (Or.inl ⟨by rfl, ?_⟩) (by assumption) ?_
    rotate_left
    · intro w hSw; (try dsimp only at hSw); go_simp; try with_reducible rfl
    try simp only [Act.put, List.setIfInBounds_toArray, List.set_cons_zero, List.set_cons_succ]
    refine wpAnyH_take (i := 5) (oi := { dst := some 25, op := Go.Op.move (Go.Operand.tmp 6), type := 3, pos := "l6_tower.go:154", after := #[], guard := none }) (v := ?_) rfl (by kernel_rfl) (by kernel_rfl) (by kernel_rfl) (fun _ _ _ h => h) (Or.inl ⟨by rfl, ?_⟩) (by assumption) ?_
    rotate_left
    · intro w hSw; (try dsimp only at hSw); go_simp; try with_reducible rfl
    try simp only [Act.put, List.setIfInBounds_toArray, List.set_cons_zero, List.set_cons_succ]
    refine wpAnyH_take (i := 6) (oi := { dst := some 26, op := Go.Op.slice 29 (Go.Operand.tmp 24) none (some (Go.Operand.tmp 25)) none, type := 29, pos := "l6_tower.go:154", after := #[{ on := 4, ground := Go.Ground.data }, { on := 5, ground := Go.Ground.data }], guard := none }) (v := ?_) rfl (by kernel_rfl) (by kernel_rfl) (by kernel_rfl) (fun _ _ _ h => h) (Or.inl ⟨by rfl, ?_⟩) (by assumption) ?_
    rotate_left
    · intro w hSw; (try dsimp only at hSw); go_simp; try with_reducible rfl
    try simp only [Act.put, List.setIfInBounds_toArray, List.set_cons_zero, List.set_cons_succ]
    refine wpAnyH_take (i := 7) (oi := { dst := some 27, op := Go.Op.load 53 (Go.Operand.tmp 3), type := 53, pos := "l6_tower.go:154", after := #[], guard := none }) (v := ?_) rfl (by kernel_rfl) (by kernel_rfl) (by kernel_rfl) (fun _ _ _ h => h) (Or.inl ⟨by rfl, ?_⟩) (by assumption) ?_
    rotate_left
    · intro w hSw; (try dsimp only at hSw); go_simp; try with_reducible rfl
    try simp only [Act.put, List.setIfInBounds_toArray, List.set_cons_zero, List.set_cons_succ]
    refine wpAnyH_take (i := 9) (oi := { dst := some 29, op := Go.Op.fieldAddr 31 (Go.Operand.tmp 2) 1, type := 0, pos := "l6_tower.go:154", after := #[], guard := none }) (v := ?_) rfl (by kernel_rfl) (by kernel_rfl) (by kernel_rfl) (fun _ _ _ h => h) (Or.inl ⟨by rfl, ?_⟩) (by assumption) ?_
    rotate_left
    · intro w hSw; (try dsimp only at hSw); go_simp; try with_reducible rfl
    try simp only [Act.put, List.setIfInBounds_toArray, List.set_cons_zero, List.set_cons_succ]
    refine wpAnyH_take (i := 10) (oi := { dst := some 30, op := Go.Op.load 29 (Go.Operand.tmp 29), type := 29, pos := "l6_tower.go:154", after := #[{ on := 9, ground := Go.Ground.data }], guard := none }) (v := ?_) rfl (by kernel_rfl) (by kernel_rfl) (by kernel_rfl) (fun _ _ _ h => h) (Or.inl ⟨by rfl, ?_⟩) (by assumption) ?_
    rotate_left
    · intro w hSw; (try dsimp only at hSw); go_simp; try with_reducible rfl
    try simp only [Act.put, List.setIfInBounds_toArray, List.set_cons_zero, List.set_cons_succ]
    refine wpAnyH_take (i := 11) (oi := { dst := some 31, op := Go.Op.move (Go.Operand.tmp 6), type := 3, pos := "l6_tower.go:154", after := #[], guard := none }) (v := ?_) rfl (by kernel_rfl) (by kernel_rfl) (by kernel_rfl) (fun _ _ _ h => h) (Or.inl ⟨by rfl, ?_⟩) (by assumption) ?_
    rotate_left
    · intro w hSw; (try dsimp only at hSw); go_simp; try with_reducible rfl
    try simp only [Act.put, List.setIfInBounds_toArray, List.set_cons_zero, List.set_cons_succ]
    refine wpAnyH_take (i := 12) (oi := { dst := some 32, op := Go.Op.slice 29 (Go.Operand.tmp 30) (some (Go.Operand.tmp 31)) none none, type := 29, pos := "l6_tower.go:154", after := #[{ on := 10, ground := Go.Ground.data }, { on := 11, ground := Go.Ground.data }], guard := none }) (v := ?_) rfl (by kernel_rfl) (by kernel_rfl) (by kernel_rfl) (fun _ _ _ h => h) (Or.inl ⟨by rfl, ?_⟩) (by assumption) ?_
    rotate_left
    · intro w hSw; (try dsimp only at hSw); go_simp; try with_reducible rfl
    try simp only [Act.put, List.setIfInBounds_toArray, List.set_cons_zero, List.set_cons_succ]
    refine wpAnyH_ready (rs := [2, 8, 16]) (by kernel_rfl) (by simp) ?_
    refine AllReadyH.cons (o := { dst := some 22, op := Go.Op.call { callee := Go.Callee.value (Go.Operand.func 70), args := #[Go.Operand.tmp 21], argTypes := #[28] }, type := 28, pos := "l6_tower.go:154", after := #[{ on := 1, ground := Go.Ground.data }], guard := none }) rfl (fun K hK => ?_) ?_
    · go_simp
      refine (cloneTower_any _ ts _ (by rw [← HN.out]; omega) ((NS.next hB0).rd.1)).mono ?_
      rintro e w1 ⟨v, rfl, oT, hb1⟩
      obtain ⟨ad0, cd0, rfl, -⟩ := oT.rd.len
      have o0 := oT.base (B' := wS.heap.size) hB0.size
      try go_simp
      refine hK.out _ _ ?_ (fun hHeld => ?_)
      · exact KB.out _ (hB0.trans (hb1.mono hB0.size))
      clear hK K
      try simp only [Act.put, List.setIfInBounds_toArray, List.set_cons_zero, List.set_cons_succ]
      have hB2 := hB0.trans (hb1.mono hB0.size)
      clear oT
      refine wpAnyH_ready (rs := [8, 16]) (by kernel_rfl) (by simp) ?_
      refine AllReadyH.cons (o := { dst := some 28, op := Go.Op.buildSlice 29 1 #[(0, Go.Operand.tmp 27)], type := 29, pos := "l6_tower.go:154", after := #[{ on := 7, ground := Go.Ground.data }], guard := none }) rfl (fun K hK => ?_) ?_
      · go_simp
        refine hK.out _ _ ?_ (fun hHeld => ?_)
        · exact KB.out _ (hB2.alloc hB2.size _)
        clear hK K
        try simp only [Act.put, List.setIfInBounds_toArray, List.set_cons_zero, List.set_cons_succ]
        refine wpAnyH_name ?_
        intro w3 hw3
        rw [← hw3] at hHeld
        have hb3 := below_alloc hw3
        have z3 := lt_named hw3
        have b0 : w3.cell? ⟨w1.heap.size, 0, none⟩ = some (.int .i64 x0) := by rw [hw3]; simp [go_sem]
        have b1 : w3.cell? ⟨w1.heap.size, 1, none⟩ = some (.int .i64 x1) := by rw [hw3]; simp [go_sem]
        have b2 : w3.cell? ⟨w1.heap.size, 2, none⟩ = some (.int .i64 x2) := by rw [hw3]; simp [go_sem]
        clear hw3
        have o0 := o0.later hb3
        have hB4 := hB2.trans (hb3.mono hB2.size)
        refine wpAnyH_ready (rs := [13, 16]) (by kernel_rfl) (by simp) ?_
        refine AllReadyH.cons (o := { dst := some 33, op := Go.Op.buildSlice 94 3 #[(0, Go.Operand.tmp 26), (1, Go.Operand.tmp 28), (2, Go.Operand.tmp 32)], type := 94, pos := "l6_tower.go:154", after := #[{ on := 6, ground := Go.Ground.data }, { on := 8, ground := Go.Ground.data }, { on := 12, ground := Go.Ground.data }], guard := none }) rfl (fun K hK => ?_) ?_
        · go_simp
          refine hK.out _ _ ?_ (fun hHeld => ?_)
          · exact KB.out _ (hB4.alloc hB4.size _)
          clear hK K
          try simp only [Act.put, List.setIfInBounds_toArray, List.set_cons_zero, List.set_cons_succ]
          refine wpAnyH_name ?_
          intro w5 hw5
          rw [← hw5] at hHeld
          have hb5 := below_alloc hw5
          have z5 := lt_named hw5
          have d0 : w5.cell? ⟨w3.heap.size, 0, none⟩ = some (.slice a5 k p1) := by rw [hw5]; simp [go_sem]
          have d1 := show w5.cell? ⟨w3.heap.size, 1, none⟩ = some _ by rw [hw5]; simp [go_sem]; rfl
          have d2 : w5.cell? ⟨w3.heap.size, 2, none⟩ = some (.slice a6 (m - k) c6) := by rw [hw5]; simp [go_sem]
          have r3 : RdR c3 3 w5 _ [(⟨x0, x1, x2⟩ : T3)] := RdR.one3 ⟨x0, x1, x2⟩ (World.block_lt_of_cell? _ _ (bcell hb5 b0)) (Nat.le_refl _) (by unfold maxLen; decide) (bcell hb5 b0) (bcell hb5 b1) (bcell hb5 b2)
          clear hw5
          have o0 := o0.later hb5
          have b0 := bcell hb5 b0
          have b1 := bcell hb5 b1
          have b2 := bcell hb5 b2
          have hB6 := hB4.trans (hb5.mono hB4.size)
          have hP := fun (y : World) (hy : Below w5.heap.size w5 y) => pk3_parts (bcell hy d0) (bcell hy d1) (bcell hy d2) (HT.out.later ((hB4.trans (hb5.mono hB4.size)).trans (hy.mono (Nat.le_trans hB4.size hb5.size)))) (r3.later hy) (HD.out.later ((hB4.trans (hb5.mono hB4.size)).trans (hy.mono (Nat.le_trans hB4.size hb5.size)))) HL.out.1 HL.out.2.1 HL.out.2.2
          have hpl := z5
          clear d0 d1 d2 r3 b0 b1 b2
          have hPB := Below.refl w5.heap.size w5
          refine wpAnyH_ready (rs := [14, 16]) (by kernel_rfl) (by simp) ?_
          refine AllReadyH.cons (o := { dst := some 34, op := Go.Op.call { callee := Go.Callee.value (Go.Operand.func 71), args := #[Go.Operand.tmp 33], argTypes := #[94] }, type := 29, pos := "l6_tower.go:154", after := #[{ on := 13, ground := Go.Ground.data }, { on := 2, ground := Go.Ground.chain }], guard := none }) rfl (fun K hK => ?_) ?_
          · go_simp
            refine (concatLink_any _ 3 _ _ _ (by decide) (Nat.lt_of_lt_of_le hpl hPB.size) (hP _ hPB)).mono ?_
            rintro e w7 ⟨v, rfl, oL, hb7⟩
            rw [catRLink_three, ← HAD.out] at oL
            obtain ⟨ad3, cd3, rfl, -⟩ := oL.rd.len
            have o3 := oL.base (B' := wS.heap.size) hB6.size
            try go_simp
            refine hK.out _ _ ?_ (fun hHeld => ?_)
            · exact KB.out _ (hB6.trans (hb7.mono hB6.size))
            clear hK K
            try simp only [Act.put, List.setIfInBounds_toArray, List.set_cons_zero, List.set_cons_succ]
            have hPB := hPB.trans (hb7.mono hPB.size)
            have o0 := o0.later hb7
            have hB8 := hB6.trans (hb7.mono hB6.size)
            clear oL hP hPB hpl
            refine wpAnyH_take (i := 15) (oi := { dst := some 35, op := Go.Op.build 31 #[(0, Go.Operand.tmp 22), (1, Go.Operand.tmp 34)], type := 31, pos := "l6_tower.go:154", after := #[{ on := 2, ground := Go.Ground.data }, { on := 14, ground := Go.Ground.data }], guard := none }) (v := ?_) rfl (by kernel_rfl) (by kernel_rfl) (by kernel_rfl) (fun _ _ _ h => h) (Or.inl ⟨by rfl, ?_⟩) (by assumption) ?_
            rotate_left
            · intro w hSw; (try dsimp only at hSw); go_simp; try with_reducible rfl
            try simp only [Act.put, List.setIfInBounds_toArray, List.set_cons_zero, List.set_cons_succ]
            refine wpAnyH_ready (rs := [16]) (by kernel_rfl) (by simp) ?_
            refine AllReadyH.cons (o := { dst := some 8, op := Go.Op.alloc 31, type := 0, pos := "l6_tower.go:154", after := #[], guard := none }) rfl (fun K hK => ?_) AllReadyH.nil
            have o0o := o0
            have o3o := o3
            go_simp
            refine hK.out _ _ ?_ (fun hHeld => ?_)
            · exact KB.out _ (hB8.alloc hB8.size _)
            clear hK K
            try simp only [Act.put, List.setIfInBounds_toArray, List.set_cons_zero, List.set_cons_succ]
            refine wpAnyH_name ?_
            intro w9 hw9
            rw [← hw9] at hHeld
            have hb9 := below_alloc hw9
            have z9 := lt_named hw9
            have OB : Var2 w9 w7.heap.size (.slice none 0 0) (.slice none 0 0) := by rw [hw9]; exact Var2.new _ _ _ _
            have hbl := hB8.size
            clear hw9
            have o0 := o0.later hb9
            have o3 := o3.later hb9
            have hB10 := hB8.trans (hb9.mono hB8.size)
            have hzb := z9
            have ne0 : ∀ k, (Value.slice ad0 ts.length cd0).ownBlock = some k → k ≠ w7.heap.size := fun k hk => by have := (o0o.lt k hk).2; omega
            have ne3 : ∀ k, (Value.slice ad3 (adL ls ⟨x0, x1, x2⟩).length cd3).ownBlock = some k → k ≠ w7.heap.size := fun k hk => by have := (o3o.lt k hk).2; omega
            clear o0o
            clear o3o
            refine wpAnyH_ready (rs := [17]) (by kernel_rfl) (by simp) ?_
            refine AllReadyH.cons (o := { dst := none, op := Go.Op.store 31 (Go.Operand.tmp 8) (Go.Operand.tmp 35), type := 0, pos := "l6_tower.go:154", after := #[{ on := 16, ground := Go.Ground.data }, { on := 15, ground := Go.Ground.data }, { on := 14, ground := Go.Ground.chain }, { on := 0, ground := Go.Ground.phase }, { on := 1, ground := Go.Ground.phase }, { on := 2, ground := Go.Ground.phase }, { on := 3, ground := Go.Ground.phase }, { on := 4, ground := Go.Ground.phase }, { on := 5, ground := Go.Ground.phase }, { on := 6, ground := Go.Ground.phase }, { on := 7, ground := Go.Ground.phase }, { on := 8, ground := Go.Ground.phase }, { on := 9, ground := Go.Ground.phase }, { on := 10, ground := Go.Ground.phase }, { on := 11, ground := Go.Ground.phase }, { on := 12, ground := Go.Ground.phase }, { on := 13, ground := Go.Ground.phase }, { on := 14, ground := Go.Ground.phase }, { on := 15, ground := Go.Ground.phase }, { on := 16, ground := Go.Ground.phase }], guard := none }) rfl (fun K hK => ?_) AllReadyH.nil
            have j0 := OB.c0
            have j1 := OB.c1
            have j2 := OB.f0
            have j3 := OB.f1
            have hbl3 : w.heap.size + 3 ≤ w7.heap.size := by omega
            have NT := ((NS.next hB10).set (o := 0) (u := .slice ad0 ts.length cd0) HR.out (show w.heap.size < w7.heap.size by omega)).set (o := 1) (u := .slice ad3 (adL ls ⟨x0, x1, x2⟩).length cd3) HR.out (show w.heap.size < w7.heap.size by omega)
            have XT := ((XS.next hB10).set (o := 0) (u := .slice ad0 ts.length cd0) (show w7.heap.size ≠ w.heap.size + 1 by omega)).set (o := 1) (u := .slice ad3 (adL ls ⟨x0, x1, x2⟩).length cd3) (show w7.heap.size ≠ w.heap.size + 1 by omega)
            go_simp
            refine hK.out _ _ ?_ (fun hHeld => ?_)
            · exact ⟨NT.b0, NT.b1, XT.c0, XT.c1, XT.c2⟩
            clear hK K
            try simp only [Act.put, List.setIfInBounds_toArray, List.set_cons_zero, List.set_cons_succ]
            refine wpAnyH_done (by kernel_rfl) ?_ _
            have VL := ((VS.next hB10).set (o := 0) (u := .slice ad0 ts.length cd0) (show w7.heap.size ≠ w.heap.size + 2 by omega) ⟨_, OB.c0⟩).set (o := 1) (u := .slice ad3 (adL ls ⟨x0, x1, x2⟩).length cd3) (show w7.heap.size ≠ w.heap.size + 2 by omega) ⟨_, (OB.put0).c1⟩
            have OM := (OB.put0 (u := .slice ad0 ts.length cd0)).put1 (u := .slice ad3 (adL ls ⟨x0, x1, x2⟩).length cd3)
            have q0 := (o0.setFar (b := w7.heap.size) (o := 0) (x := .slice ad0 ts.length cd0) (fun e => ne0 _ e rfl)).setFar (b := w7.heap.size) (o := 1) (x := .slice ad3 (adL ls ⟨x0, x1, x2⟩).length cd3) (fun e => ne0 _ e rfl)
            have q3 := (o3.setFar (b := w7.heap.size) (o := 0) (x := .slice ad0 ts.length cd0) (fun e => ne3 _ e rfl)).setFar (b := w7.heap.size) (o := 1) (x := .slice ad3 (adL ls ⟨x0, x1, x2⟩).length cd3) (fun e => ne3 _ e rfl)
            clear j0 j1 j2 j3 OB hHeld NS XS XT VS HT HD KB ne0 ne3
            generalize (w9.setCell ⟨w7.heap.size, 0, none⟩ (.slice ad0 ts.length cd0)).setCell ⟨w7.heap.size, 1, none⟩ (.slice ad3 (adL ls ⟨x0, x1, x2⟩).length cd3) = WL at *
            generalize w7.heap.size = bo at *
            have j0 := OM.c0
            have j1 := OM.c1
            cases cg : netB ts (adL ls ⟨x0, x1, x2⟩) with
            | false =>
              have HG := Lib.hid cg
              have HF := Lib.hid (ad_f1 cg)
              clear cg
              go_wp2_with fail
              refine (isNet_b _ _ ts _ _ ⟨q0.rd, q3.rd⟩ HG.out).mono ?_
              rintro e wE ⟨rfl, hbE⟩
              have VE := VL.next hbE
              have NE := NT.next hbE
              have r0 := VE.c0
              have r1 := VE.c1
              have s0 := VE.f0
              have s1 := VE.f1
              have sz := VE.lt
              go_wp2
              refine bodyPost_ret (v := .tuple #[.agg #[.slice none 0 0, .slice none 0 0], .bool false]) (by simp [results, Try.results38, go_sem, r0, r1, s0, s1, *]) rfl ⟨.slice none 0 0, .slice none 0 0, by rw [HF.out.1], by rw [HF.out.2.1, HF.out.2.2]; exact OwnN.nil _ _ _, ?_⟩
              exact (NE.below.setCell (p := ⟨w.heap.size + 2, 0, none⟩) (by show w.heap.size ≤ w.heap.size + 2; omega) _).setCell (p := ⟨w.heap.size + 2, 1, none⟩) (by show w.heap.size ≤ w.heap.size + 2; omega) _
            | true =>
              have HG := Lib.hid cg
              have HF := Lib.hid (ad_t H0.out cg)
              clear cg
              go_wp2_with fail
              refine (isNet_b _ _ ts _ _ ⟨q0.rd, q3.rd⟩ HG.out).mono ?_
              rintro e wE ⟨rfl, hbE⟩
              have VE := VL.next hbE
              have NE := NT.next hbE
              have OE := OM.next hbE
              have pE := q0.later hbE
              have pF := q3.later hbE
              have r0 := VE.c0
              have r1 := VE.c1
              have s0 := VE.f0
              have s1 := VE.f1
              have sz := VE.lt
              have j0 := OE.c0
              have j1 := OE.c1
              go_wp2
              refine bodyPost_ret (v := .tuple #[.agg #[.slice ad0 ts.length cd0, .slice ad3 (adL ls ⟨x0, x1, x2⟩).length cd3], .bool true]) (by simp [results, Try.results38, go_sem, r0, r1, s0, s1, j0, j1, sz]) rfl ⟨_, _, by rw [HF.out.1], ?_, ?_⟩
              · rw [HF.out.2.1, HF.out.2.2]
                have u0 := ((pE.setFar (b := w.heap.size + 2) (o := 0) (x := .slice ad0 ts.length cd0) (fun e => by have := (pE.lt _ e).1; omega)).setFar (b := w.heap.size + 2) (o := 1) (x := .slice ad3 (adL ls ⟨x0, x1, x2⟩).length cd3) (fun e => by have := (pE.lt _ e).1; omega)).base (B' := w.heap.size) (by omega)
                have u1 := ((pF.setFar (b := w.heap.size + 2) (o := 0) (x := .slice ad0 ts.length cd0) (fun e => by have := (pF.lt _ e).1; omega)).setFar (b := w.heap.size + 2) (o := 1) (x := .slice ad3 (adL ls ⟨x0, x1, x2⟩).length cd3) (fun e => by have := (pF.lt _ e).1; omega)).base (B' := w.heap.size) (by omega)
                exact ⟨⟨u0, fun k hk => (u0.lt k hk).2⟩, ⟨u1, fun k hk => (u1.lt k hk).2⟩⟩
              · exact (NE.below.setCell (p := ⟨w.heap.size + 2, 0, none⟩) (by show w.heap.size ≤ w.heap.size + 2; omega) _).setCell (p := ⟨w.heap.size + 2, 1, none⟩) (by show w.heap.size ≤ w.heap.size + 2; omega) _
          refine AllReadyH.cons (o := { dst := some 8, op := Go.Op.alloc 31, type := 0, pos := "l6_tower.go:154", after := #[], guard := none }) rfl (fun K hK => ?_) AllReadyH.nil
          have o0o := o0
          go_simp
          refine hK.out _ _ ?_ (fun hHeld => ?_)
          · exact KB.out _ (hB6.alloc hB6.size _)
          clear hK K
          try simp only [Act.put, List.setIfInBounds_toArray, List.set_cons_zero, List.set_cons_succ]
          refine wpAnyH_name ?_
          intro w11 hw11
          rw [← hw11] at hHeld
          have hb11 := below_alloc hw11
          have z11 := lt_named hw11
          have OB : Var2 w11 w5.heap.size (.slice none 0 0) (.slice none 0 0) := by rw [hw11]; exact Var2.new _ _ _ _
          have hbl := hB6.size
          clear hw11
          have hPB := hPB.trans (hb11.mono hPB.size)
          have o0 := o0.later hb11
          have hB12 := hB6.trans (hb11.mono hB6.size)
          have hzb := z11
          have ne0 : ∀ k, (Value.slice ad0 ts.length cd0).ownBlock = some k → k ≠ w5.heap.size := fun k hk => by have := (o0o.lt k hk).2; omega
          clear o0o
          refine wpAnyH_ready (rs := [14]) (by kernel_rfl) (by simp) ?_
          refine AllReadyH.cons (o := { dst := some 34, op := Go.Op.call { callee := Go.Callee.value (Go.Operand.func 71), args := #[Go.Operand.tmp 33], argTypes := #[94] }, type := 29, pos := "l6_tower.go:154", after := #[{ on := 13, ground := Go.Ground.data }, { on := 2, ground := Go.Ground.chain }], guard := none }) rfl (fun K hK => ?_) AllReadyH.nil
          go_simp
          refine (concatLink_any _ 3 _ _ _ (by decide) (Nat.lt_of_lt_of_le hpl hPB.size) (hP _ hPB)).mono ?_
          rintro e w13 ⟨v, rfl, oL, hb13⟩
          rw [catRLink_three, ← HAD.out] at oL
          obtain ⟨ad3, cd3, rfl, -⟩ := oL.rd.len
          have o3 := oL.base (B' := wS.heap.size) hB12.size
          try go_simp
          refine hK.out _ _ ?_ (fun hHeld => ?_)
          · exact KB.out _ (hB12.trans (hb13.mono hB12.size))
          clear hK K
          try simp only [Act.put, List.setIfInBounds_toArray, List.set_cons_zero, List.set_cons_succ]
          have hPB := hPB.trans (hb13.mono hPB.size)
          have hzb := Nat.lt_of_lt_of_le hzb hb13.size
          have o0 := o0.later hb13
          have OB := OB.next hb13
          have hB14 := hB12.trans (hb13.mono hB12.size)
          have ne3 : ∀ k, (Value.slice ad3 (adL ls ⟨x0, x1, x2⟩).length cd3).ownBlock = some k → k ≠ w5.heap.size := fun k hk => by have := (oL.lt k hk).1; have := hzb; omega
          clear oL hP hPB hpl
          refine wpAnyH_take (i := 15) (oi := { dst := some 35, op := Go.Op.build 31 #[(0, Go.Operand.tmp 22), (1, Go.Operand.tmp 34)], type := 31, pos := "l6_tower.go:154", after := #[{ on := 2, ground := Go.Ground.data }, { on := 14, ground := Go.Ground.data }], guard := none }) (v := ?_) rfl (by kernel_rfl) (by kernel_rfl) (by kernel_rfl) (fun _ _ _ h => h) (Or.inl ⟨by rfl, ?_⟩) (by assumption) ?_
          rotate_left
          · intro w hSw; (try dsimp only at hSw); go_simp; try with_reducible rfl
          try simp only [Act.put, List.setIfInBounds_toArray, List.set_cons_zero, List.set_cons_succ]
          refine wpAnyH_ready (rs := [17]) (by kernel_rfl) (by simp) ?_
          refine AllReadyH.cons (o := { dst := none, op := Go.Op.store 31 (Go.Operand.tmp 8) (Go.Operand.tmp 35), type := 0, pos := "l6_tower.go:154", after := #[{ on := 16, ground := Go.Ground.data }, { on := 15, ground := Go.Ground.data }, { on := 14, ground := Go.Ground.chain }, { on := 0, ground := Go.Ground.phase }, { on := 1, ground := Go.Ground.phase }, { on := 2, ground := Go.Ground.phase }, { on := 3, ground := Go.Ground.phase }, { on := 4, ground := Go.Ground.phase }, { on := 5, ground := Go.Ground.phase }, { on := 6, ground := Go.Ground.phase }, { on := 7, ground := Go.Ground.phase }, { on := 8, ground := Go.Ground.phase }, { on := 9, ground := Go.Ground.phase }, { on := 10, ground := Go.Ground.phase }, { on := 11, ground := Go.Ground.phase }, { on := 12, ground := Go.Ground.phase }, { on := 13, ground := Go.Ground.phase }, { on := 14, ground := Go.Ground.phase }, { on := 15, ground := Go.Ground.phase }, { on := 16, ground := Go.Ground.phase }], guard := none }) rfl (fun K hK => ?_) AllReadyH.nil
          have j0 := OB.c0
          have j1 := OB.c1
          have j2 := OB.f0
          have j3 := OB.f1
          have hbl3 : w.heap.size + 3 ≤ w5.heap.size := by omega
          have NT := ((NS.next hB14).set (o := 0) (u := .slice ad0 ts.length cd0) HR.out (show w.heap.size < w5.heap.size by omega)).set (o := 1) (u := .slice ad3 (adL ls ⟨x0, x1, x2⟩).length cd3) HR.out (show w.heap.size < w5.heap.size by omega)
          have XT := ((XS.next hB14).set (o := 0) (u := .slice ad0 ts.length cd0) (show w5.heap.size ≠ w.heap.size + 1 by omega)).set (o := 1) (u := .slice ad3 (adL ls ⟨x0, x1, x2⟩).length cd3) (show w5.heap.size ≠ w.heap.size + 1 by omega)
          go_simp
          refine hK.out _ _ ?_ (fun hHeld => ?_)
          · exact ⟨NT.b0, NT.b1, XT.c0, XT.c1, XT.c2⟩
          clear hK K
          try simp only [Act.put, List.setIfInBounds_toArray, List.set_cons_zero, List.set_cons_succ]
          refine wpAnyH_done (by kernel_rfl) ?_ _
          have VL := ((VS.next hB14).set (o := 0) (u := .slice ad0 ts.length cd0) (show w5.heap.size ≠ w.heap.size + 2 by omega) ⟨_, OB.c0⟩).set (o := 1) (u := .slice ad3 (adL ls ⟨x0, x1, x2⟩).length cd3) (show w5.heap.size ≠ w.heap.size + 2 by omega) ⟨_, (OB.put0).c1⟩
          have OM := (OB.put0 (u := .slice ad0 ts.length cd0)).put1 (u := .slice ad3 (adL ls ⟨x0, x1, x2⟩).length cd3)
          have q0 := (o0.setFar (b := w5.heap.size) (o := 0) (x := .slice ad0 ts.length cd0) (fun e => ne0 _ e rfl)).setFar (b := w5.heap.size) (o := 1) (x := .slice ad3 (adL ls ⟨x0, x1, x2⟩).length cd3) (fun e => ne0 _ e rfl)
          have q3 := (o3.setFar (b := w5.heap.size) (o := 0) (x := .slice ad0 ts.length cd0) (fun e => ne3 _ e rfl)).setFar (b := w5.heap.size) (o := 1) (x := .slice ad3 (adL ls ⟨x0, x1, x2⟩).length cd3) (fun e => ne3 _ e rfl)
          clear j0 j1 j2 j3 OB hHeld NS XS XT VS HT HD KB ne0 ne3
          generalize (w13.setCell ⟨w5.heap.size, 0, none⟩ (.slice ad0 ts.length cd0)).setCell ⟨w5.heap.size, 1, none⟩ (.slice ad3 (adL ls ⟨x0, x1, x2⟩).length cd3) = WL at *
          generalize w5.heap.size = bo at *
          have j0 := OM.c0
          have j1 := OM.c1
          cases cg : netB ts (adL ls ⟨x0, x1, x2⟩) with
          | false =>
            have HG := Lib.hid cg
            have HF := Lib.hid (ad_f1 cg)
            clear cg
            go_wp2_with fail
            refine (isNet_b _ _ ts _ _ ⟨q0.rd, q3.rd⟩ HG.out).mono ?_
            rintro e wE ⟨rfl, hbE⟩
            have VE := VL.next hbE
            have NE := NT.next hbE
            have r0 := VE.c0
            have r1 := VE.c1
            have s0 := VE.f0
            have s1 := VE.f1
            have sz := VE.lt
            go_wp2
            refine bodyPost_ret (v := .tuple #[.agg #[.slice none 0 0, .slice none 0 0], .bool false]) (by simp [results, Try.results38, go_sem, r0, r1, s0, s1, *]) rfl ⟨.slice none 0 0, .slice none 0 0, by rw [HF.out.1], by rw [HF.out.2.1, HF.out.2.2]; exact OwnN.nil _ _ _, ?_⟩
            exact (NE.below.setCell (p := ⟨w.heap.size + 2, 0, none⟩) (by show w.heap.size ≤ w.heap.size + 2; omega) _).setCell (p := ⟨w.heap.size + 2, 1, none⟩) (by show w.heap.size ≤ w.heap.size + 2; omega) _
          | true =>
            have HG := Lib.hid cg
            have HF := Lib.hid (ad_t H0.out cg)
            clear cg
            go_wp2_with fail
            refine (isNet_b _ _ ts _ _ ⟨q0.rd, q3.rd⟩ HG.out).mono ?_
            rintro e wE ⟨rfl, hbE⟩
            have VE := VL.next hbE
            have NE := NT.next hbE
            have OE := OM.next hbE
            have pE := q0.later hbE
            have pF := q3.later hbE
            have r0 := VE.c0
            have r1 := VE.c1
            have s0 := VE.f0
            have s1 := VE.f1
            have sz := VE.lt
            have j0 := OE.c0
            have j1 := OE.c1
            go_wp2
            refine bodyPost_ret (v := .tuple #[.agg #[.slice ad0 ts.length cd0, .slice ad3 (adL ls ⟨x0, x1, x2⟩).length cd3], .bool true]) (by simp [results, Try.results38, go_sem, r0, r1, s0, s1, j0, j1, sz]) rfl ⟨_, _, by rw [HF.out.1], ?_, ?_⟩
            · rw [HF.out.2.1, HF.out.2.2]
              have u0 := ((pE.setFar (b := w.heap.size + 2) (o := 0) (x := .slice ad0 ts.length cd0) (fun e => by have := (pE.lt _ e).1; omega)).setFar (b := w.heap.size + 2) (o := 1) (x := .slice ad3 (adL ls ⟨x0, x1, x2⟩).length cd3) (fun e => by have := (pE.lt _ e).1; omega)).base (B' := w.heap.size) (by omega)
              have u1 := ((pF.setFar (b := w.heap.size + 2) (o := 0) (x := .slice ad0 ts.length cd0) (fun e => by have := (pF.lt _ e).1; omega)).setFar (b := w.heap.size + 2) (o := 1) (x := .slice ad3 (adL ls ⟨x0, x1, x2⟩).length cd3) (fun e => by have := (pF.lt _ e).1; omega)).base (B' := w.heap.size) (by omega)
              exact ⟨⟨u0, fun k hk => (u0.lt k hk).2⟩, ⟨u1, fun k hk => (u1.lt k hk).2⟩⟩
            · exact (NE.below.setCell (p := ⟨w.heap.size + 2, 0, none⟩) (by show w.heap.size ≤ w.heap.size + 2; omega) _).setCell (p := ⟨w.heap.size + 2, 1, none⟩) (by show w.heap.size ≤ w.heap.size + 2; omega) _
        refine AllReadyH.cons (o := { dst := some 8, op := Go.Op.alloc 31, type := 0, pos := "l6_tower.go:154", after := #[], guard := none }) rfl (fun K hK => ?_) AllReadyH.nil
        have o0o := o0
        go_simp
        refine hK.out _ _ ?_ (fun hHeld => ?_)
        · exact KB.out _ (hB4.alloc hB4.size _)
        clear hK K
        try simp only [Act.put, List.setIfInBounds_toArray, List.set_cons_zero, List.set_cons_succ]
        refine wpAnyH_name ?_
        intro w15 hw15
        rw [← hw15] at hHeld
        have hb15 := below_alloc hw15
        have z15 := lt_named hw15
        have OB : Var2 w15 w3.heap.size (.slice none 0 0) (.slice none 0 0) := by rw [hw15]; exact Var2.new _ _ _ _
        have hbl := hB4.size
        clear hw15
        have o0 := o0.later hb15
        have b0 := bcell hb15 b0
        have b1 := bcell hb15 b1
        have b2 := bcell hb15 b2
        have hB16 := hB4.trans (hb15.mono hB4.size)
        have hzb := z15
        have ne0 : ∀ k, (Value.slice ad0 ts.length cd0).ownBlock = some k → k ≠ w3.heap.size := fun k hk => by have := (o0o.lt k hk).2; omega
        clear o0o
        refine wpAnyH_ready (rs := [13]) (by kernel_rfl) (by simp) ?_
        refine AllReadyH.cons (o := { dst := some 33, op := Go.Op.buildSlice 94 3 #[(0, Go.Operand.tmp 26), (1, Go.Operand.tmp 28), (2, Go.Operand.tmp 32)], type := 94, pos := "l6_tower.go:154", after := #[{ on := 6, ground := Go.Ground.data }, { on := 8, ground := Go.Ground.data }, { on := 12, ground := Go.Ground.data }], guard := none }) rfl (fun K hK => ?_) AllReadyH.nil
        go_simp
        refine hK.out _ _ ?_ (fun hHeld => ?_)
        · exact KB.out _ (hB16.alloc hB16.size _)
        clear hK K
        try simp only [Act.put, List.setIfInBounds_toArray, List.set_cons_zero, List.set_cons_succ]
        refine wpAnyH_name ?_
        intro w17 hw17
        rw [← hw17] at hHeld
        have hb17 := below_alloc hw17
        have z17 := lt_named hw17
        have d0 : w17.cell? ⟨w15.heap.size, 0, none⟩ = some (.slice a5 k p1) := by rw [hw17]; simp [go_sem]
        have d1 := show w17.cell? ⟨w15.heap.size, 1, none⟩ = some _ by rw [hw17]; simp [go_sem]; rfl
        have d2 : w17.cell? ⟨w15.heap.size, 2, none⟩ = some (.slice a6 (m - k) c6) := by rw [hw17]; simp [go_sem]
        have r3 : RdR c3 3 w17 _ [(⟨x0, x1, x2⟩ : T3)] := RdR.one3 ⟨x0, x1, x2⟩ (World.block_lt_of_cell? _ _ (bcell hb17 b0)) (Nat.le_refl _) (by unfold maxLen; decide) (bcell hb17 b0) (bcell hb17 b1) (bcell hb17 b2)
        clear hw17
        have hzb := Nat.lt_of_lt_of_le hzb hb17.size
        have o0 := o0.later hb17
        have b0 := bcell hb17 b0
        have b1 := bcell hb17 b1
        have b2 := bcell hb17 b2
        have OB := OB.next hb17
        have hB18 := hB16.trans (hb17.mono hB16.size)
        have hP := fun (y : World) (hy : Below w17.heap.size w17 y) => pk3_parts (bcell hy d0) (bcell hy d1) (bcell hy d2) (HT.out.later ((hB16.trans (hb17.mono hB16.size)).trans (hy.mono (Nat.le_trans hB16.size hb17.size)))) (r3.later hy) (HD.out.later ((hB16.trans (hb17.mono hB16.size)).trans (hy.mono (Nat.le_trans hB16.size hb17.size)))) HL.out.1 HL.out.2.1 HL.out.2.2
        have hpl := z17
        clear d0 d1 d2 r3 b0 b1 b2
        have hPB := Below.refl w17.heap.size w17
        refine wpAnyH_ready (rs := [14]) (by kernel_rfl) (by simp) ?_
        refine AllReadyH.cons (o := { dst := some 34, op := Go.Op.call { callee := Go.Callee.value (Go.Operand.func 71), args := #[Go.Operand.tmp 33], argTypes := #[94] }, type := 29, pos := "l6_tower.go:154", after := #[{ on := 13, ground := Go.Ground.data }, { on := 2, ground := Go.Ground.chain }], guard := none }) rfl (fun K hK => ?_) AllReadyH.nil
        go_simp
        refine (concatLink_any _ 3 _ _ _ (by decide) (Nat.lt_of_lt_of_le hpl hPB.size) (hP _ hPB)).mono ?_
        rintro e w19 ⟨v, rfl, oL, hb19⟩
        rw [catRLink_three, ← HAD.out] at oL
        obtain ⟨ad3, cd3, rfl, -⟩ := oL.rd.len
        have o3 := oL.base (B' := wS.heap.size) hB18.size
        try go_simp
        refine hK.out _ _ ?_ (fun hHeld => ?_)
        · exact KB.out _ (hB18.trans (hb19.mono hB18.size))
        clear hK K
        try simp only [Act.put, List.setIfInBounds_toArray, List.set_cons_zero, List.set_cons_succ]
        have hPB := hPB.trans (hb19.mono hPB.size)
        have hzb := Nat.lt_of_lt_of_le hzb hb19.size
        have o0 := o0.later hb19
        have OB := OB.next hb19
        have hB20 := hB18.trans (hb19.mono hB18.size)
        have ne3 : ∀ k, (Value.slice ad3 (adL ls ⟨x0, x1, x2⟩).length cd3).ownBlock = some k → k ≠ w3.heap.size := fun k hk => by have := (oL.lt k hk).1; have := hzb; omega
        clear oL hP hPB hpl
        refine wpAnyH_take (i := 15) (oi := { dst := some 35, op := Go.Op.build 31 #[(0, Go.Operand.tmp 22), (1, Go.Operand.tmp 34)], type := 31, pos := "l6_tower.go:154", after := #[{ on := 2, ground := Go.Ground.data }, { on := 14, ground := Go.Ground.data }], guard := none }) (v := ?_) rfl (by kernel_rfl) (by kernel_rfl) (by kernel_rfl) (fun _ _ _ h => h) (Or.inl ⟨by rfl, ?_⟩) (by assumption) ?_
        rotate_left
        · intro w hSw; (try dsimp only at hSw); go_simp; try with_reducible rfl
        try simp only [Act.put, List.setIfInBounds_toArray, List.set_cons_zero, List.set_cons_succ]
        refine wpAnyH_ready (rs := [17]) (by kernel_rfl) (by simp) ?_
        refine AllReadyH.cons (o := { dst := none, op := Go.Op.store 31 (Go.Operand.tmp 8) (Go.Operand.tmp 35), type := 0, pos := "l6_tower.go:154", after := #[{ on := 16, ground := Go.Ground.data }, { on := 15, ground := Go.Ground.data }, { on := 14, ground := Go.Ground.chain }, { on := 0, ground := Go.Ground.phase }, { on := 1, ground := Go.Ground.phase }, { on := 2, ground := Go.Ground.phase }, { on := 3, ground := Go.Ground.phase }, { on := 4, ground := Go.Ground.phase }, { on := 5, ground := Go.Ground.phase }, { on := 6, ground := Go.Ground.phase }, { on := 7, ground := Go.Ground.phase }, { on := 8, ground := Go.Ground.phase }, { on := 9, ground := Go.Ground.phase }, { on := 10, ground := Go.Ground.phase }, { on := 11, ground := Go.Ground.phase }, { on := 12, ground := Go.Ground.phase }, { on := 13, ground := Go.Ground.phase }, { on := 14, ground := Go.Ground.phase }, { on := 15, ground := Go.Ground.phase }, { on := 16, ground := Go.Ground.phase }], guard := none }) rfl (fun K hK => ?_) AllReadyH.nil
        have j0 := OB.c0
        have j1 := OB.c1
        have j2 := OB.f0
        have j3 := OB.f1
        have hbl3 : w.heap.size + 3 ≤ w3.heap.size := by omega
        have NT := ((NS.next hB20).set (o := 0) (u := .slice ad0 ts.length cd0) HR.out (show w.heap.size < w3.heap.size by omega)).set (o := 1) (u := .slice ad3 (adL ls ⟨x0, x1, x2⟩).length cd3) HR.out (show w.heap.size < w3.heap.size by omega)
        have XT := ((XS.next hB20).set (o := 0) (u := .slice ad0 ts.length cd0) (show w3.heap.size ≠ w.heap.size + 1 by omega)).set (o := 1) (u := .slice ad3 (adL ls ⟨x0, x1, x2⟩).length cd3) (show w3.heap.size ≠ w.heap.size + 1 by omega)
        go_simp
        refine hK.out _ _ ?_ (fun hHeld => ?_)
        · exact ⟨NT.b0, NT.b1, XT.c0, XT.c1, XT.c2⟩
        clear hK K
        try simp only [Act.put, List.setIfInBounds_toArray, List.set_cons_zero, List.set_cons_succ]
        refine wpAnyH_done (by kernel_rfl) ?_ _
        have VL := ((VS.next hB20).set (o := 0) (u := .slice ad0 ts.length cd0) (show w3.heap.size ≠ w.heap.size + 2 by omega) ⟨_, OB.c0⟩).set (o := 1) (u := .slice ad3 (adL ls ⟨x0, x1, x2⟩).length cd3) (show w3.heap.size ≠ w.heap.size + 2 by omega) ⟨_, (OB.put0).c1⟩
        have OM := (OB.put0 (u := .slice ad0 ts.length cd0)).put1 (u := .slice ad3 (adL ls ⟨x0, x1, x2⟩).length cd3)
        have q0 := (o0.setFar (b := w3.heap.size) (o := 0) (x := .slice ad0 ts.length cd0) (fun e => ne0 _ e rfl)).setFar (b := w3.heap.size) (o := 1) (x := .slice ad3 (adL ls ⟨x0, x1, x2⟩).length cd3) (fun e => ne0 _ e rfl)
        have q3 := (o3.setFar (b := w3.heap.size) (o := 0) (x := .slice ad0 ts.length cd0) (fun e => ne3 _ e rfl)).setFar (b := w3.heap.size) (o := 1) (x := .slice ad3 (adL ls ⟨x0, x1, x2⟩).length cd3) (fun e => ne3 _ e rfl)
        clear j0 j1 j2 j3 OB hHeld NS XS XT VS HT HD KB ne0 ne3
        generalize (w19.setCell ⟨w3.heap.size, 0, none⟩ (.slice ad0 ts.length cd0)).setCell ⟨w3.heap.size, 1, none⟩ (.slice ad3 (adL ls ⟨x0, x1, x2⟩).length cd3) = WL at *
        generalize w3.heap.size = bo at *
        have j0 := OM.c0
        have j1 := OM.c1
        cases cg : netB ts (adL ls ⟨x0, x1, x2⟩) with
        | false =>
          have HG := Lib.hid cg
          have HF := Lib.hid (ad_f1 cg)
          clear cg
          go_wp2_with fail
          refine (isNet_b _ _ ts _ _ ⟨q0.rd, q3.rd⟩ HG.out).mono ?_
          rintro e wE ⟨rfl, hbE⟩
          have VE := VL.next hbE
          have NE := NT.next hbE
          have r0 := VE.c0
          have r1 := VE.c1
          have s0 := VE.f0
          have s1 := VE.f1
          have sz := VE.lt
          go_wp2
          refine bodyPost_ret (v := .tuple #[.agg #[.slice none 0 0, .slice none 0 0], .bool false]) (by simp [results, Try.results38, go_sem, r0, r1, s0, s1, *]) rfl ⟨.slice none 0 0, .slice none 0 0, by rw [HF.out.1], by rw [HF.out.2.1, HF.out.2.2]; exact OwnN.nil _ _ _, ?_⟩
          exact (NE.below.setCell (p := ⟨w.heap.size + 2, 0, none⟩) (by show w.heap.size ≤ w.heap.size + 2; omega) _).setCell (p := ⟨w.heap.size + 2, 1, none⟩) (by show w.heap.size ≤ w.heap.size + 2; omega) _
        | true =>
          have HG := Lib.hid cg
          have HF := Lib.hid (ad_t H0.out cg)
          clear cg
          go_wp2_with fail
          refine (isNet_b _ _ ts _ _ ⟨q0.rd, q3.rd⟩ HG.out).mono ?_
          rintro e wE ⟨rfl, hbE⟩
          have VE := VL.next hbE
          have NE := NT.next hbE
          have OE := OM.next hbE
          have pE := q0.later hbE
          have pF := q3.later hbE
          have r0 := VE.c0
          have r1 := VE.c1
          have s0 := VE.f0
          have s1 := VE.f1
          have sz := VE.lt
          have j0 := OE.c0
          have j1 := OE.c1
          go_wp2
          refine bodyPost_ret (v := .tuple #[.agg #[.slice ad0 ts.length cd0, .slice ad3 (adL ls ⟨x0, x1, x2⟩).length cd3], .bool true]) (by simp [results, Try.results38, go_sem, r0, r1, s0, s1, j0, j1, sz]) rfl ⟨_, _, by rw [HF.out.1], ?_, ?_⟩
          · rw [HF.out.2.1, HF.out.2.2]
            have u0 := ((pE.setFar (b := w.heap.size + 2) (o := 0) (x := .slice ad0 ts.length cd0) (fun e => by have := (pE.lt _ e).1; omega)).setFar (b := w.heap.size + 2) (o := 1) (x := .slice ad3 (adL ls ⟨x0, x1, x2⟩).length cd3) (fun e => by have := (pE.lt _ e).1; omega)).base (B' := w.heap.size) (by omega)
            have u1 := ((pF.setFar (b := w.heap.size + 2) (o := 0) (x := .slice ad0 ts.length cd0) (fun e => by have := (pF.lt _ e).1; omega)).setFar (b := w.heap.size + 2) (o := 1) (x := .slice ad3 (adL ls ⟨x0, x1, x2⟩).length cd3) (fun e => by have := (pF.lt _ e).1; omega)).base (B' := w.heap.size) (by omega)
            exact ⟨⟨u0, fun k hk => (u0.lt k hk).2⟩, ⟨u1, fun k hk => (u1.lt k hk).2⟩⟩
          · exact (NE.below.setCell (p := ⟨w.heap.size + 2, 0, none⟩) (by show w.heap.size ≤ w.heap.size + 2; omega) _).setCell (p := ⟨w.heap.size + 2, 1, none⟩) (by show w.heap.size ≤ w.heap.size + 2; omega) _
      refine AllReadyH.cons (o := { dst := some 8, op := Go.Op.alloc 31, type := 0, pos := "l6_tower.go:154", after := #[], guard := none }) rfl (fun K hK => ?_) AllReadyH.nil
      have o0o := o0
      go_simp
      refine hK.out _ _ ?_ (fun hHeld => ?_)
      · exact KB.out _ (hB2.alloc hB2.size _)
      clear hK K
      try simp only [Act.put, List.setIfInBounds_toArray, List.set_cons_zero, List.set_cons_succ]
      refine wpAnyH_name ?_
      intro w21 hw21
      rw [← hw21] at hHeld
      have hb21 := below_alloc hw21
      have z21 := lt_named hw21
      have OB : Var2 w21 w1.heap.size (.slice none 0 0) (.slice none 0 0) := by rw [hw21]; exact Var2.new _ _ _ _
      have hbl := hB2.size
      clear hw21
      have o0 := o0.later hb21
      have hB22 := hB2.trans (hb21.mono hB2.size)
      have hzb := z21
      have ne0 : ∀ k, (Value.slice ad0 ts.length cd0).ownBlock = some k → k ≠ w1.heap.size := fun k hk => by have := (o0o.lt k hk).2; omega
      clear o0o
      refine wpAnyH_ready (rs := [8]) (by kernel_rfl) (by simp) ?_
      refine AllReadyH.cons (o := { dst := some 28, op := Go.Op.buildSlice 29 1 #[(0, Go.Operand.tmp 27)], type := 29, pos := "l6_tower.go:154", after := #[{ on := 7, ground := Go.Ground.data }], guard := none }) rfl (fun K hK => ?_) AllReadyH.nil
      go_simp
      refine hK.out _ _ ?_ (fun hHeld => ?_)
      · exact KB.out _ (hB22.alloc hB22.size _)
      clear hK K
      try simp only [Act.put, List.setIfInBounds_toArray, List.set_cons_zero, List.set_cons_succ]
      refine wpAnyH_name ?_
      intro w23 hw23
      rw [← hw23] at hHeld
      have hb23 := below_alloc hw23
      have z23 := lt_named hw23
      have b0 : w23.cell? ⟨w21.heap.size, 0, none⟩ = some (.int .i64 x0) := by rw [hw23]; simp [go_sem]
      have b1 : w23.cell? ⟨w21.heap.size, 1, none⟩ = some (.int .i64 x1) := by rw [hw23]; simp [go_sem]
      have b2 : w23.cell? ⟨w21.heap.size, 2, none⟩ = some (.int .i64 x2) := by rw [hw23]; simp [go_sem]
      clear hw23
      have hzb := Nat.lt_of_lt_of_le hzb hb23.size
      have o0 := o0.later hb23
      have OB := OB.next hb23
      have hB24 := hB22.trans (hb23.mono hB22.size)
      refine wpAnyH_ready (rs := [13]) (by kernel_rfl) (by simp) ?_
      refine AllReadyH.cons (o := { dst := some 33, op := Go.Op.buildSlice 94 3 #[(0, Go.Operand.tmp 26), (1, Go.Operand.tmp 28), (2, Go.Operand.tmp 32)], type := 94, pos := "l6_tower.go:154", after := #[{ on := 6, ground := Go.Ground.data }, { on := 8, ground := Go.Ground.data }, { on := 12, ground := Go.Ground.data }], guard := none }) rfl (fun K hK => ?_) AllReadyH.nil
      go_simp
      refine hK.out _ _ ?_ (fun hHeld => ?_)
      · exact KB.out _ (hB24.alloc hB24.size _)
      clear hK K
      try simp only [Act.put, List.setIfInBounds_toArray, List.set_cons_zero, List.set_cons_succ]
      refine wpAnyH_name ?_
      intro w25 hw25
      rw [← hw25] at hHeld
      have hb25 := below_alloc hw25
      have z25 := lt_named hw25
      have d0 : w25.cell? ⟨w23.heap.size, 0, none⟩ = some (.slice a5 k p1) := by rw [hw25]; simp [go_sem]
      have d1 := show w25.cell? ⟨w23.heap.size, 1, none⟩ = some _ by rw [hw25]; simp [go_sem]; rfl
      have d2 : w25.cell? ⟨w23.heap.size, 2, none⟩ = some (.slice a6 (m - k) c6) := by rw [hw25]; simp [go_sem]
      have r3 : RdR c3 3 w25 _ [(⟨x0, x1, x2⟩ : T3)] := RdR.one3 ⟨x0, x1, x2⟩ (World.block_lt_of_cell? _ _ (bcell hb25 b0)) (Nat.le_refl _) (by unfold maxLen; decide) (bcell hb25 b0) (bcell hb25 b1) (bcell hb25 b2)
      clear hw25
      have hzb := Nat.lt_of_lt_of_le hzb hb25.size
      have o0 := o0.later hb25
      have b0 := bcell hb25 b0
      have b1 := bcell hb25 b1
      have b2 := bcell hb25 b2
      have OB := OB.next hb25
      have hB26 := hB24.trans (hb25.mono hB24.size)
      have hP := fun (y : World) (hy : Below w25.heap.size w25 y) => pk3_parts (bcell hy d0) (bcell hy d1) (bcell hy d2) (HT.out.later ((hB24.trans (hb25.mono hB24.size)).trans (hy.mono (Nat.le_trans hB24.size hb25.size)))) (r3.later hy) (HD.out.later ((hB24.trans (hb25.mono hB24.size)).trans (hy.mono (Nat.le_trans hB24.size hb25.size)))) HL.out.1 HL.out.2.1 HL.out.2.2
      have hpl := z25
      clear d0 d1 d2 r3 b0 b1 b2
      have hPB := Below.refl w25.heap.size w25
      refine wpAnyH_ready (rs := [14]) (by kernel_rfl) (by simp) ?_
      refine AllReadyH.cons (o := { dst := some 34, op := Go.Op.call { callee := Go.Callee.value (Go.Operand.func 71), args := #[Go.Operand.tmp 33], argTypes := #[94] }, type := 29, pos := "l6_tower.go:154", after := #[{ on := 13, ground := Go.Ground.data }, { on := 2, ground := Go.Ground.chain }], guard := none }) rfl (fun K hK => ?_) AllReadyH.nil
      go_simp
      refine (concatLink_any _ 3 _ _ _ (by decide) (Nat.lt_of_lt_of_le hpl hPB.size) (hP _ hPB)).mono ?_
      rintro e w27 ⟨v, rfl, oL, hb27⟩
      rw [catRLink_three, ← HAD.out] at oL
      obtain ⟨ad3, cd3, rfl, -⟩ := oL.rd.len
      have o3 := oL.base (B' := wS.heap.size) hB26.size
      try go_simp
      refine hK.out _ _ ?_ (fun hHeld => ?_)
      · exact KB.out _ (hB26.trans (hb27.mono hB26.size))
      clear hK K
      try simp only [Act.put, List.setIfInBounds_toArray, List.set_cons_zero, List.set_cons_succ]
      have hPB := hPB.trans (hb27.mono hPB.size)
      have hzb := Nat.lt_of_lt_of_le hzb hb27.size
      have o0 := o0.later hb27
      have OB := OB.next hb27
      have hB28 := hB26.trans (hb27.mono hB26.size)
      have ne3 : ∀ k, (Value.slice ad3 (adL ls ⟨x0, x1, x2⟩).length cd3).ownBlock = some k → k ≠ w1.heap.size := fun k hk => by have := (oL.lt k hk).1; have := hzb; omega
      clear oL hP hPB hpl
      refine wpAnyH_take (i := 15) (oi := { dst := some 35, op := Go.Op.build 31 #[(0, Go.Operand.tmp 22), (1, Go.Operand.tmp 34)], type := 31, pos := "l6_tower.go:154", after := #[{ on := 2, ground := Go.Ground.data }, { on := 14, ground := Go.Ground.data }], guard := none }) (v := ?_) rfl (by kernel_rfl) (by kernel_rfl) (by kernel_rfl) (fun _ _ _ h => h) (Or.inl ⟨by rfl, ?_⟩) (by assumption) ?_
      rotate_left
      · intro w hSw; (try dsimp only at hSw); go_simp; try with_reducible rfl
      try simp only [Act.put, List.setIfInBounds_toArray, List.set_cons_zero, List.set_cons_succ]
      refine wpAnyH_ready (rs := [17]) (by kernel_rfl) (by simp) ?_
      refine AllReadyH.cons (o := { dst := none, op := Go.Op.store 31 (Go.Operand.tmp 8) (Go.Operand.tmp 35), type := 0, pos := "l6_tower.go:154", after := #[{ on := 16, ground := Go.Ground.data }, { on := 15, ground := Go.Ground.data }, { on := 14, ground := Go.Ground.chain }, { on := 0, ground := Go.Ground.phase }, { on := 1, ground := Go.Ground.phase }, { on := 2, ground := Go.Ground.phase }, { on := 3, ground := Go.Ground.phase }, { on := 4, ground := Go.Ground.phase }, { on := 5, ground := Go.Ground.phase }, { on := 6, ground := Go.Ground.phase }, { on := 7, ground := Go.Ground.phase }, { on := 8, ground := Go.Ground.phase }, { on := 9, ground := Go.Ground.phase }, { on := 10, ground := Go.Ground.phase }, { on := 11, ground := Go.Ground.phase }, { on := 12, ground := Go.Ground.phase }, { on := 13, ground := Go.Ground.phase }, { on := 14, ground := Go.Ground.phase }, { on := 15, ground := Go.Ground.phase }, { on := 16, ground := Go.Ground.phase }], guard := none }) rfl (fun K hK => ?_) AllReadyH.nil
      have j0 := OB.c0
      have j1 := OB.c1
      have j2 := OB.f0
      have j3 := OB.f1
      have hbl3 : w.heap.size + 3 ≤ w1.heap.size := by omega
      have NT := ((NS.next hB28).set (o := 0) (u := .slice ad0 ts.length cd0) HR.out (show w.heap.size < w1.heap.size by omega)).set (o := 1) (u := .slice ad3 (adL ls ⟨x0, x1, x2⟩).length cd3) HR.out (show w.heap.size < w1.heap.size by omega)
      have XT := ((XS.next hB28).set (o := 0) (u := .slice ad0 ts.length cd0) (show w1.heap.size ≠ w.heap.size + 1 by omega)).set (o := 1) (u := .slice ad3 (adL ls ⟨x0, x1, x2⟩).length cd3) (show w1.heap.size ≠ w.heap.size + 1 by omega)
      go_simp
      refine hK.out _ _ ?_ (fun hHeld => ?_)
      · exact ⟨NT.b0, NT.b1, XT.c0, XT.c1, XT.c2⟩
      clear hK K
      try simp only [Act.put, List.setIfInBounds_toArray, List.set_cons_zero, List.set_cons_succ]
      refine wpAnyH_done (by kernel_rfl) ?_ _
      have VL := ((VS.next hB28).set (o := 0) (u := .slice ad0 ts.length cd0) (show w1.heap.size ≠ w.heap.size + 2 by omega) ⟨_, OB.c0⟩).set (o := 1) (u := .slice ad3 (adL ls ⟨x0, x1, x2⟩).length cd3) (show w1.heap.size ≠ w.heap.size + 2 by omega) ⟨_, (OB.put0).c1⟩
      have OM := (OB.put0 (u := .slice ad0 ts.length cd0)).put1 (u := .slice ad3 (adL ls ⟨x0, x1, x2⟩).length cd3)
      have q0 := (o0.setFar (b := w1.heap.size) (o := 0) (x := .slice ad0 ts.length cd0) (fun e => ne0 _ e rfl)).setFar (b := w1.heap.size) (o := 1) (x := .slice ad3 (adL ls ⟨x0, x1, x2⟩).length cd3) (fun e => ne0 _ e rfl)
      have q3 := (o3.setFar (b := w1.heap.size) (o := 0) (x := .slice ad0 ts.length cd0) (fun e => ne3 _ e rfl)).setFar (b := w1.heap.size) (o := 1) (x := .slice ad3 (adL ls ⟨x0, x1, x2⟩).length cd3) (fun e => ne3 _ e rfl)
      clear j0 j1 j2 j3 OB hHeld NS XS XT VS HT HD KB ne0 ne3
      generalize (w27.setCell ⟨w1.heap.size, 0, none⟩ (.slice ad0 ts.length cd0)).setCell ⟨w1.heap.size, 1, none⟩ (.slice ad3 (adL ls ⟨x0, x1, x2⟩).length cd3) = WL at *
      generalize w1.heap.size = bo at *
      have j0 := OM.c0
      have j1 := OM.c1
      cases cg : netB ts (adL ls ⟨x0, x1, x2⟩) with
      | false =>
        have HG := Lib.hid cg
        have HF := Lib.hid (ad_f1 cg)
        clear cg
        go_wp2_with fail
        refine (isNet_b _ _ ts _ _ ⟨q0.rd, q3.rd⟩ HG.out).mono ?_
        rintro e wE ⟨rfl, hbE⟩
        have VE := VL.next hbE
        have NE := NT.next hbE
        have r0 := VE.c0
        have r1 := VE.c1
        have s0 := VE.f0
        have s1 := VE.f1
        have sz := VE.lt
        go_wp2
        refine bodyPost_ret (v := .tuple #[.agg #[.slice none 0 0, .slice none 0 0], .bool false]) (by simp [results, Try.results38, go_sem, r0, r1, s0, s1, *]) rfl ⟨.slice none 0 0, .slice none 0 0, by rw [HF.out.1], by rw [HF.out.2.1, HF.out.2.2]; exact OwnN.nil _ _ _, ?_⟩
        exact (NE.below.setCell (p := ⟨w.heap.size + 2, 0, none⟩) (by show w.heap.size ≤ w.heap.size + 2; omega) _).setCell (p := ⟨w.heap.size + 2, 1, none⟩) (by show w.heap.size ≤ w.heap.size + 2; omega) _
      | true =>
        have HG := Lib.hid cg
        have HF := Lib.hid (ad_t H0.out cg)
        clear cg
        go_wp2_with fail
        refine (isNet_b _ _ ts _ _ ⟨q0.rd, q3.rd⟩ HG.out).mono ?_
        rintro e wE ⟨rfl, hbE⟩
        have VE := VL.next hbE
        have NE := NT.next hbE
        have OE := OM.next hbE
        have pE := q0.later hbE
        have pF := q3.later hbE
        have r0 := VE.c0
        have r1 := VE.c1
        have s0 := VE.f0
        have s1 := VE.f1
        have sz := VE.lt
        have j0 := OE.c0
        have j1 := OE.c1
        go_wp2
        refine bodyPost_ret (v := .tuple #[.agg #[.slice ad0 ts.length cd0, .slice ad3 (adL ls ⟨x0, x1, x2⟩).length cd3], .bool true]) (by simp [results, Try.results38, go_sem, r0, r1, s0, s1, j0, j1, sz]) rfl ⟨_, _, by rw [HF.out.1], ?_, ?_⟩
        · rw [HF.out.2.1, HF.out.2.2]
          have u0 := ((pE.setFar (b := w.heap.size + 2) (o := 0) (x := .slice ad0 ts.length cd0) (fun e => by have := (pE.lt _ e).1; omega)).setFar (b := w.heap.size + 2) (o := 1) (x := .slice ad3 (adL ls ⟨x0, x1, x2⟩).length cd3) (fun e => by have := (pE.lt _ e).1; omega)).base (B' := w.heap.size) (by omega)
          have u1 := ((pF.setFar (b := w.heap.size + 2) (o := 0) (x := .slice ad0 ts.length cd0) (fun e => by have := (pF.lt _ e).1; omega)).setFar (b := w.heap.size + 2) (o := 1) (x := .slice ad3 (adL ls ⟨x0, x1, x2⟩).length cd3) (fun e => by have := (pF.lt _ e).1; omega)).base (B' := w.heap.size) (by omega)
          exact ⟨⟨u0, fun k hk => (u0.lt k hk).2⟩, ⟨u1, fun k hk => (u1.lt k hk).2⟩⟩
        · exact (NE.below.setCell (p := ⟨w.heap.size + 2, 0, none⟩) (by show w.heap.size ≤ w.heap.size + 2; omega) _).setCell (p := ⟨w.heap.size + 2, 1, none⟩) (by show w.heap.size ≤ w.heap.size + 2; omega) _
    refine AllReadyH.cons (o := { dst := some 28, op := Go.Op.buildSlice 29 1 #[(0, Go.Operand.tmp 27)], type := 29, pos := "l6_tower.go:154", after := #[{ on := 7, ground := Go.Ground.data }], guard := none }) rfl (fun K hK => ?_) ?_
    · go_simp
      refine hK.out _ _ ?_ (fun hHeld => ?_)
      · exact KB.out _ (hB0.alloc hB0.size _)
      clear hK K
      try simp only [Act.put, List.setIfInBounds_toArray, List.set_cons_zero, List.set_cons_succ]
      refine wpAnyH_name ?_
      intro w29 hw29
      rw [← hw29] at hHeld
      have hb29 := below_alloc hw29
      have z29 := lt_named hw29
      have b0 : w29.cell? ⟨wS.heap.size, 0, none⟩ = some (.int .i64 x0) := by rw [hw29]; simp [go_sem]
      have b1 : w29.cell? ⟨wS.heap.size, 1, none⟩ = some (.int .i64 x1) := by rw [hw29]; simp [go_sem]
      have b2 : w29.cell? ⟨wS.heap.size, 2, none⟩ = some (.int .i64 x2) := by rw [hw29]; simp [go_sem]
      clear hw29
      have hB30 := hB0.trans (hb29.mono hB0.size)
      refine wpAnyH_ready (rs := [2, 13, 16]) (by kernel_rfl) (by simp) ?_
      refine AllReadyH.cons (o := { dst := some 22, op := Go.Op.call { callee := Go.Callee.value (Go.Operand.func 70), args := #[Go.Operand.tmp 21], argTypes := #[28] }, type := 28, pos := "l6_tower.go:154", after := #[{ on := 1, ground := Go.Ground.data }], guard := none }) rfl (fun K hK => ?_) ?_
      · go_simp
        refine (cloneTower_any _ ts _ (by rw [← HN.out]; omega) ((NS.next hB30).rd.1)).mono ?_
        rintro e w31 ⟨v, rfl, oT, hb31⟩
        obtain ⟨ad0, cd0, rfl, -⟩ := oT.rd.len
        have o0 := oT.base (B' := wS.heap.size) hB30.size
        try go_simp
        refine hK.out _ _ ?_ (fun hHeld => ?_)
        · exact KB.out _ (hB30.trans (hb31.mono hB30.size))
        clear hK K
        try simp only [Act.put, List.setIfInBounds_toArray, List.set_cons_zero, List.set_cons_succ]
        have b0 := bcell hb31 b0
        have b1 := bcell hb31 b1
        have b2 := bcell hb31 b2
        have hB32 := hB30.trans (hb31.mono hB30.size)
        clear oT
        refine wpAnyH_ready (rs := [13, 16]) (by kernel_rfl) (by simp) ?_
        refine AllReadyH.cons (o := { dst := some 33, op := Go.Op.buildSlice 94 3 #[(0, Go.Operand.tmp 26), (1, Go.Operand.tmp 28), (2, Go.Operand.tmp 32)], type := 94, pos := "l6_tower.go:154", after := #[{ on := 6, ground := Go.Ground.data }, { on := 8, ground := Go.Ground.data }, { on := 12, ground := Go.Ground.data }], guard := none }) rfl (fun K hK => ?_) ?_
        · go_simp
          refine hK.out _ _ ?_ (fun hHeld => ?_)
          · exact KB.out _ (hB32.alloc hB32.size _)
          clear hK K
          try simp only [Act.put, List.setIfInBounds_toArray, List.set_cons_zero, List.set_cons_succ]
          refine wpAnyH_name ?_
          intro w33 hw33
          rw [← hw33] at hHeld
          have hb33 := below_alloc hw33
          have z33 := lt_named hw33
          have d0 : w33.cell? ⟨w31.heap.size, 0, none⟩ = some (.slice a5 k p1) := by rw [hw33]; simp [go_sem]
          have d1 := show w33.cell? ⟨w31.heap.size, 1, none⟩ = some _ by rw [hw33]; simp [go_sem]; rfl
          have d2 : w33.cell? ⟨w31.heap.size, 2, none⟩ = some (.slice a6 (m - k) c6) := by rw [hw33]; simp [go_sem]
          have r3 : RdR c3 3 w33 _ [(⟨x0, x1, x2⟩ : T3)] := RdR.one3 ⟨x0, x1, x2⟩ (World.block_lt_of_cell? _ _ (bcell hb33 b0)) (Nat.le_refl _) (by unfold maxLen; decide) (bcell hb33 b0) (bcell hb33 b1) (bcell hb33 b2)
          clear hw33
          have o0 := o0.later hb33
          have b0 := bcell hb33 b0
          have b1 := bcell hb33 b1
          have b2 := bcell hb33 b2
          have hB34 := hB32.trans (hb33.mono hB32.size)
          have hP := fun (y : World) (hy : Below w33.heap.size w33 y) => pk3_parts (bcell hy d0) (bcell hy d1) (bcell hy d2) (HT.out.later ((hB32.trans (hb33.mono hB32.size)).trans (hy.mono (Nat.le_trans hB32.size hb33.size)))) (r3.later hy) (HD.out.later ((hB32.trans (hb33.mono hB32.size)).trans (hy.mono (Nat.le_trans hB32.size hb33.size)))) HL.out.1 HL.out.2.1 HL.out.2.2
          have hpl := z33
          clear d0 d1 d2 r3 b0 b1 b2
          have hPB := Below.refl w33.heap.size w33
          refine wpAnyH_ready (rs := [14, 16]) (by kernel_rfl) (by simp) ?_
          refine AllReadyH.cons (o := { dst := some 34, op := Go.Op.call { callee := Go.Callee.value (Go.Operand.func 71), args := #[Go.Operand.tmp 33], argTypes := #[94] }, type := 29, pos := "l6_tower.go:154", after := #[{ on := 13, ground := Go.Ground.data }, { on := 2, ground := Go.Ground.chain }], guard := none }) rfl (fun K hK => ?_) ?_
          · go_simp
            refine (concatLink_any _ 3 _ _ _ (by decide) (Nat.lt_of_lt_of_le hpl hPB.size) (hP _ hPB)).mono ?_
            rintro e w35 ⟨v, rfl, oL, hb35⟩
            rw [catRLink_three, ← HAD.out] at oL
            obtain ⟨ad3, cd3, rfl, -⟩ := oL.rd.len
            have o3 := oL.base (B' := wS.heap.size) hB34.size
            try go_simp
            refine hK.out _ _ ?_ (fun hHeld => ?_)
            · exact KB.out _ (hB34.trans (hb35.mono hB34.size))
            clear hK K
            try simp only [Act.put, List.setIfInBounds_toArray, List.set_cons_zero, List.set_cons_succ]
            have hPB := hPB.trans (hb35.mono hPB.size)
            have o0 := o0.later hb35
            have hB36 := hB34.trans (hb35.mono hB34.size)
            clear oL hP hPB hpl
            refine wpAnyH_take (i := 15) (oi := { dst := some 35, op := Go.Op.build 31 #[(0, Go.Operand.tmp 22), (1, Go.Operand.tmp 34)], type := 31, pos := "l6_tower.go:154", after := #[{ on := 2, ground := Go.Ground.data }, { on := 14, ground := Go.Ground.data }], guard := none }) (v := ?_) rfl (by kernel_rfl) (by kernel_rfl) (by kernel_rfl) (fun _ _ _ h => h) (Or.inl ⟨by rfl, ?_⟩) (by assumption) ?_
            rotate_left
            · intro w hSw; (try dsimp only at hSw); go_simp; try with_reducible rfl
            try simp only [Act.put, List.setIfInBounds_toArray, List.set_cons_zero, List.set_cons_succ]
            refine wpAnyH_ready (rs := [16]) (by kernel_rfl) (by simp) ?_
            refine AllReadyH.cons (o := { dst := some 8, op := Go.Op.alloc 31, type := 0, pos := "l6_tower.go:154", after := #[], guard := none }) rfl (fun K hK => ?_) AllReadyH.nil
            have o0o := o0
            have o3o := o3
            go_simp
            refine hK.out _ _ ?_ (fun hHeld => ?_)
            · exact KB.out _ (hB36.alloc hB36.size _)
            clear hK K
            try simp only [Act.put, List.setIfInBounds_toArray, List.set_cons_zero, List.set_cons_succ]
            refine wpAnyH_name ?_
            intro w37 hw37
            rw [← hw37] at hHeld
            have hb37 := below_alloc hw37
            have z37 := lt_named hw37
            have OB : Var2 w37 w35.heap.size (.slice none 0 0) (.slice none 0 0) := by rw [hw37]; exact Var2.new _ _ _ _
            have hbl := hB36.size
            clear hw37
            have o0 := o0.later hb37
            have o3 := o3.later hb37
            have hB38 := hB36.trans (hb37.mono hB36.size)
            have hzb := z37
            have ne0 : ∀ k, (Value.slice ad0 ts.length cd0).ownBlock = some k → k ≠ w35.heap.size := fun k hk => by have := (o0o.lt k hk).2; omega
            have ne3 : ∀ k, (Value.slice ad3 (adL ls ⟨x0, x1, x2⟩).length cd3).ownBlock = some k → k ≠ w35.heap.size := fun k hk => by have := (o3o.lt k hk).2; omega
            clear o0o
            clear o3o
            refine wpAnyH_ready (rs := [17]) (by kernel_rfl) (by simp) ?_
            refine AllReadyH.cons (o := { dst := none, op := Go.Op.store 31 (Go.Operand.tmp 8) (Go.Operand.tmp 35), type := 0, pos := "l6_tower.go:154", after := #[{ on := 16, ground := Go.Ground.data }, { on := 15, ground := Go.Ground.data }, { on := 14, ground := Go.Ground.chain }, { on := 0, ground := Go.Ground.phase }, { on := 1, ground := Go.Ground.phase }, { on := 2, ground := Go.Ground.phase }, { on := 3, ground := Go.Ground.phase }, { on := 4, ground := Go.Ground.phase }, { on := 5, ground := Go.Ground.phase }, { on := 6, ground := Go.Ground.phase }, { on := 7, ground := Go.Ground.phase }, { on := 8, ground := Go.Ground.phase }, { on := 9, ground := Go.Ground.phase }, { on := 10, ground := Go.Ground.phase }, { on := 11, ground := Go.Ground.phase }, { on := 12, ground := Go.Ground.phase }, { on := 13, ground := Go.Ground.phase }, { on := 14, ground := Go.Ground.phase }, { on := 15, ground := Go.Ground.phase }, { on := 16, ground := Go.Ground.phase }], guard := none }) rfl (fun K hK => ?_) AllReadyH.nil
            have j0 := OB.c0
            have j1 := OB.c1
            have j2 := OB.f0
            have j3 := OB.f1
            have hbl3 : w.heap.size + 3 ≤ w35.heap.size := by omega
            have NT := ((NS.next hB38).set (o := 0) (u := .slice ad0 ts.length cd0) HR.out (show w.heap.size < w35.heap.size by omega)).set (o := 1) (u := .slice ad3 (adL ls ⟨x0, x1, x2⟩).length cd3) HR.out (show w.heap.size < w35.heap.size by omega)
            have XT := ((XS.next hB38).set (o := 0) (u := .slice ad0 ts.length cd0) (show w35.heap.size ≠ w.heap.size + 1 by omega)).set (o := 1) (u := .slice ad3 (adL ls ⟨x0, x1, x2⟩).length cd3) (show w35.heap.size ≠ w.heap.size + 1 by omega)
            go_simp
            refine hK.out _ _ ?_ (fun hHeld => ?_)
            · exact ⟨NT.b0, NT.b1, XT.c0, XT.c1, XT.c2⟩
            clear hK K
            try simp only [Act.put, List.setIfInBounds_toArray, List.set_cons_zero, List.set_cons_succ]
            refine wpAnyH_done (by kernel_rfl) ?_ _
            have VL := ((VS.next hB38).set (o := 0) (u := .slice ad0 ts.length cd0) (show w35.heap.size ≠ w.heap.size + 2 by omega) ⟨_, OB.c0⟩).set (o := 1) (u := .slice ad3 (adL ls ⟨x0, x1, x2⟩).length cd3) (show w35.heap.size ≠ w.heap.size + 2 by omega) ⟨_, (OB.put0).c1⟩
            have OM := (OB.put0 (u := .slice ad0 ts.length cd0)).put1 (u := .slice ad3 (adL ls ⟨x0, x1, x2⟩).length cd3)
            have q0 := (o0.setFar (b := w35.heap.size) (o := 0) (x := .slice ad0 ts.length cd0) (fun e => ne0 _ e rfl)).setFar (b := w35.heap.size) (o := 1) (x := .slice ad3 (adL ls ⟨x0, x1, x2⟩).length cd3) (fun e => ne0 _ e rfl)
            have q3 := (o3.setFar (b := w35.heap.size) (o := 0) (x := .slice ad0 ts.length cd0) (fun e => ne3 _ e rfl)).setFar (b := w35.heap.size) (o := 1) (x := .slice ad3 (adL ls ⟨x0, x1, x2⟩).length cd3) (fun e => ne3 _ e rfl)
            clear j0 j1 j2 j3 OB hHeld NS XS XT VS HT HD KB ne0 ne3
            generalize (w37.setCell ⟨w35.heap.size, 0, none⟩ (.slice ad0 ts.length cd0)).setCell ⟨w35.heap.size, 1, none⟩ (.slice ad3 (adL ls ⟨x0, x1, x2⟩).length cd3) = WL at *
            generalize w35.heap.size = bo at *
            have j0 := OM.c0
            have j1 := OM.c1
            cases cg : netB ts (adL ls ⟨x0, x1, x2⟩) with
            | false =>
              have HG := Lib.hid cg
              have HF := Lib.hid (ad_f1 cg)
              clear cg
              go_wp2_with fail
              refine (isNet_b _ _ ts _ _ ⟨q0.rd, q3.rd⟩ HG.out).mono ?_
              rintro e wE ⟨rfl, hbE⟩
              have VE := VL.next hbE
              have NE := NT.next hbE
              have r0 := VE.c0
              have r1 := VE.c1
              have s0 := VE.f0
              have s1 := VE.f1
              have sz := VE.lt
              go_wp2
              refine bodyPost_ret (v := .tuple #[.agg #[.slice none 0 0, .slice none 0 0], .bool false]) (by simp [results, Try.results38, go_sem, r0, r1, s0, s1, *]) rfl ⟨.slice none 0 0, .slice none 0 0, by rw [HF.out.1], by rw [HF.out.2.1, HF.out.2.2]; exact OwnN.nil _ _ _, ?_⟩
              exact (NE.below.setCell (p := ⟨w.heap.size + 2, 0, none⟩) (by show w.heap.size ≤ w.heap.size + 2; omega) _).setCell (p := ⟨w.heap.size + 2, 1, none⟩) (by show w.heap.size ≤ w.heap.size + 2; omega) _
            | true =>
              have HG := Lib.hid cg
              have HF := Lib.hid (ad_t H0.out cg)
              clear cg
              go_wp2_with fail
              refine (isNet_b _ _ ts _ _ ⟨q0.rd, q3.rd⟩ HG.out).mono ?_
              rintro e wE ⟨rfl, hbE⟩
              have VE := VL.next hbE
              have NE := NT.next hbE
              have OE := OM.next hbE
              have pE := q0.later hbE
              have pF := q3.later hbE
              have r0 := VE.c0
              have r1 := VE.c1
              have s0 := VE.f0
              have s1 := VE.f1
              have sz := VE.lt
              have j0 := OE.c0
              have j1 := OE.c1
              go_wp2
              refine bodyPost_ret (v := .tuple #[.agg #[.slice ad0 ts.length cd0, .slice ad3 (adL ls ⟨x0, x1, x2⟩).length cd3], .bool true]) (by simp [results, Try.results38, go_sem, r0, r1, s0, s1, j0, j1, sz]) rfl ⟨_, _, by rw [HF.out.1], ?_, ?_⟩
              · rw [HF.out.2.1, HF.out.2.2]
                have u0 := ((pE.setFar (b := w.heap.size + 2) (o := 0) (x := .slice ad0 ts.length cd0) (fun e => by have := (pE.lt _ e).1; omega)).setFar (b := w.heap.size + 2) (o := 1) (x := .slice ad3 (adL ls ⟨x0, x1, x2⟩).length cd3) (fun e => by have := (pE.lt _ e).1; omega)).base (B' := w.heap.size) (by omega)
                have u1 := ((pF.setFar (b := w.heap.size + 2) (o := 0) (x := .slice ad0 ts.length cd0) (fun e => by have := (pF.lt _ e).1; omega)).setFar (b := w.heap.size + 2) (o := 1) (x := .slice ad3 (adL ls ⟨x0, x1, x2⟩).length cd3) (fun e => by have := (pF.lt _ e).1; omega)).base (B' := w.heap.size) (by omega)
                exact ⟨⟨u0, fun k hk => (u0.lt k hk).2⟩, ⟨u1, fun k hk => (u1.lt k hk).2⟩⟩
              · exact (NE.below.setCell (p := ⟨w.heap.size + 2, 0, none⟩) (by show w.heap.size ≤ w.heap.size + 2; omega) _).setCell (p := ⟨w.heap.size + 2, 1, none⟩) (by show w.heap.size ≤ w.heap.size + 2; omega) _
          refine AllReadyH.cons (o := { dst := some 8, op := Go.Op.alloc 31, type := 0, pos := "l6_tower.go:154", after := #[], guard := none }) rfl (fun K hK => ?_) AllReadyH.nil
          have o0o := o0
          go_simp
          refine hK.out _ _ ?_ (fun hHeld => ?_)
          · exact KB.out _ (hB34.alloc hB34.size _)
          clear hK K
          try simp only [Act.put, List.setIfInBounds_toArray, List.set_cons_zero, List.set_cons_succ]
          refine wpAnyH_name ?_
          intro w39 hw39
          rw [← hw39] at hHeld
          have hb39 := below_alloc hw39
          have z39 := lt_named hw39
          have OB : Var2 w39 w33.heap.size (.slice none 0 0) (.slice none 0 0) := by rw [hw39]; exact Var2.new _ _ _ _
          have hbl := hB34.size
          clear hw39
          have hPB := hPB.trans (hb39.mono hPB.size)
          have o0 := o0.later hb39
          have hB40 := hB34.trans (hb39.mono hB34.size)
          have hzb := z39
          have ne0 : ∀ k, (Value.slice ad0 ts.length cd0).ownBlock = some k → k ≠ w33.heap.size := fun k hk => by have := (o0o.lt k hk).2; omega
          clear o0o
          refine wpAnyH_ready (rs := [14]) (by kernel_rfl) (by simp) ?_
          refine AllReadyH.cons (o := { dst := some 34, op := Go.Op.call { callee := Go.Callee.value (Go.Operand.func 71), args := #[Go.Operand.tmp 33], argTypes := #[94] }, type := 29, pos := "l6_tower.go:154", after := #[{ on := 13, ground := Go.Ground.data }, { on := 2, ground := Go.Ground.chain }], guard := none }) rfl (fun K hK => ?_) AllReadyH.nil
          go_simp
          refine (concatLink_any _ 3 _ _ _ (by decide) (Nat.lt_of_lt_of_le hpl hPB.size) (hP _ hPB)).mono ?_
          rintro e w41 ⟨v, rfl, oL, hb41⟩
          rw [catRLink_three, ← HAD.out] at oL
          obtain ⟨ad3, cd3, rfl, -⟩ := oL.rd.len
          have o3 := oL.base (B' := wS.heap.size) hB40.size
          try go_simp
          refine hK.out _ _ ?_ (fun hHeld => ?_)
          · exact KB.out _ (hB40.trans (hb41.mono hB40.size))
          clear hK K
          try simp only [Act.put, List.setIfInBounds_toArray, List.set_cons_zero, List.set_cons_succ]
          have hPB := hPB.trans (hb41.mono hPB.size)
          have hzb := Nat.lt_of_lt_of_le hzb hb41.size
          have o0 := o0.later hb41
          have OB := OB.next hb41
          have hB42 := hB40.trans (hb41.mono hB40.size)
          have ne3 : ∀ k, (Value.slice ad3 (adL ls ⟨x0, x1, x2⟩).length cd3).ownBlock = some k → k ≠ w33.heap.size := fun k hk => by have := (oL.lt k hk).1; have := hzb; omega
          clear oL hP hPB hpl
          refine wpAnyH_take (i := 15) (oi := { dst := some 35, op := Go.Op.build 31 #[(0, Go.Operand.tmp 22), (1, Go.Operand.tmp 34)], type := 31, pos := "l6_tower.go:154", after := #[{ on := 2, ground := Go.Ground.data }, { on := 14, ground := Go.Ground.data }], guard := none }) (v := ?_) rfl (by kernel_rfl) (by kernel_rfl) (by kernel_rfl) (fun _ _ _ h => h) (Or.inl ⟨by rfl, ?_⟩) (by assumption) ?_
          rotate_left
          · intro w hSw; (try dsimp only at hSw); go_simp; try with_reducible rfl
          try simp only [Act.put, List.setIfInBounds_toArray, List.set_cons_zero, List.set_cons_succ]
          refine wpAnyH_ready (rs := [17]) (by kernel_rfl) (by simp) ?_
          refine AllReadyH.cons (o := { dst := none, op := Go.Op.store 31 (Go.Operand.tmp 8) (Go.Operand.tmp 35), type := 0, pos := "l6_tower.go:154", after := #[{ on := 16, ground := Go.Ground.data }, { on := 15, ground := Go.Ground.data }, { on := 14, ground := Go.Ground.chain }, { on := 0, ground := Go.Ground.phase }, { on := 1, ground := Go.Ground.phase }, { on := 2, ground := Go.Ground.phase }, { on := 3, ground := Go.Ground.phase }, { on := 4, ground := Go.Ground.phase }, { on := 5, ground := Go.Ground.phase }, { on := 6, ground := Go.Ground.phase }, { on := 7, ground := Go.Ground.phase }, { on := 8, ground := Go.Ground.phase }, { on := 9, ground := Go.Ground.phase }, { on := 10, ground := Go.Ground.phase }, { on := 11, ground := Go.Ground.phase }, { on := 12, ground := Go.Ground.phase }, { on := 13, ground := Go.Ground.phase }, { on := 14, ground := Go.Ground.phase }, { on := 15, ground := Go.Ground.phase }, { on := 16, ground := Go.Ground.phase }], guard := none }) rfl (fun K hK => ?_) AllReadyH.nil
          have j0 := OB.c0
          have j1 := OB.c1
          have j2 := OB.f0
          have j3 := OB.f1
          have hbl3 : w.heap.size + 3 ≤ w33.heap.size := by omega
          have NT := ((NS.next hB42).set (o := 0) (u := .slice ad0 ts.length cd0) HR.out (show w.heap.size < w33.heap.size by omega)).set (o := 1) (u := .slice ad3 (adL ls ⟨x0, x1, x2⟩).length cd3) HR.out (show w.heap.size < w33.heap.size by omega)
          have XT := ((XS.next hB42).set (o := 0) (u := .slice ad0 ts.length cd0) (show w33.heap.size ≠ w.heap.size + 1 by omega)).set (o := 1) (u := .slice ad3 (adL ls ⟨x0, x1, x2⟩).length cd3) (show w33.heap.size ≠ w.heap.size + 1 by omega)
          go_simp
          refine hK.out _ _ ?_ (fun hHeld => ?_)
          · exact ⟨NT.b0, NT.b1, XT.c0, XT.c1, XT.c2⟩
          clear hK K
          try simp only [Act.put, List.setIfInBounds_toArray, List.set_cons_zero, List.set_cons_succ]
          refine wpAnyH_done (by kernel_rfl) ?_ _
          have VL := ((VS.next hB42).set (o := 0) (u := .slice ad0 ts.length cd0) (show w33.heap.size ≠ w.heap.size + 2 by omega) ⟨_, OB.c0⟩).set (o := 1) (u := .slice ad3 (adL ls ⟨x0, x1, x2⟩).length cd3) (show w33.heap.size ≠ w.heap.size + 2 by omega) ⟨_, (OB.put0).c1⟩
          have OM := (OB.put0 (u := .slice ad0 ts.length cd0)).put1 (u := .slice ad3 (adL ls ⟨x0, x1, x2⟩).length cd3)
          have q0 := (o0.setFar (b := w33.heap.size) (o := 0) (x := .slice ad0 ts.length cd0) (fun e => ne0 _ e rfl)).setFar (b := w33.heap.size) (o := 1) (x := .slice ad3 (adL ls ⟨x0, x1, x2⟩).length cd3) (fun e => ne0 _ e rfl)
          have q3 := (o3.setFar (b := w33.heap.size) (o := 0) (x := .slice ad0 ts.length cd0) (fun e => ne3 _ e rfl)).setFar (b := w33.heap.size) (o := 1) (x := .slice ad3 (adL ls ⟨x0, x1, x2⟩).length cd3) (fun e => ne3 _ e rfl)
          clear j0 j1 j2 j3 OB hHeld NS XS XT VS HT HD KB ne0 ne3
          generalize (w41.setCell ⟨w33.heap.size, 0, none⟩ (.slice ad0 ts.length cd0)).setCell ⟨w33.heap.size, 1, none⟩ (.slice ad3 (adL ls ⟨x0, x1, x2⟩).length cd3) = WL at *
          generalize w33.heap.size = bo at *
          have j0 := OM.c0
          have j1 := OM.c1
          cases cg : netB ts (adL ls ⟨x0, x1, x2⟩) with
          | false =>
            have HG := Lib.hid cg
            have HF := Lib.hid (ad_f1 cg)
            clear cg
            go_wp2_with fail
            refine (isNet_b _ _ ts _ _ ⟨q0.rd, q3.rd⟩ HG.out).mono ?_
            rintro e wE ⟨rfl, hbE⟩
            have VE := VL.next hbE
            have NE := NT.next hbE
            have r0 := VE.c0
            have r1 := VE.c1
            have s0 := VE.f0
            have s1 := VE.f1
            have sz := VE.lt
            go_wp2
            refine bodyPost_ret (v := .tuple #[.agg #[.slice none 0 0, .slice none 0 0], .bool false]) (by simp [results, Try.results38, go_sem, r0, r1, s0, s1, *]) rfl ⟨.slice none 0 0, .slice none 0 0, by rw [HF.out.1], by rw [HF.out.2.1, HF.out.2.2]; exact OwnN.nil _ _ _, ?_⟩
            exact (NE.below.setCell (p := ⟨w.heap.size + 2, 0, none⟩) (by show w.heap.size ≤ w.heap.size + 2; omega) _).setCell (p := ⟨w.heap.size + 2, 1, none⟩) (by show w.heap.size ≤ w.heap.size + 2; omega) _
          | true =>
            have HG := Lib.hid cg
            have HF := Lib.hid (ad_t H0.out cg)
            clear cg
            go_wp2_with fail
            refine (isNet_b _ _ ts _ _ ⟨q0.rd, q3.rd⟩ HG.out).mono ?_
            rintro e wE ⟨rfl, hbE⟩
            have VE := VL.next hbE
            have NE := NT.next hbE
            have OE := OM.next hbE
            have pE := q0.later hbE
            have pF := q3.later hbE
            have r0 := VE.c0
            have r1 := VE.c1
            have s0 := VE.f0
            have s1 := VE.f1
            have sz := VE.lt
            have j0 := OE.c0
            have j1 := OE.c1
            go_wp2
            refine bodyPost_ret (v := .tuple #[.agg #[.slice ad0 ts.length cd0, .slice ad3 (adL ls ⟨x0, x1, x2⟩).length cd3], .bool true]) (by simp [results, Try.results38, go_sem, r0, r1, s0, s1, j0, j1, sz]) rfl ⟨_, _, by rw [HF.out.1], ?_, ?_⟩
            · rw [HF.out.2.1, HF.out.2.2]
              have u0 := ((pE.setFar (b := w.heap.size + 2) (o := 0) (x := .slice ad0 ts.length cd0) (fun e => by have := (pE.lt _ e).1; omega)).setFar (b := w.heap.size + 2) (o := 1) (x := .slice ad3 (adL ls ⟨x0, x1, x2⟩).length cd3) (fun e => by have := (pE.lt _ e).1; omega)).base (B' := w.heap.size) (by omega)
              have u1 := ((pF.setFar (b := w.heap.size + 2) (o := 0) (x := .slice ad0 ts.length cd0) (fun e => by have := (pF.lt _ e).1; omega)).setFar (b := w.heap.size + 2) (o := 1) (x := .slice ad3 (adL ls ⟨x0, x1, x2⟩).length cd3) (fun e => by have := (pF.lt _ e).1; omega)).base (B' := w.heap.size) (by omega)
              exact ⟨⟨u0, fun k hk => (u0.lt k hk).2⟩, ⟨u1, fun k hk => (u1.lt k hk).2⟩⟩
            · exact (NE.below.setCell (p := ⟨w.heap.size + 2, 0, none⟩) (by show w.heap.size ≤ w.heap.size + 2; omega) _).setCell (p := ⟨w.heap.size + 2, 1, none⟩) (by show w.heap.size ≤ w.heap.size + 2; omega) _
        refine AllReadyH.cons (o := { dst := some 8, op := Go.Op.alloc 31, type := 0, pos := "l6_tower.go:154", after := #[], guard := none }) rfl (fun K hK => ?_) AllReadyH.nil
        have o0o := o0
        go_simp
        refine hK.out _ _ ?_ (fun hHeld => ?_)
        · exact KB.out _ (hB32.alloc hB32.size _)
        clear hK K
        try simp only [Act.put, List.setIfInBounds_toArray, List.set_cons_zero, List.set_cons_succ]
        refine wpAnyH_name ?_
        intro w43 hw43
        rw [← hw43] at hHeld
        have hb43 := below_alloc hw43
        have z43 := lt_named hw43
        have OB : Var2 w43 w31.heap.size (.slice none 0 0) (.slice none 0 0) := by rw [hw43]; exact Var2.new _ _ _ _
        have hbl := hB32.size
        clear hw43
        have o0 := o0.later hb43
        have b0 := bcell hb43 b0
        have b1 := bcell hb43 b1
        have b2 := bcell hb43 b2
        have hB44 := hB32.trans (hb43.mono hB32.size)
        have hzb := z43
        have ne0 : ∀ k, (Value.slice ad0 ts.length cd0).ownBlock = some k → k ≠ w31.heap.size := fun k hk => by have := (o0o.lt k hk).2; omega
        clear o0o
        refine wpAnyH_ready (rs := [13]) (by kernel_rfl) (by simp) ?_
        refine AllReadyH.cons (o := { dst := some 33, op := Go.Op.buildSlice 94 3 #[(0, Go.Operand.tmp 26), (1, Go.Operand.tmp 28), (2, Go.Operand.tmp 32)], type := 94, pos := "l6_tower.go:154", after := #[{ on := 6, ground := Go.Ground.data }, { on := 8, ground := Go.Ground.data }, { on := 12, ground := Go.Ground.data }], guard := none }) rfl (fun K hK => ?_) AllReadyH.nil
        go_simp
        refine hK.out _ _ ?_ (fun hHeld => ?_)
        · exact KB.out _ (hB44.alloc hB44.size _)
        clear hK K
        try simp only [Act.put, List.setIfInBounds_toArray, List.set_cons_zero, List.set_cons_succ]
        refine wpAnyH_name ?_
        intro w45 hw45
        rw [← hw45] at hHeld
        have hb45 := below_alloc hw45
        have z45 := lt_named hw45
        have d0 : w45.cell? ⟨w43.heap.size, 0, none⟩ = some (.slice a5 k p1) := by rw [hw45]; simp [go_sem]
        have d1 := show w45.cell? ⟨w43.heap.size, 1, none⟩ = some _ by rw [hw45]; simp [go_sem]; rfl
        have d2 : w45.cell? ⟨w43.heap.size, 2, none⟩ = some (.slice a6 (m - k) c6) := by rw [hw45]; simp [go_sem]
        have r3 : RdR c3 3 w45 _ [(⟨x0, x1, x2⟩ : T3)] := RdR.one3 ⟨x0, x1, x2⟩ (World.block_lt_of_cell? _ _ (bcell hb45 b0)) (Nat.le_refl _) (by unfold maxLen; decide) (bcell hb45 b0) (bcell hb45 b1) (bcell hb45 b2)
        clear hw45
        have hzb := Nat.lt_of_lt_of_le hzb hb45.size
        have o0 := o0.later hb45
        have b0 := bcell hb45 b0
        have b1 := bcell hb45 b1
        have b2 := bcell hb45 b2
        have OB := OB.next hb45
        have hB46 := hB44.trans (hb45.mono hB44.size)
        have hP := fun (y : World) (hy : Below w45.heap.size w45 y) => pk3_parts (bcell hy d0) (bcell hy d1) (bcell hy d2) (HT.out.later ((hB44.trans (hb45.mono hB44.size)).trans (hy.mono (Nat.le_trans hB44.size hb45.size)))) (r3.later hy) (HD.out.later ((hB44.trans (hb45.mono hB44.size)).trans (hy.mono (Nat.le_trans hB44.size hb45.size)))) HL.out.1 HL.out.2.1 HL.out.2.2
        have hpl := z45
        clear d0 d1 d2 r3 b0 b1 b2
        have hPB := Below.refl w45.heap.size w45
        refine wpAnyH_ready (rs := [14]) (by kernel_rfl) (by simp) ?_
        refine AllReadyH.cons (o := { dst := some 34, op := Go.Op.call { callee := Go.Callee.value (Go.Operand.func 71), args := #[Go.Operand.tmp 33], argTypes := #[94] }, type := 29, pos := "l6_tower.go:154", after := #[{ on := 13, ground := Go.Ground.data }, { on := 2, ground := Go.Ground.chain }], guard := none }) rfl (fun K hK => ?_) AllReadyH.nil
        go_simp
        refine (concatLink_any _ 3 _ _ _ (by decide) (Nat.lt_of_lt_of_le hpl hPB.size) (hP _ hPB)).mono ?_
        rintro e w47 ⟨v, rfl, oL, hb47⟩
        rw [catRLink_three, ← HAD.out] at oL
        obtain ⟨ad3, cd3, rfl, -⟩ := oL.rd.len
        have o3 := oL.base (B' := wS.heap.size) hB46.size
        try go_simp
        refine hK.out _ _ ?_ (fun hHeld => ?_)
        · exact KB.out _ (hB46.trans (hb47.mono hB46.size))
        clear hK K
        try simp only [Act.put, List.setIfInBounds_toArray, List.set_cons_zero, List.set_cons_succ]
        have hPB := hPB.trans (hb47.mono hPB.size)
        have hzb := Nat.lt_of_lt_of_le hzb hb47.size
        have o0 := o0.later hb47
        have OB := OB.next hb47
        have hB48 := hB46.trans (hb47.mono hB46.size)
        have ne3 : ∀ k, (Value.slice ad3 (adL ls ⟨x0, x1, x2⟩).length cd3).ownBlock = some k → k ≠ w31.heap.size := fun k hk => by have := (oL.lt k hk).1; have := hzb; omega
        clear oL hP hPB hpl
        refine wpAnyH_take (i := 15) (oi := { dst := some 35, op := Go.Op.build 31 #[(0, Go.Operand.tmp 22), (1, Go.Operand.tmp 34)], type := 31, pos := "l6_tower.go:154", after := #[{ on := 2, ground := Go.Ground.data }, { on := 14, ground := Go.Ground.data }], guard := none }) (v := ?_) rfl (by kernel_rfl) (by kernel_rfl) (by kernel_rfl) (fun _ _ _ h => h) (Or.inl ⟨by rfl, ?_⟩) (by assumption) ?_
        rotate_left
        · intro w hSw; (try dsimp only at hSw); go_simp; try with_reducible rfl
        try simp only [Act.put, List.setIfInBounds_toArray, List.set_cons_zero, List.set_cons_succ]
        refine wpAnyH_ready (rs := [17]) (by kernel_rfl) (by simp) ?_
        refine AllReadyH.cons (o := { dst := none, op := Go.Op.store 31 (Go.Operand.tmp 8) (Go.Operand.tmp 35), type := 0, pos := "l6_tower.go:154", after := #[{ on := 16, ground := Go.Ground.data }, { on := 15, ground := Go.Ground.data }, { on := 14, ground := Go.Ground.chain }, { on := 0, ground := Go.Ground.phase }, { on := 1, ground := Go.Ground.phase }, { on := 2, ground := Go.Ground.phase }, { on := 3, ground := Go.Ground.phase }, { on := 4, ground := Go.Ground.phase }, { on := 5, ground := Go.Ground.phase }, { on := 6, ground := Go.Ground.phase }, { on := 7, ground := Go.Ground.phase }, { on := 8, ground := Go.Ground.phase }, { on := 9, ground := Go.Ground.phase }, { on := 10, ground := Go.Ground.phase }, { on := 11, ground := Go.Ground.phase }, { on := 12, ground := Go.Ground.phase }, { on := 13, ground := Go.Ground.phase }, { on := 14, ground := Go.Ground.phase }, { on := 15, ground := Go.Ground.phase }, { on := 16, ground := Go.Ground.phase }], guard := none }) rfl (fun K hK => ?_) AllReadyH.nil
        have j0 := OB.c0
        have j1 := OB.c1
        have j2 := OB.f0
        have j3 := OB.f1
        have hbl3 : w.heap.size + 3 ≤ w31.heap.size := by omega
        have NT := ((NS.next hB48).set (o := 0) (u := .slice ad0 ts.length cd0) HR.out (show w.heap.size < w31.heap.size by omega)).set (o := 1) (u := .slice ad3 (adL ls ⟨x0, x1, x2⟩).length cd3) HR.out (show w.heap.size < w31.heap.size by omega)
        have XT := ((XS.next hB48).set (o := 0) (u := .slice ad0 ts.length cd0) (show w31.heap.size ≠ w.heap.size + 1 by omega)).set (o := 1) (u := .slice ad3 (adL ls ⟨x0, x1, x2⟩).length cd3) (show w31.heap.size ≠ w.heap.size + 1 by omega)
        go_simp
        refine hK.out _ _ ?_ (fun hHeld => ?_)
        · exact ⟨NT.b0, NT.b1, XT.c0, XT.c1, XT.c2⟩
        clear hK K
        try simp only [Act.put, List.setIfInBounds_toArray, List.set_cons_zero, List.set_cons_succ]
        refine wpAnyH_done (by kernel_rfl) ?_ _
        have VL := ((VS.next hB48).set (o := 0) (u := .slice ad0 ts.length cd0) (show w31.heap.size ≠ w.heap.size + 2 by omega) ⟨_, OB.c0⟩).set (o := 1) (u := .slice ad3 (adL ls ⟨x0, x1, x2⟩).length cd3) (show w31.heap.size ≠ w.heap.size + 2 by omega) ⟨_, (OB.put0).c1⟩
        have OM := (OB.put0 (u := .slice ad0 ts.length cd0)).put1 (u := .slice ad3 (adL ls ⟨x0, x1, x2⟩).length cd3)
        have q0 := (o0.setFar (b := w31.heap.size) (o := 0) (x := .slice ad0 ts.length cd0) (fun e => ne0 _ e rfl)).setFar (b := w31.heap.size) (o := 1) (x := .slice ad3 (adL ls ⟨x0, x1, x2⟩).length cd3) (fun e => ne0 _ e rfl)
        have q3 := (o3.setFar (b := w31.heap.size) (o := 0) (x := .slice ad0 ts.length cd0) (fun e => ne3 _ e rfl)).setFar (b := w31.heap.size) (o := 1) (x := .slice ad3 (adL ls ⟨x0, x1, x2⟩).length cd3) (fun e => ne3 _ e rfl)
        clear j0 j1 j2 j3 OB hHeld NS XS XT VS HT HD KB ne0 ne3
        generalize (w47.setCell ⟨w31.heap.size, 0, none⟩ (.slice ad0 ts.length cd0)).setCell ⟨w31.heap.size, 1, none⟩ (.slice ad3 (adL ls ⟨x0, x1, x2⟩).length cd3) = WL at *
        generalize w31.heap.size = bo at *
        have j0 := OM.c0
        have j1 := OM.c1
        cases cg : netB ts (adL ls ⟨x0, x1, x2⟩) with
        | false =>
          have HG := Lib.hid cg
          have HF := Lib.hid (ad_f1 cg)
          clear cg
          go_wp2_with fail
          refine (isNet_b _ _ ts _ _ ⟨q0.rd, q3.rd⟩ HG.out).mono ?_
          rintro e wE ⟨rfl, hbE⟩
          have VE := VL.next hbE
          have NE := NT.next hbE
          have r0 := VE.c0
          have r1 := VE.c1
          have s0 := VE.f0
          have s1 := VE.f1
          have sz := VE.lt
          go_wp2
          refine bodyPost_ret (v := .tuple #[.agg #[.slice none 0 0, .slice none 0 0], .bool false]) (by simp [results, Try.results38, go_sem, r0, r1, s0, s1, *]) rfl ⟨.slice none 0 0, .slice none 0 0, by rw [HF.out.1], by rw [HF.out.2.1, HF.out.2.2]; exact OwnN.nil _ _ _, ?_⟩
          exact (NE.below.setCell (p := ⟨w.heap.size + 2, 0, none⟩) (by show w.heap.size ≤ w.heap.size + 2; omega) _).setCell (p := ⟨w.heap.size + 2, 1, none⟩) (by show w.heap.size ≤ w.heap.size + 2; omega) _
        | true =>
          have HG := Lib.hid cg
          have HF := Lib.hid (ad_t H0.out cg)
          clear cg
          go_wp2_with fail
          refine (isNet_b _ _ ts _ _ ⟨q0.rd, q3.rd⟩ HG.out).mono ?_
          rintro e wE ⟨rfl, hbE⟩
          have VE := VL.next hbE
          have NE := NT.next hbE
          have OE := OM.next hbE
          have pE := q0.later hbE
          have pF := q3.later hbE
          have r0 := VE.c0
          have r1 := VE.c1
          have s0 := VE.f0
          have s1 := VE.f1
          have sz := VE.lt
          have j0 := OE.c0
          have j1 := OE.c1
          go_wp2
          refine bodyPost_ret (v := .tuple #[.agg #[.slice ad0 ts.length cd0, .slice ad3 (adL ls ⟨x0, x1, x2⟩).length cd3], .bool true]) (by simp [results, Try.results38, go_sem, r0, r1, s0, s1, j0, j1, sz]) rfl ⟨_, _, by rw [HF.out.1], ?_, ?_⟩
          · rw [HF.out.2.1, HF.out.2.2]
            have u0 := ((pE.setFar (b := w.heap.size + 2) (o := 0) (x := .slice ad0 ts.length cd0) (fun e => by have := (pE.lt _ e).1; omega)).setFar (b := w.heap.size + 2) (o := 1) (x := .slice ad3 (adL ls ⟨x0, x1, x2⟩).length cd3) (fun e => by have := (pE.lt _ e).1; omega)).base (B' := w.heap.size) (by omega)
            have u1 := ((pF.setFar (b := w.heap.size + 2) (o := 0) (x := .slice ad0 ts.length cd0) (fun e => by have := (pF.lt _ e).1; omega)).setFar (b := w.heap.size + 2) (o := 1) (x := .slice ad3 (adL ls ⟨x0, x1, x2⟩).length cd3) (fun e => by have := (pF.lt _ e).1; omega)).base (B' := w.heap.size) (by omega)
            exact ⟨⟨u0, fun k hk => (u0.lt k hk).2⟩, ⟨u1, fun k hk => (u1.lt k hk).2⟩⟩
          · exact (NE.below.setCell (p := ⟨w.heap.size + 2, 0, none⟩) (by show w.heap.size ≤ w.heap.size + 2; omega) _).setCell (p := ⟨w.heap.size + 2, 1, none⟩) (by show w.heap.size ≤ w.heap.size + 2; omega) _
      refine AllReadyH.cons (o := { dst := some 33, op := Go.Op.buildSlice 94 3 #[(0, Go.Operand.tmp 26), (1, Go.Operand.tmp 28), (2, Go.Operand.tmp 32)], type := 94, pos := "l6_tower.go:154", after := #[{ on := 6, ground := Go.Ground.data }, { on := 8, ground := Go.Ground.data }, { on := 12, ground := Go.Ground.data }], guard := none }) rfl (fun K hK => ?_) ?_
      · go_simp
        refine hK.out _ _ ?_ (fun hHeld => ?_)
        · exact KB.out _ (hB30.alloc hB30.size _)
        clear hK K
        try simp only [Act.put, List.setIfInBounds_toArray, List.set_cons_zero, List.set_cons_succ]
        refine wpAnyH_name ?_
        intro w49 hw49
        rw [← hw49] at hHeld
        have hb49 := below_alloc hw49
        have z49 := lt_named hw49
        have d0 : w49.cell? ⟨w29.heap.size, 0, none⟩ = some (.slice a5 k p1) := by rw [hw49]; simp [go_sem]
        have d1 := show w49.cell? ⟨w29.heap.size, 1, none⟩ = some _ by rw [hw49]; simp [go_sem]; rfl
        have d2 : w49.cell? ⟨w29.heap.size, 2, none⟩ = some (.slice a6 (m - k) c6) := by rw [hw49]; simp [go_sem]
        have r3 : RdR c3 3 w49 _ [(⟨x0, x1, x2⟩ : T3)] := RdR.one3 ⟨x0, x1, x2⟩ (World.block_lt_of_cell? _ _ (bcell hb49 b0)) (Nat.le_refl _) (by unfold maxLen; decide) (bcell hb49 b0) (bcell hb49 b1) (bcell hb49 b2)
        clear hw49
        have b0 := bcell hb49 b0
        have b1 := bcell hb49 b1
        have b2 := bcell hb49 b2
        have hB50 := hB30.trans (hb49.mono hB30.size)
        have hP := fun (y : World) (hy : Below w49.heap.size w49 y) => pk3_parts (bcell hy d0) (bcell hy d1) (bcell hy d2) (HT.out.later ((hB30.trans (hb49.mono hB30.size)).trans (hy.mono (Nat.le_trans hB30.size hb49.size)))) (r3.later hy) (HD.out.later ((hB30.trans (hb49.mono hB30.size)).trans (hy.mono (Nat.le_trans hB30.size hb49.size)))) HL.out.1 HL.out.2.1 HL.out.2.2
        have hpl := z49
        clear d0 d1 d2 r3 b0 b1 b2
        have hPB := Below.refl w49.heap.size w49
        refine wpAnyH_ready (rs := [2, 16]) (by kernel_rfl) (by simp) ?_
        refine AllReadyH.cons (o := { dst := some 22, op := Go.Op.call { callee := Go.Callee.value (Go.Operand.func 70), args := #[Go.Operand.tmp 21], argTypes := #[28] }, type := 28, pos := "l6_tower.go:154", after := #[{ on := 1, ground := Go.Ground.data }], guard := none }) rfl (fun K hK => ?_) ?_
        · go_simp
          refine (cloneTower_any _ ts _ (by rw [← HN.out]; omega) ((NS.next hB50).rd.1)).mono ?_
          rintro e w51 ⟨v, rfl, oT, hb51⟩
          obtain ⟨ad0, cd0, rfl, -⟩ := oT.rd.len
          have o0 := oT.base (B' := wS.heap.size) hB50.size
          try go_simp
          refine hK.out _ _ ?_ (fun hHeld => ?_)
          · exact KB.out _ (hB50.trans (hb51.mono hB50.size))
          clear hK K
          try simp only [Act.put, List.setIfInBounds_toArray, List.set_cons_zero, List.set_cons_succ]
          have hPB := hPB.trans (hb51.mono hPB.size)
          have hB52 := hB50.trans (hb51.mono hB50.size)
          clear oT
          refine wpAnyH_ready (rs := [14, 16]) (by kernel_rfl) (by simp) ?_
          refine AllReadyH.cons (o := { dst := some 34, op := Go.Op.call { callee := Go.Callee.value (Go.Operand.func 71), args := #[Go.Operand.tmp 33], argTypes := #[94] }, type := 29, pos := "l6_tower.go:154", after := #[{ on := 13, ground := Go.Ground.data }, { on := 2, ground := Go.Ground.chain }], guard := none }) rfl (fun K hK => ?_) ?_
          · go_simp
            refine (concatLink_any _ 3 _ _ _ (by decide) (Nat.lt_of_lt_of_le hpl hPB.size) (hP _ hPB)).mono ?_
            rintro e w53 ⟨v, rfl, oL, hb53⟩
            rw [catRLink_three, ← HAD.out] at oL
            obtain ⟨ad3, cd3, rfl, -⟩ := oL.rd.len
            have o3 := oL.base (B' := wS.heap.size) hB52.size
            try go_simp
            refine hK.out _ _ ?_ (fun hHeld => ?_)
            · exact KB.out _ (hB52.trans (hb53.mono hB52.size))
            clear hK K
            try simp only [Act.put, List.setIfInBounds_toArray, List.set_cons_zero, List.set_cons_succ]
            have hPB := hPB.trans (hb53.mono hPB.size)
            have o0 := o0.later hb53
            have hB54 := hB52.trans (hb53.mono hB52.size)
            clear oL hP hPB hpl
            refine wpAnyH_take (i := 15) (oi := { dst := some 35, op := Go.Op.build 31 #[(0, Go.Operand.tmp 22), (1, Go.Operand.tmp 34)], type := 31, pos := "l6_tower.go:154", after := #[{ on := 2, ground := Go.Ground.data }, { on := 14, ground := Go.Ground.data }], guard := none }) (v := ?_) rfl (by kernel_rfl) (by kernel_rfl) (by kernel_rfl) (fun _ _ _ h => h) (Or.inl ⟨by rfl, ?_⟩) (by assumption) ?_
            rotate_left
            · intro w hSw; (try dsimp only at hSw); go_simp; try with_reducible rfl
            try simp only [Act.put, List.setIfInBounds_toArray, List.set_cons_zero, List.set_cons_succ]
            refine wpAnyH_ready (rs := [16]) (by kernel_rfl) (by simp) ?_
            refine AllReadyH.cons (o := { dst := some 8, op := Go.Op.alloc 31, type := 0, pos := "l6_tower.go:154", after := #[], guard := none }) rfl (fun K hK => ?_) AllReadyH.nil
            have o0o := o0
            have o3o := o3
            go_simp
            refine hK.out _ _ ?_ (fun hHeld => ?_)
            · exact KB.out _ (hB54.alloc hB54.size _)
            clear hK K
            try simp only [Act.put, List.setIfInBounds_toArray, List.set_cons_zero, List.set_cons_succ]
            refine wpAnyH_name ?_
            intro w55 hw55
            rw [← hw55] at hHeld
            have hb55 := below_alloc hw55
            have z55 := lt_named hw55
            have OB : Var2 w55 w53.heap.size (.slice none 0 0) (.slice none 0 0) := by rw [hw55]; exact Var2.new _ _ _ _
            have hbl := hB54.size
            clear hw55
            have o0 := o0.later hb55
            have o3 := o3.later hb55
            have hB56 := hB54.trans (hb55.mono hB54.size)
            have hzb := z55
            have ne0 : ∀ k, (Value.slice ad0 ts.length cd0).ownBlock = some k → k ≠ w53.heap.size := fun k hk => by have := (o0o.lt k hk).2; omega
            have ne3 : ∀ k, (Value.slice ad3 (adL ls ⟨x0, x1, x2⟩).length cd3).ownBlock = some k → k ≠ w53.heap.size := fun k hk => by have := (o3o.lt k hk).2; omega
            clear o0o
            clear o3o
            refine wpAnyH_ready (rs := [17]) (by kernel_rfl) (by simp) ?_
            refine AllReadyH.cons (o := { dst := none, op := Go.Op.store 31 (Go.Operand.tmp 8) (Go.Operand.tmp 35), type := 0, pos := "l6_tower.go:154", after := #[{ on := 16, ground := Go.Ground.data }, { on := 15, ground := Go.Ground.data }, { on := 14, ground := Go.Ground.chain }, { on := 0, ground := Go.Ground.phase }, { on := 1, ground := Go.Ground.phase }, { on := 2, ground := Go.Ground.phase }, { on := 3, ground := Go.Ground.phase }, { on := 4, ground := Go.Ground.phase }, { on := 5, ground := Go.Ground.phase }, { on := 6, ground := Go.Ground.phase }, { on := 7, ground := Go.Ground.phase }, { on := 8, ground := Go.Ground.phase }, { on := 9, ground := Go.Ground.phase }, { on := 10, ground := Go.Ground.phase }, { on := 11, ground := Go.Ground.phase }, { on := 12, ground := Go.Ground.phase }, { on := 13, ground := Go.Ground.phase }, { on := 14, ground := Go.Ground.phase }, { on := 15, ground := Go.Ground.phase }, { on := 16, ground := Go.Ground.phase }], guard := none }) rfl (fun K hK => ?_) AllReadyH.nil
            have j0 := OB.c0
            have j1 := OB.c1
            have j2 := OB.f0
            have j3 := OB.f1
            have hbl3 : w.heap.size + 3 ≤ w53.heap.size := by omega
            have NT := ((NS.next hB56).set (o := 0) (u := .slice ad0 ts.length cd0) HR.out (show w.heap.size < w53.heap.size by omega)).set (o := 1) (u := .slice ad3 (adL ls ⟨x0, x1, x2⟩).length cd3) HR.out (show w.heap.size < w53.heap.size by omega)
            have XT := ((XS.next hB56).set (o := 0) (u := .slice ad0 ts.length cd0) (show w53.heap.size ≠ w.heap.size + 1 by omega)).set (o := 1) (u := .slice ad3 (adL ls ⟨x0, x1, x2⟩).length cd3) (show w53.heap.size ≠ w.heap.size + 1 by omega)
            go_simp
            refine hK.out _ _ ?_ (fun hHeld => ?_)
            · exact ⟨NT.b0, NT.b1, XT.c0, XT.c1, XT.c2⟩
            clear hK K
            try simp only [Act.put, List.setIfInBounds_toArray, List.set_cons_zero, List.set_cons_succ]
            refine wpAnyH_done (by kernel_rfl) ?_ _
            have VL := ((VS.next hB56).set (o := 0) (u := .slice ad0 ts.length cd0) (show w53.heap.size ≠ w.heap.size + 2 by omega) ⟨_, OB.c0⟩).set (o := 1) (u := .slice ad3 (adL ls ⟨x0, x1, x2⟩).length cd3) (show w53.heap.size ≠ w.heap.size + 2 by omega) ⟨_, (OB.put0).c1⟩
            have OM := (OB.put0 (u := .slice ad0 ts.length cd0)).put1 (u := .slice ad3 (adL ls ⟨x0, x1, x2⟩).length cd3)
            have q0 := (o0.setFar (b := w53.heap.size) (o := 0) (x := .slice ad0 ts.length cd0) (fun e => ne0 _ e rfl)).setFar (b := w53.heap.size) (o := 1) (x := .slice ad3 (adL ls ⟨x0, x1, x2⟩).length cd3) (fun e => ne0 _ e rfl)
            have q3 := (o3.setFar (b := w53.heap.size) (o := 0) (x := .slice ad0 ts.length cd0) (fun e => ne3 _ e rfl)).setFar (b := w53.heap.size) (o := 1) (x := .slice ad3 (adL ls ⟨x0, x1, x2⟩).length cd3) (fun e => ne3 _ e rfl)
            clear j0 j1 j2 j3 OB hHeld NS XS XT VS HT HD KB ne0 ne3
            generalize (w55.setCell ⟨w53.heap.size, 0, none⟩ (.slice ad0 ts.length cd0)).setCell ⟨w53.heap.size, 1, none⟩ (.slice ad3 (adL ls ⟨x0, x1, x2⟩).length cd3) = WL at *
            generalize w53.heap.size = bo at *
            have j0 := OM.c0
            have j1 := OM.c1
            cases cg : netB ts (adL ls ⟨x0, x1, x2⟩) with
            | false =>
              have HG := Lib.hid cg
              have HF := Lib.hid (ad_f1 cg)
              clear cg
              go_wp2_with fail
              refine (isNet_b _ _ ts _ _ ⟨q0.rd, q3.rd⟩ HG.out).mono ?_
              rintro e wE ⟨rfl, hbE⟩
              have VE := VL.next hbE
              have NE := NT.next hbE
              have r0 := VE.c0
              have r1 := VE.c1
              have s0 := VE.f0
              have s1 := VE.f1
              have sz := VE.lt
              go_wp2
              refine bodyPost_ret (v := .tuple #[.agg #[.slice none 0 0, .slice none 0 0], .bool false]) (by simp [results, Try.results38, go_sem, r0, r1, s0, s1, *]) rfl ⟨.slice none 0 0, .slice none 0 0, by rw [HF.out.1], by rw [HF.out.2.1, HF.out.2.2]; exact OwnN.nil _ _ _, ?_⟩
              exact (NE.below.setCell (p := ⟨w.heap.size + 2, 0, none⟩) (by show w.heap.size ≤ w.heap.size + 2; omega) _).setCell (p := ⟨w.heap.size + 2, 1, none⟩) (by show w.heap.size ≤ w.heap.size + 2; omega) _
            | true =>
              have HG := Lib.hid cg
              have HF := Lib.hid (ad_t H0.out cg)
              clear cg
              go_wp2_with fail
              refine (isNet_b _ _ ts _ _ ⟨q0.rd, q3.rd⟩ HG.out).mono ?_
              rintro e wE ⟨rfl, hbE⟩
              have VE := VL.next hbE
              have NE := NT.next hbE
              have OE := OM.next hbE
              have pE := q0.later hbE
              have pF := q3.later hbE
              have r0 := VE.c0
              have r1 := VE.c1
              have s0 := VE.f0
              have s1 := VE.f1
              have sz := VE.lt
              have j0 := OE.c0
              have j1 := OE.c1
              go_wp2
              refine bodyPost_ret (v := .tuple #[.agg #[.slice ad0 ts.length cd0, .slice ad3 (adL ls ⟨x0, x1, x2⟩).length cd3], .bool true]) (by simp [results, Try.results38, go_sem, r0, r1, s0, s1, j0, j1, sz]) rfl ⟨_, _, by rw [HF.out.1], ?_, ?_⟩
              · rw [HF.out.2.1, HF.out.2.2]
                have u0 := ((pE.setFar (b := w.heap.size + 2) (o := 0) (x := .slice ad0 ts.length cd0) (fun e => by have := (pE.lt _ e).1; omega)).setFar (b := w.heap.size + 2) (o := 1) (x := .slice ad3 (adL ls ⟨x0, x1, x2⟩).length cd3) (fun e => by have := (pE.lt _ e).1; omega)).base (B' := w.heap.size) (by omega)
                have u1 := ((pF.setFar (b := w.heap.size + 2) (o := 0) (x := .slice ad0 ts.length cd0) (fun e => by have := (pF.lt _ e).1; omega)).setFar (b := w.heap.size + 2) (o := 1) (x := .slice ad3 (adL ls ⟨x0, x1, x2⟩).length cd3) (fun e => by have := (pF.lt _ e).1; omega)).base (B' := w.heap.size) (by omega)
                exact ⟨⟨u0, fun k hk => (u0.lt k hk).2⟩, ⟨u1, fun k hk => (u1.lt k hk).2⟩⟩
              · exact (NE.below.setCell (p := ⟨w.heap.size + 2, 0, none⟩) (by show w.heap.size ≤ w.heap.size + 2; omega) _).setCell (p := ⟨w.heap.size + 2, 1, none⟩) (by show w.heap.size ≤ w.heap.size + 2; omega) _
          refine AllReadyH.cons (o := { dst := some 8, op := Go.Op.alloc 31, type := 0, pos := "l6_tower.go:154", after := #[], guard := none }) rfl (fun K hK => ?_) AllReadyH.nil
          have o0o := o0
          go_simp
          refine hK.out _ _ ?_ (fun hHeld => ?_)
          · exact KB.out _ (hB52.alloc hB52.size _)
          clear hK K
          try simp only [Act.put, List.setIfInBounds_toArray, List.set_cons_zero, List.set_cons_succ]
          refine wpAnyH_name ?_
          intro w57 hw57
          rw [← hw57] at hHeld
          have hb57 := below_alloc hw57
          have z57 := lt_named hw57
          have OB : Var2 w57 w51.heap.size (.slice none 0 0) (.slice none 0 0) := by rw [hw57]; exact Var2.new _ _ _ _
          have hbl := hB52.size
          clear hw57
          have hPB := hPB.trans (hb57.mono hPB.size)
          have o0 := o0.later hb57
          have hB58 := hB52.trans (hb57.mono hB52.size)
          have hzb := z57
          have ne0 : ∀ k, (Value.slice ad0 ts.length cd0).ownBlock = some k → k ≠ w51.heap.size := fun k hk => by have := (o0o.lt k hk).2; omega
          clear o0o
          refine wpAnyH_ready (rs := [14]) (by kernel_rfl) (by simp) ?_
          refine AllReadyH.cons (o := { dst := some 34, op := Go.Op.call { callee := Go.Callee.value (Go.Operand.func 71), args := #[Go.Operand.tmp 33], argTypes := #[94] }, type := 29, pos := "l6_tower.go:154", after := #[{ on := 13, ground := Go.Ground.data }, { on := 2, ground := Go.Ground.chain }], guard := none }) rfl (fun K hK => ?_) AllReadyH.nil
          go_simp
          refine (concatLink_any _ 3 _ _ _ (by decide) (Nat.lt_of_lt_of_le hpl hPB.size) (hP _ hPB)).mono ?_
          rintro e w59 ⟨v, rfl, oL, hb59⟩
          rw [catRLink_three, ← HAD.out] at oL
          obtain ⟨ad3, cd3, rfl, -⟩ := oL.rd.len
          have o3 := oL.base (B' := wS.heap.size) hB58.size
          try go_simp
          refine hK.out _ _ ?_ (fun hHeld => ?_)
          · exact KB.out _ (hB58.trans (hb59.mono hB58.size))
          clear hK K
          try simp only [Act.put, List.setIfInBounds_toArray, List.set_cons_zero, List.set_cons_succ]
          have hPB := hPB.trans (hb59.mono hPB.size)
          have hzb := Nat.lt_of_lt_of_le hzb hb59.size
          have o0 := o0.later hb59
          have OB := OB.next hb59
          have hB60 := hB58.trans (hb59.mono hB58.size)
          have ne3 : ∀ k, (Value.slice ad3 (adL ls ⟨x0, x1, x2⟩).length cd3).ownBlock = some k → k ≠ w51.heap.size := fun k hk => by have := (oL.lt k hk).1; have := hzb; omega
          clear oL hP hPB hpl
          refine wpAnyH_take (i := 15) (oi := { dst := some 35, op := Go.Op.build 31 #[(0, Go.Operand.tmp 22), (1, Go.Operand.tmp 34)], type := 31, pos := "l6_tower.go:154", after := #[{ on := 2, ground := Go.Ground.data }, { on := 14, ground := Go.Ground.data }], guard := none }) (v := ?_) rfl (by kernel_rfl) (by kernel_rfl) (by kernel_rfl) (fun _ _ _ h => h) (Or.inl ⟨by rfl, ?_⟩) (by assumption) ?_
          rotate_left
          · intro w hSw; (try dsimp only at hSw); go_simp; try with_reducible rfl
          try simp only [Act.put, List.setIfInBounds_toArray, List.set_cons_zero, List.set_cons_succ]
          refine wpAnyH_ready (rs := [17]) (by kernel_rfl) (by simp) ?_
          refine AllReadyH.cons (o := { dst := none, op := Go.Op.store 31 (Go.Operand.tmp 8) (Go.Operand.tmp 35), type := 0, pos := "l6_tower.go:154", after := #[{ on := 16, ground := Go.Ground.data }, { on := 15, ground := Go.Ground.data }, { on := 14, ground := Go.Ground.chain }, { on := 0, ground := Go.Ground.phase }, { on := 1, ground := Go.Ground.phase }, { on := 2, ground := Go.Ground.phase }, { on := 3, ground := Go.Ground.phase }, { on := 4, ground := Go.Ground.phase }, { on := 5, ground := Go.Ground.phase }, { on := 6, ground := Go.Ground.phase }, { on := 7, ground := Go.Ground.phase }, { on := 8, ground := Go.Ground.phase }, { on := 9, ground := Go.Ground.phase }, { on := 10, ground := Go.Ground.phase }, { on := 11, ground := Go.Ground.phase }, { on := 12, ground := Go.Ground.phase }, { on := 13, ground := Go.Ground.phase }, { on := 14, ground := Go.Ground.phase }, { on := 15, ground := Go.Ground.phase }, { on := 16, ground := Go.Ground.phase }], guard := none }) rfl (fun K hK => ?_) AllReadyH.nil
          have j0 := OB.c0
          have j1 := OB.c1
          have j2 := OB.f0
          have j3 := OB.f1
          have hbl3 : w.heap.size + 3 ≤ w51.heap.size := by omega
          have NT := ((NS.next hB60).set (o := 0) (u := .slice ad0 ts.length cd0) HR.out (show w.heap.size < w51.heap.size by omega)).set (o := 1) (u := .slice ad3 (adL ls ⟨x0, x1, x2⟩).length cd3) HR.out (show w.heap.size < w51.heap.size by omega)
          have XT := ((XS.next hB60).set (o := 0) (u := .slice ad0 ts.length cd0) (show w51.heap.size ≠ w.heap.size + 1 by omega)).set (o := 1) (u := .slice ad3 (adL ls ⟨x0, x1, x2⟩).length cd3) (show w51.heap.size ≠ w.heap.size + 1 by omega)
          go_simp
          refine hK.out _ _ ?_ (fun hHeld => ?_)
          · exact ⟨NT.b0, NT.b1, XT.c0, XT.c1, XT.c2⟩
          clear hK K
          try simp only [Act.put, List.setIfInBounds_toArray, List.set_cons_zero, List.set_cons_succ]
          refine wpAnyH_done (by kernel_rfl) ?_ _
          have VL := ((VS.next hB60).set (o := 0) (u := .slice ad0 ts.length cd0) (show w51.heap.size ≠ w.heap.size + 2 by omega) ⟨_, OB.c0⟩).set (o := 1) (u := .slice ad3 (adL ls ⟨x0, x1, x2⟩).length cd3) (show w51.heap.size ≠ w.heap.size + 2 by omega) ⟨_, (OB.put0).c1⟩
          have OM := (OB.put0 (u := .slice ad0 ts.length cd0)).put1 (u := .slice ad3 (adL ls ⟨x0, x1, x2⟩).length cd3)
          have q0 := (o0.setFar (b := w51.heap.size) (o := 0) (x := .slice ad0 ts.length cd0) (fun e => ne0 _ e rfl)).setFar (b := w51.heap.size) (o := 1) (x := .slice ad3 (adL ls ⟨x0, x1, x2⟩).length cd3) (fun e => ne0 _ e rfl)
          have q3 := (o3.setFar (b := w51.heap.size) (o := 0) (x := .slice ad0 ts.length cd0) (fun e => ne3 _ e rfl)).setFar (b := w51.heap.size) (o := 1) (x := .slice ad3 (adL ls ⟨x0, x1, x2⟩).length cd3) (fun e => ne3 _ e rfl)
          clear j0 j1 j2 j3 OB hHeld NS XS XT VS HT HD KB ne0 ne3
          generalize (w59.setCell ⟨w51.heap.size, 0, none⟩ (.slice ad0 ts.length cd0)).setCell ⟨w51.heap.size, 1, none⟩ (.slice ad3 (adL ls ⟨x0, x1, x2⟩).length cd3) = WL at *
          generalize w51.heap.size = bo at *
          have j0 := OM.c0
          have j1 := OM.c1
          cases cg : netB ts (adL ls ⟨x0, x1, x2⟩) with
          | false =>
            have HG := Lib.hid cg
            have HF := Lib.hid (ad_f1 cg)
            clear cg
            go_wp2_with fail
            refine (isNet_b _ _ ts _ _ ⟨q0.rd, q3.rd⟩ HG.out).mono ?_
            rintro e wE ⟨rfl, hbE⟩
            have VE := VL.next hbE
            have NE := NT.next hbE
            have r0 := VE.c0
            have r1 := VE.c1
            have s0 := VE.f0
            have s1 := VE.f1
            have sz := VE.lt
            go_wp2
            refine bodyPost_ret (v := .tuple #[.agg #[.slice none 0 0, .slice none 0 0], .bool false]) (by simp [results, Try.results38, go_sem, r0, r1, s0, s1, *]) rfl ⟨.slice none 0 0, .slice none 0 0, by rw [HF.out.1], by rw [HF.out.2.1, HF.out.2.2]; exact OwnN.nil _ _ _, ?_⟩
            exact (NE.below.setCell (p := ⟨w.heap.size + 2, 0, none⟩) (by show w.heap.size ≤ w.heap.size + 2; omega) _).setCell (p := ⟨w.heap.size + 2, 1, none⟩) (by show w.heap.size ≤ w.heap.size + 2; omega) _
          | true =>
            have HG := Lib.hid cg
            have HF := Lib.hid (ad_t H0.out cg)
            clear cg
            go_wp2_with fail
            refine (isNet_b _ _ ts _ _ ⟨q0.rd, q3.rd⟩ HG.out).mono ?_
            rintro e wE ⟨rfl, hbE⟩
            have VE := VL.next hbE
            have NE := NT.next hbE
            have OE := OM.next hbE
            have pE := q0.later hbE
            have pF := q3.later hbE
            have r0 := VE.c0
            have r1 := VE.c1
            have s0 := VE.f0
            have s1 := VE.f1
            have sz := VE.lt
            have j0 := OE.c0
            have j1 := OE.c1
            go_wp2
            refine bodyPost_ret (v := .tuple #[.agg #[.slice ad0 ts.length cd0, .slice ad3 (adL ls ⟨x0, x1, x2⟩).length cd3], .bool true]) (by simp [results, Try.results38, go_sem, r0, r1, s0, s1, j0, j1, sz]) rfl ⟨_, _, by rw [HF.out.1], ?_, ?_⟩
            · rw [HF.out.2.1, HF.out.2.2]
              have u0 := ((pE.setFar (b := w.heap.size + 2) (o := 0) (x := .slice ad0 ts.length cd0) (fun e => by have := (pE.lt _ e).1; omega)).setFar (b := w.heap.size + 2) (o := 1) (x := .slice ad3 (adL ls ⟨x0, x1, x2⟩).length cd3) (fun e => by have := (pE.lt _ e).1; omega)).base (B' := w.heap.size) (by omega)
              have u1 := ((pF.setFar (b := w.heap.size + 2) (o := 0) (x := .slice ad0 ts.length cd0) (fun e => by have := (pF.lt _ e).1; omega)).setFar (b := w.heap.size + 2) (o := 1) (x := .slice ad3 (adL ls ⟨x0, x1, x2⟩).length cd3) (fun e => by have := (pF.lt _ e).1; omega)).base (B' := w.heap.size) (by omega)
              exact ⟨⟨u0, fun k hk => (u0.lt k hk).2⟩, ⟨u1, fun k hk => (u1.lt k hk).2⟩⟩
            · exact (NE.below.setCell (p := ⟨w.heap.size + 2, 0, none⟩) (by show w.heap.size ≤ w.heap.size + 2; omega) _).setCell (p := ⟨w.heap.size + 2, 1, none⟩) (by show w.heap.size ≤ w.heap.size + 2; omega) _
        refine AllReadyH.cons (o := { dst := some 8, op := Go.Op.alloc 31, type := 0, pos := "l6_tower.go:154", after := #[], guard := none }) rfl (fun K hK => ?_) AllReadyH.nil
        go_simp
        refine hK.out _ _ ?_ (fun hHeld => ?_)
        · exact KB.out _ (hB50.alloc hB50.size _)
        clear hK K
        try simp only [Act.put, List.setIfInBounds_toArray, List.set_cons_zero, List.set_cons_succ]
        refine wpAnyH_name ?_
        intro w61 hw61
        rw [← hw61] at hHeld
        have hb61 := below_alloc hw61
        have z61 := lt_named hw61
        have OB : Var2 w61 w49.heap.size (.slice none 0 0) (.slice none 0 0) := by rw [hw61]; exact Var2.new _ _ _ _
        have hbl := hB50.size
        clear hw61
        have hPB := hPB.trans (hb61.mono hPB.size)
        have hB62 := hB50.trans (hb61.mono hB50.size)
        have hzb := z61
        refine wpAnyH_ready (rs := [2]) (by kernel_rfl) (by simp) ?_
        refine AllReadyH.cons (o := { dst := some 22, op := Go.Op.call { callee := Go.Callee.value (Go.Operand.func 70), args := #[Go.Operand.tmp 21], argTypes := #[28] }, type := 28, pos := "l6_tower.go:154", after := #[{ on := 1, ground := Go.Ground.data }], guard := none }) rfl (fun K hK => ?_) AllReadyH.nil
        go_simp
        refine (cloneTower_any _ ts _ (by rw [← HN.out]; omega) ((NS.next hB62).rd.1)).mono ?_
        rintro e w63 ⟨v, rfl, oT, hb63⟩
        obtain ⟨ad0, cd0, rfl, -⟩ := oT.rd.len
        have o0 := oT.base (B' := wS.heap.size) hB62.size
        try go_simp
        refine hK.out _ _ ?_ (fun hHeld => ?_)
        · exact KB.out _ (hB62.trans (hb63.mono hB62.size))
        clear hK K
        try simp only [Act.put, List.setIfInBounds_toArray, List.set_cons_zero, List.set_cons_succ]
        have hPB := hPB.trans (hb63.mono hPB.size)
        have hzb := Nat.lt_of_lt_of_le hzb hb63.size
        have OB := OB.next hb63
        have hB64 := hB62.trans (hb63.mono hB62.size)
        have ne0 : ∀ k, (Value.slice ad0 ts.length cd0).ownBlock = some k → k ≠ w49.heap.size := fun k hk => by have := (oT.lt k hk).1; have := hzb; omega
        clear oT
        refine wpAnyH_ready (rs := [14]) (by kernel_rfl) (by simp) ?_
        refine AllReadyH.cons (o := { dst := some 34, op := Go.Op.call { callee := Go.Callee.value (Go.Operand.func 71), args := #[Go.Operand.tmp 33], argTypes := #[94] }, type := 29, pos := "l6_tower.go:154", after := #[{ on := 13, ground := Go.Ground.data }, { on := 2, ground := Go.Ground.chain }], guard := none }) rfl (fun K hK => ?_) AllReadyH.nil
        go_simp
        refine (concatLink_any _ 3 _ _ _ (by decide) (Nat.lt_of_lt_of_le hpl hPB.size) (hP _ hPB)).mono ?_
        rintro e w65 ⟨v, rfl, oL, hb65⟩
        rw [catRLink_three, ← HAD.out] at oL
        obtain ⟨ad3, cd3, rfl, -⟩ := oL.rd.len
        have o3 := oL.base (B' := wS.heap.size) hB64.size
        try go_simp
        refine hK.out _ _ ?_ (fun hHeld => ?_)
        · exact KB.out _ (hB64.trans (hb65.mono hB64.size))
        clear hK K
        try simp only [Act.put, List.setIfInBounds_toArray, List.set_cons_zero, List.set_cons_succ]
        have hPB := hPB.trans (hb65.mono hPB.size)
        have hzb := Nat.lt_of_lt_of_le hzb hb65.size
        have o0 := o0.later hb65
        have OB := OB.next hb65
        have hB66 := hB64.trans (hb65.mono hB64.size)
        have ne3 : ∀ k, (Value.slice ad3 (adL ls ⟨x0, x1, x2⟩).length cd3).ownBlock = some k → k ≠ w49.heap.size := fun k hk => by have := (oL.lt k hk).1; have := hzb; omega
        clear oL hP hPB hpl
        refine wpAnyH_take (i := 15) (oi := { dst := some 35, op := Go.Op.build 31 #[(0, Go.Operand.tmp 22), (1, Go.Operand.tmp 34)], type := 31, pos := "l6_tower.go:154", after := #[{ on := 2, ground := Go.Ground.data }, { on := 14, ground := Go.Ground.data }], guard := none }) (v := ?_) rfl (by kernel_rfl) (by kernel_rfl) (by kernel_rfl) (fun _ _ _ h => h) (Or.inl ⟨by rfl, ?_⟩) (by assumption) ?_
        rotate_left
        · intro w hSw; (try dsimp only at hSw); go_simp; try with_reducible rfl
        try simp only [Act.put, List.setIfInBounds_toArray, List.set_cons_zero, List.set_cons_succ]
        refine wpAnyH_ready (rs := [17]) (by kernel_rfl) (by simp) ?_
        refine AllReadyH.cons (o := { dst := none, op := Go.Op.store 31 (Go.Operand.tmp 8) (Go.Operand.tmp 35), type := 0, pos := "l6_tower.go:154", after := #[{ on := 16, ground := Go.Ground.data }, { on := 15, ground := Go.Ground.data }, { on := 14, ground := Go.Ground.chain }, { on := 0, ground := Go.Ground.phase }, { on := 1, ground := Go.Ground.phase }, { on := 2, ground := Go.Ground.phase }, { on := 3, ground := Go.Ground.phase }, { on := 4, ground := Go.Ground.phase }, { on := 5, ground := Go.Ground.phase }, { on := 6, ground := Go.Ground.phase }, { on := 7, ground := Go.Ground.phase }, { on := 8, ground := Go.Ground.phase }, { on := 9, ground := Go.Ground.phase }, { on := 10, ground := Go.Ground.phase }, { on := 11, ground := Go.Ground.phase }, { on := 12, ground := Go.Ground.phase }, { on := 13, ground := Go.Ground.phase }, { on := 14, ground := Go.Ground.phase }, { on := 15, ground := Go.Ground.phase }, { on := 16, ground := Go.Ground.phase }], guard := none }) rfl (fun K hK => ?_) AllReadyH.nil
        have j0 := OB.c0
        have j1 := OB.c1
        have j2 := OB.f0
        have j3 := OB.f1
        have hbl3 : w.heap.size + 3 ≤ w49.heap.size := by omega
        have NT := ((NS.next hB66).set (o := 0) (u := .slice ad0 ts.length cd0) HR.out (show w.heap.size < w49.heap.size by omega)).set (o := 1) (u := .slice ad3 (adL ls ⟨x0, x1, x2⟩).length cd3) HR.out (show w.heap.size < w49.heap.size by omega)
        have XT := ((XS.next hB66).set (o := 0) (u := .slice ad0 ts.length cd0) (show w49.heap.size ≠ w.heap.size + 1 by omega)).set (o := 1) (u := .slice ad3 (adL ls ⟨x0, x1, x2⟩).length cd3) (show w49.heap.size ≠ w.heap.size + 1 by omega)
        go_simp
        refine hK.out _ _ ?_ (fun hHeld => ?_)
        · exact ⟨NT.b0, NT.b1, XT.c0, XT.c1, XT.c2⟩
        clear hK K
        try simp only [Act.put, List.setIfInBounds_toArray, List.set_cons_zero, List.set_cons_succ]
        refine wpAnyH_done (by kernel_rfl) ?_ _
        have VL := ((VS.next hB66).set (o := 0) (u := .slice ad0 ts.length cd0) (show w49.heap.size ≠ w.heap.size + 2 by omega) ⟨_, OB.c0⟩).set (o := 1) (u := .slice ad3 (adL ls ⟨x0, x1, x2⟩).length cd3) (show w49.heap.size ≠ w.heap.size + 2 by omega) ⟨_, (OB.put0).c1⟩
        have OM := (OB.put0 (u := .slice ad0 ts.length cd0)).put1 (u := .slice ad3 (adL ls ⟨x0, x1, x2⟩).length cd3)
        have q0 := (o0.setFar (b := w49.heap.size) (o := 0) (x := .slice ad0 ts.length cd0) (fun e => ne0 _ e rfl)).setFar (b := w49.heap.size) (o := 1) (x := .slice ad3 (adL ls ⟨x0, x1, x2⟩).length cd3) (fun e => ne0 _ e rfl)
        have q3 := (o3.setFar (b := w49.heap.size) (o := 0) (x := .slice ad0 ts.length cd0) (fun e => ne3 _ e rfl)).setFar (b := w49.heap.size) (o := 1) (x := .slice ad3 (adL ls ⟨x0, x1, x2⟩).length cd3) (fun e => ne3 _ e rfl)
        clear j0 j1 j2 j3 OB hHeld NS XS XT VS HT HD KB ne0 ne3
        generalize (w65.setCell ⟨w49.heap.size, 0, none⟩ (.slice ad0 ts.length cd0)).setCell ⟨w49.heap.size, 1, none⟩ (.slice ad3 (adL ls ⟨x0, x1, x2⟩).length cd3) = WL at *
        generalize w49.heap.size = bo at *
        have j0 := OM.c0
        have j1 := OM.c1
        cases cg : netB ts (adL ls ⟨x0, x1, x2⟩) with
        | false =>
          have HG := Lib.hid cg
          have HF := Lib.hid (ad_f1 cg)
          clear cg
          go_wp2_with fail
          refine (isNet_b _ _ ts _ _ ⟨q0.rd, q3.rd⟩ HG.out).mono ?_
          rintro e wE ⟨rfl, hbE⟩
          have VE := VL.next hbE
          have NE := NT.next hbE
          have r0 := VE.c0
          have r1 := VE.c1
          have s0 := VE.f0
          have s1 := VE.f1
          have sz := VE.lt
          go_wp2
          refine bodyPost_ret (v := .tuple #[.agg #[.slice none 0 0, .slice none 0 0], .bool false]) (by simp [results, Try.results38, go_sem, r0, r1, s0, s1, *]) rfl ⟨.slice none 0 0, .slice none 0 0, by rw [HF.out.1], by rw [HF.out.2.1, HF.out.2.2]; exact OwnN.nil _ _ _, ?_⟩
          exact (NE.below.setCell (p := ⟨w.heap.size + 2, 0, none⟩) (by show w.heap.size ≤ w.heap.size + 2; omega) _).setCell (p := ⟨w.heap.size + 2, 1, none⟩) (by show w.heap.size ≤ w.heap.size + 2; omega) _
        | true =>
          have HG := Lib.hid cg
          have HF := Lib.hid (ad_t H0.out cg)
          clear cg
          go_wp2_with fail
          refine (isNet_b _ _ ts _ _ ⟨q0.rd, q3.rd⟩ HG.out).mono ?_
          rintro e wE ⟨rfl, hbE⟩
          have VE := VL.next hbE
          have NE := NT.next hbE
          have OE := OM.next hbE
          have pE := q0.later hbE
          have pF := q3.later hbE
          have r0 := VE.c0
          have r1 := VE.c1
          have s0 := VE.f0
          have s1 := VE.f1
          have sz := VE.lt
          have j0 := OE.c0
          have j1 := OE.c1
          go_wp2
          refine bodyPost_ret (v := .tuple #[.agg #[.slice ad0 ts.length cd0, .slice ad3 (adL ls ⟨x0, x1, x2⟩).length cd3], .bool true]) (by simp [results, Try.results38, go_sem, r0, r1, s0, s1, j0, j1, sz]) rfl ⟨_, _, by rw [HF.out.1], ?_, ?_⟩
          · rw [HF.out.2.1, HF.out.2.2]
            have u0 := ((pE.setFar (b := w.heap.size + 2) (o := 0) (x := .slice ad0 ts.length cd0) (fun e => by have := (pE.lt _ e).1; omega)).setFar (b := w.heap.size + 2) (o := 1) (x := .slice ad3 (adL ls ⟨x0, x1, x2⟩).length cd3) (fun e => by have := (pE.lt _ e).1; omega)).base (B' := w.heap.size) (by omega)
            have u1 := ((pF.setFar (b := w.heap.size + 2) (o := 0) (x := .slice ad0 ts.length cd0) (fun e => by have := (pF.lt _ e).1; omega)).setFar (b := w.heap.size + 2) (o := 1) (x := .slice ad3 (adL ls ⟨x0, x1, x2⟩).length cd3) (fun e => by have := (pF.lt _ e).1; omega)).base (B' := w.heap.size) (by omega)
            exact ⟨⟨u0, fun k hk => (u0.lt k hk).2⟩, ⟨u1, fun k hk => (u1.lt k hk).2⟩⟩
          · exact (NE.below.setCell (p := ⟨w.heap.size + 2, 0, none⟩) (by show w.heap.size ≤ w.heap.size + 2; omega) _).setCell (p := ⟨w.heap.size + 2, 1, none⟩) (by show w.heap.size ≤ w.heap.size + 2; omega) _
      refine AllReadyH.cons (o := { dst := some 8, op := Go.Op.alloc 31, type := 0, pos := "l6_tower.go:154", after := #[], guard := none }) rfl (fun K hK => ?_) AllReadyH.nil
      go_simp
      refine hK.out _ _ ?_ (fun hHeld => ?_)
      · exact KB.out _ (hB30.alloc hB30.size _)
      clear hK K
      try simp only [Act.put, List.setIfInBounds_toArray, List.set_cons_zero, List.set_cons_succ]
      refine wpAnyH_name ?_
      intro w67 hw67
      rw [← hw67] at hHeld
      have hb67 := below_alloc hw67
      have z67 := lt_named hw67
      have OB : Var2 w67 w29.heap.size (.slice none 0 0) (.slice none 0 0) := by rw [hw67]; exact Var2.new _ _ _ _
      have hbl := hB30.size
      clear hw67
      have b0 := bcell hb67 b0
      have b1 := bcell hb67 b1
      have b2 := bcell hb67 b2
      have hB68 := hB30.trans (hb67.mono hB30.size)
      have hzb := z67
      refine wpAnyH_ready (rs := [2, 13]) (by kernel_rfl) (by simp) ?_
      refine AllReadyH.cons (o := { dst := some 22, op := Go.Op.call { callee := Go.Callee.value (Go.Operand.func 70), args := #[Go.Operand.tmp 21], argTypes := #[28] }, type := 28, pos := "l6_tower.go:154", after := #[{ on := 1, ground := Go.Ground.data }], guard := none }) rfl (fun K hK => ?_) ?_
      · go_simp
        refine (cloneTower_any _ ts _ (by rw [← HN.out]; omega) ((NS.next hB68).rd.1)).mono ?_
        rintro e w69 ⟨v, rfl, oT, hb69⟩
        obtain ⟨ad0, cd0, rfl, -⟩ := oT.rd.len
        have o0 := oT.base (B' := wS.heap.size) hB68.size
        try go_simp
        refine hK.out _ _ ?_ (fun hHeld => ?_)
        · exact KB.out _ (hB68.trans (hb69.mono hB68.size))
        clear hK K
        try simp only [Act.put, List.setIfInBounds_toArray, List.set_cons_zero, List.set_cons_succ]
        have hzb := Nat.lt_of_lt_of_le hzb hb69.size
        have b0 := bcell hb69 b0
        have b1 := bcell hb69 b1
        have b2 := bcell hb69 b2
        have OB := OB.next hb69
        have hB70 := hB68.trans (hb69.mono hB68.size)
        have ne0 : ∀ k, (Value.slice ad0 ts.length cd0).ownBlock = some k → k ≠ w29.heap.size := fun k hk => by have := (oT.lt k hk).1; have := hzb; omega
        clear oT
        refine wpAnyH_ready (rs := [13]) (by kernel_rfl) (by simp) ?_
        refine AllReadyH.cons (o := { dst := some 33, op := Go.Op.buildSlice 94 3 #[(0, Go.Operand.tmp 26), (1, Go.Operand.tmp 28), (2, Go.Operand.tmp 32)], type := 94, pos := "l6_tower.go:154", after := #[{ on := 6, ground := Go.Ground.data }, { on := 8, ground := Go.Ground.data }, { on := 12, ground := Go.Ground.data }], guard := none }) rfl (fun K hK => ?_) AllReadyH.nil
        go_simp
        refine hK.out _ _ ?_ (fun hHeld => ?_)
        · exact KB.out _ (hB70.alloc hB70.size _)
        clear hK K
        try simp only [Act.put, List.setIfInBounds_toArray, List.set_cons_zero, List.set_cons_succ]
        refine wpAnyH_name ?_
        intro w71 hw71
        rw [← hw71] at hHeld
        have hb71 := below_alloc hw71
        have z71 := lt_named hw71
        have d0 : w71.cell? ⟨w69.heap.size, 0, none⟩ = some (.slice a5 k p1) := by rw [hw71]; simp [go_sem]
        have d1 := show w71.cell? ⟨w69.heap.size, 1, none⟩ = some _ by rw [hw71]; simp [go_sem]; rfl
        have d2 : w71.cell? ⟨w69.heap.size, 2, none⟩ = some (.slice a6 (m - k) c6) := by rw [hw71]; simp [go_sem]
        have r3 : RdR c3 3 w71 _ [(⟨x0, x1, x2⟩ : T3)] := RdR.one3 ⟨x0, x1, x2⟩ (World.block_lt_of_cell? _ _ (bcell hb71 b0)) (Nat.le_refl _) (by unfold maxLen; decide) (bcell hb71 b0) (bcell hb71 b1) (bcell hb71 b2)
        clear hw71
        have hzb := Nat.lt_of_lt_of_le hzb hb71.size
        have o0 := o0.later hb71
        have b0 := bcell hb71 b0
        have b1 := bcell hb71 b1
        have b2 := bcell hb71 b2
        have OB := OB.next hb71
        have hB72 := hB70.trans (hb71.mono hB70.size)
        have hP := fun (y : World) (hy : Below w71.heap.size w71 y) => pk3_parts (bcell hy d0) (bcell hy d1) (bcell hy d2) (HT.out.later ((hB70.trans (hb71.mono hB70.size)).trans (hy.mono (Nat.le_trans hB70.size hb71.size)))) (r3.later hy) (HD.out.later ((hB70.trans (hb71.mono hB70.size)).trans (hy.mono (Nat.le_trans hB70.size hb71.size)))) HL.out.1 HL.out.2.1 HL.out.2.2
        have hpl := z71
        clear d0 d1 d2 r3 b0 b1 b2
        have hPB := Below.refl w71.heap.size w71
        refine wpAnyH_ready (rs := [14]) (by kernel_rfl) (by simp) ?_
        refine AllReadyH.cons (o := { dst := some 34, op := Go.Op.call { callee := Go.Callee.value (Go.Operand.func 71), args := #[Go.Operand.tmp 33], argTypes := #[94] }, type := 29, pos := "l6_tower.go:154", after := #[{ on := 13, ground := Go.Ground.data }, { on := 2, ground := Go.Ground.chain }], guard := none }) rfl (fun K hK => ?_) AllReadyH.nil
        go_simp
        refine (concatLink_any _ 3 _ _ _ (by decide) (Nat.lt_of_lt_of_le hpl hPB.size) (hP _ hPB)).mono ?_
        rintro e w73 ⟨v, rfl, oL, hb73⟩
        rw [catRLink_three, ← HAD.out] at oL
        obtain ⟨ad3, cd3, rfl, -⟩ := oL.rd.len
        have o3 := oL.base (B' := wS.heap.size) hB72.size
        try go_simp
        refine hK.out _ _ ?_ (fun hHeld => ?_)
        · exact KB.out _ (hB72.trans (hb73.mono hB72.size))
        clear hK K
        try simp only [Act.put, List.setIfInBounds_toArray, List.set_cons_zero, List.set_cons_succ]
        have hPB := hPB.trans (hb73.mono hPB.size)
        have hzb := Nat.lt_of_lt_of_le hzb hb73.size
        have o0 := o0.later hb73
        have OB := OB.next hb73
        have hB74 := hB72.trans (hb73.mono hB72.size)
        have ne3 : ∀ k, (Value.slice ad3 (adL ls ⟨x0, x1, x2⟩).length cd3).ownBlock = some k → k ≠ w29.heap.size := fun k hk => by have := (oL.lt k hk).1; have := hzb; omega
        clear oL hP hPB hpl
        refine wpAnyH_take (i := 15) (oi := { dst := some 35, op := Go.Op.build 31 #[(0, Go.Operand.tmp 22), (1, Go.Operand.tmp 34)], type := 31, pos := "l6_tower.go:154", after := #[{ on := 2, ground := Go.Ground.data }, { on := 14, ground := Go.Ground.data }], guard := none }) (v := ?_) rfl (by kernel_rfl) (by kernel_rfl) (by kernel_rfl) (fun _ _ _ h => h) (Or.inl ⟨by rfl, ?_⟩) (by assumption) ?_
        rotate_left
        · intro w hSw; (try dsimp only at hSw); go_simp; try with_reducible rfl
        try simp only [Act.put, List.setIfInBounds_toArray, List.set_cons_zero, List.set_cons_succ]
        refine wpAnyH_ready (rs := [17]) (by kernel_rfl) (by simp) ?_
        refine AllReadyH.cons (o := { dst := none, op := Go.Op.store 31 (Go.Operand.tmp 8) (Go.Operand.tmp 35), type := 0, pos := "l6_tower.go:154", after := #[{ on := 16, ground := Go.Ground.data }, { on := 15, ground := Go.Ground.data }, { on := 14, ground := Go.Ground.chain }, { on := 0, ground := Go.Ground.phase }, { on := 1, ground := Go.Ground.phase }, { on := 2, ground := Go.Ground.phase }, { on := 3, ground := Go.Ground.phase }, { on := 4, ground := Go.Ground.phase }, { on := 5, ground := Go.Ground.phase }, { on := 6, ground := Go.Ground.phase }, { on := 7, ground := Go.Ground.phase }, { on := 8, ground := Go.Ground.phase }, { on := 9, ground := Go.Ground.phase }, { on := 10, ground := Go.Ground.phase }, { on := 11, ground := Go.Ground.phase }, { on := 12, ground := Go.Ground.phase }, { on := 13, ground := Go.Ground.phase }, { on := 14, ground := Go.Ground.phase }, { on := 15, ground := Go.Ground.phase }, { on := 16, ground := Go.Ground.phase }], guard := none }) rfl (fun K hK => ?_) AllReadyH.nil
        have j0 := OB.c0
        have j1 := OB.c1
        have j2 := OB.f0
        have j3 := OB.f1
        have hbl3 : w.heap.size + 3 ≤ w29.heap.size := by omega
        have NT := ((NS.next hB74).set (o := 0) (u := .slice ad0 ts.length cd0) HR.out (show w.heap.size < w29.heap.size by omega)).set (o := 1) (u := .slice ad3 (adL ls ⟨x0, x1, x2⟩).length cd3) HR.out (show w.heap.size < w29.heap.size by omega)
        have XT := ((XS.next hB74).set (o := 0) (u := .slice ad0 ts.length cd0) (show w29.heap.size ≠ w.heap.size + 1 by omega)).set (o := 1) (u := .slice ad3 (adL ls ⟨x0, x1, x2⟩).length cd3) (show w29.heap.size ≠ w.heap.size + 1 by omega)
        go_simp
        refine hK.out _ _ ?_ (fun hHeld => ?_)
        · exact ⟨NT.b0, NT.b1, XT.c0, XT.c1, XT.c2⟩
        clear hK K
        try simp only [Act.put, List.setIfInBounds_toArray, List.set_cons_zero, List.set_cons_succ]
        refine wpAnyH_done (by kernel_rfl) ?_ _
        have VL := ((VS.next hB74).set (o := 0) (u := .slice ad0 ts.length cd0) (show w29.heap.size ≠ w.heap.size + 2 by omega) ⟨_, OB.c0⟩).set (o := 1) (u := .slice ad3 (adL ls ⟨x0, x1, x2⟩).length cd3) (show w29.heap.size ≠ w.heap.size + 2 by omega) ⟨_, (OB.put0).c1⟩
        have OM := (OB.put0 (u := .slice ad0 ts.length cd0)).put1 (u := .slice ad3 (adL ls ⟨x0, x1, x2⟩).length cd3)
        have q0 := (o0.setFar (b := w29.heap.size) (o := 0) (x := .slice ad0 ts.length cd0) (fun e => ne0 _ e rfl)).setFar (b := w29.heap.size) (o := 1) (x := .slice ad3 (adL ls ⟨x0, x1, x2⟩).length cd3) (fun e => ne0 _ e rfl)
        have q3 := (o3.setFar (b := w29.heap.size) (o := 0) (x := .slice ad0 ts.length cd0) (fun e => ne3 _ e rfl)).setFar (b := w29.heap.size) (o := 1) (x := .slice ad3 (adL ls ⟨x0, x1, x2⟩).length cd3) (fun e => ne3 _ e rfl)
        clear j0 j1 j2 j3 OB hHeld NS XS XT VS HT HD KB ne0 ne3
        generalize (w73.setCell ⟨w29.heap.size, 0, none⟩ (.slice ad0 ts.length cd0)).setCell ⟨w29.heap.size, 1, none⟩ (.slice ad3 (adL ls ⟨x0, x1, x2⟩).length cd3) = WL at *
        generalize w29.heap.size = bo at *
        have j0 := OM.c0
        have j1 := OM.c1
        cases cg : netB ts (adL ls ⟨x0, x1, x2⟩) with
        | false =>
          have HG := Lib.hid cg
          have HF := Lib.hid (ad_f1 cg)
          clear cg
          go_wp2_with fail
          refine (isNet_b _ _ ts _ _ ⟨q0.rd, q3.rd⟩ HG.out).mono ?_
          rintro e wE ⟨rfl, hbE⟩
          have VE := VL.next hbE
          have NE := NT.next hbE
          have r0 := VE.c0
          have r1 := VE.c1
          have s0 := VE.f0
          have s1 := VE.f1
          have sz := VE.lt
          go_wp2
          refine bodyPost_ret (v := .tuple #[.agg #[.slice none 0 0, .slice none 0 0], .bool false]) (by simp [results, Try.results38, go_sem, r0, r1, s0, s1, *]) rfl ⟨.slice none 0 0, .slice none 0 0, by rw [HF.out.1], by rw [HF.out.2.1, HF.out.2.2]; exact OwnN.nil _ _ _, ?_⟩
          exact (NE.below.setCell (p := ⟨w.heap.size + 2, 0, none⟩) (by show w.heap.size ≤ w.heap.size + 2; omega) _).setCell (p := ⟨w.heap.size + 2, 1, none⟩) (by show w.heap.size ≤ w.heap.size + 2; omega) _
        | true =>
          have HG := Lib.hid cg
          have HF := Lib.hid (ad_t H0.out cg)
          clear cg
          go_wp2_with fail
          refine (isNet_b _ _ ts _ _ ⟨q0.rd, q3.rd⟩ HG.out).mono ?_
          rintro e wE ⟨rfl, hbE⟩
          have VE := VL.next hbE
          have NE := NT.next hbE
          have OE := OM.next hbE
          have pE := q0.later hbE
          have pF := q3.later hbE
          have r0 := VE.c0
          have r1 := VE.c1
          have s0 := VE.f0
          have s1 := VE.f1
          have sz := VE.lt
          have j0 := OE.c0
          have j1 := OE.c1
          go_wp2
          refine bodyPost_ret (v := .tuple #[.agg #[.slice ad0 ts.length cd0, .slice ad3 (adL ls ⟨x0, x1, x2⟩).length cd3], .bool true]) (by simp [results, Try.results38, go_sem, r0, r1, s0, s1, j0, j1, sz]) rfl ⟨_, _, by rw [HF.out.1], ?_, ?_⟩
          · rw [HF.out.2.1, HF.out.2.2]
            have u0 := ((pE.setFar (b := w.heap.size + 2) (o := 0) (x := .slice ad0 ts.length cd0) (fun e => by have := (pE.lt _ e).1; omega)).setFar (b := w.heap.size + 2) (o := 1) (x := .slice ad3 (adL ls ⟨x0, x1, x2⟩).length cd3) (fun e => by have := (pE.lt _ e).1; omega)).base (B' := w.heap.size) (by omega)
            have u1 := ((pF.setFar (b := w.heap.size + 2) (o := 0) (x := .slice ad0 ts.length cd0) (fun e => by have := (pF.lt _ e).1; omega)).setFar (b := w.heap.size + 2) (o := 1) (x := .slice ad3 (adL ls ⟨x0, x1, x2⟩).length cd3) (fun e => by have := (pF.lt _ e).1; omega)).base (B' := w.heap.size) (by omega)
            exact ⟨⟨u0, fun k hk => (u0.lt k hk).2⟩, ⟨u1, fun k hk => (u1.lt k hk).2⟩⟩
          · exact (NE.below.setCell (p := ⟨w.heap.size + 2, 0, none⟩) (by show w.heap.size ≤ w.heap.size + 2; omega) _).setCell (p := ⟨w.heap.size + 2, 1, none⟩) (by show w.heap.size ≤ w.heap.size + 2; omega) _
      refine AllReadyH.cons (o := { dst := some 33, op := Go.Op.buildSlice 94 3 #[(0, Go.Operand.tmp 26), (1, Go.Operand.tmp 28), (2, Go.Operand.tmp 32)], type := 94, pos := "l6_tower.go:154", after := #[{ on := 6, ground := Go.Ground.data }, { on := 8, ground := Go.Ground.data }, { on := 12, ground := Go.Ground.data }], guard := none }) rfl (fun K hK => ?_) AllReadyH.nil
      go_simp
      refine hK.out _ _ ?_ (fun hHeld => ?_)
      · exact KB.out _ (hB68.alloc hB68.size _)
      clear hK K
      try simp only [Act.put, List.setIfInBounds_toArray, List.set_cons_zero, List.set_cons_succ]
      refine wpAnyH_name ?_
      intro w75 hw75
      rw [← hw75] at hHeld
      have hb75 := below_alloc hw75
      have z75 := lt_named hw75
      have d0 : w75.cell? ⟨w67.heap.size, 0, none⟩ = some (.slice a5 k p1) := by rw [hw75]; simp [go_sem]
      have d1 := show w75.cell? ⟨w67.heap.size, 1, none⟩ = some _ by rw [hw75]; simp [go_sem]; rfl
      have d2 : w75.cell? ⟨w67.heap.size, 2, none⟩ = some (.slice a6 (m - k) c6) := by rw [hw75]; simp [go_sem]
      have r3 : RdR c3 3 w75 _ [(⟨x0, x1, x2⟩ : T3)] := RdR.one3 ⟨x0, x1, x2⟩ (World.block_lt_of_cell? _ _ (bcell hb75 b0)) (Nat.le_refl _) (by unfold maxLen; decide) (bcell hb75 b0) (bcell hb75 b1) (bcell hb75 b2)
      clear hw75
      have hzb := Nat.lt_of_lt_of_le hzb hb75.size
      have b0 := bcell hb75 b0
      have b1 := bcell hb75 b1
      have b2 := bcell hb75 b2
      have OB := OB.next hb75
      have hB76 := hB68.trans (hb75.mono hB68.size)
      have hP := fun (y : World) (hy : Below w75.heap.size w75 y) => pk3_parts (bcell hy d0) (bcell hy d1) (bcell hy d2) (HT.out.later ((hB68.trans (hb75.mono hB68.size)).trans (hy.mono (Nat.le_trans hB68.size hb75.size)))) (r3.later hy) (HD.out.later ((hB68.trans (hb75.mono hB68.size)).trans (hy.mono (Nat.le_trans hB68.size hb75.size)))) HL.out.1 HL.out.2.1 HL.out.2.2
      have hpl := z75
      clear d0 d1 d2 r3 b0 b1 b2
      have hPB := Below.refl w75.heap.size w75
      refine wpAnyH_ready (rs := [2]) (by kernel_rfl) (by simp) ?_
      refine AllReadyH.cons (o := { dst := some 22, op := Go.Op.call { callee := Go.Callee.value (Go.Operand.func 70), args := #[Go.Operand.tmp 21], argTypes := #[28] }, type := 28, pos := "l6_tower.go:154", after := #[{ on := 1, ground := Go.Ground.data }], guard := none }) rfl (fun K hK => ?_) AllReadyH.nil
      go_simp
      refine (cloneTower_any _ ts _ (by rw [← HN.out]; omega) ((NS.next hB76).rd.1)).mono ?_
      rintro e w77 ⟨v, rfl, oT, hb77⟩
      obtain ⟨ad0, cd0, rfl, -⟩ := oT.rd.len
      have o0 := oT.base (B' := wS.heap.size) hB76.size
      try go_simp
      refine hK.out _ _ ?_ (fun hHeld => ?_)
      · exact KB.out _ (hB76.trans (hb77.mono hB76.size))
      clear hK K
      try simp only [Act.put, List.setIfInBounds_toArray, List.set_cons_zero, List.set_cons_succ]
      have hPB := hPB.trans (hb77.mono hPB.size)
      have hzb := Nat.lt_of_lt_of_le hzb hb77.size
      have OB := OB.next hb77
      have hB78 := hB76.trans (hb77.mono hB76.size)
      have ne0 : ∀ k, (Value.slice ad0 ts.length cd0).ownBlock = some k → k ≠ w29.heap.size := fun k hk => by have := (oT.lt k hk).1; have := hzb; omega
      clear oT
      refine wpAnyH_ready (rs := [14]) (by kernel_rfl) (by simp) ?_
      refine AllReadyH.cons (o := { dst := some 34, op := Go.Op.call { callee := Go.Callee.value (Go.Operand.func 71), args := #[Go.Operand.tmp 33], argTypes := #[94] }, type := 29, pos := "l6_tower.go:154", after := #[{ on := 13, ground := Go.Ground.data }, { on := 2, ground := Go.Ground.chain }], guard := none }) rfl (fun K hK => ?_) AllReadyH.nil
      go_simp
      refine (concatLink_any _ 3 _ _ _ (by decide) (Nat.lt_of_lt_of_le hpl hPB.size) (hP _ hPB)).mono ?_
      rintro e w79 ⟨v, rfl, oL, hb79⟩
      rw [catRLink_three, ← HAD.out] at oL
      obtain ⟨ad3, cd3, rfl, -⟩ := oL.rd.len
      have o3 := oL.base (B' := wS.heap.size) hB78.size
      try go_simp
      refine hK.out _ _ ?_ (fun hHeld => ?_)
      · exact KB.out _ (hB78.trans (hb79.mono hB78.size))
      clear hK K
      try simp only [Act.put, List.setIfInBounds_toArray, List.set_cons_zero, List.set_cons_succ]
      have hPB := hPB.trans (hb79.mono hPB.size)
      have hzb := Nat.lt_of_lt_of_le hzb hb79.size
      have o0 := o0.later hb79
      have OB := OB.next hb79
      have hB80 := hB78.trans (hb79.mono hB78.size)
      have ne3 : ∀ k, (Value.slice ad3 (adL ls ⟨x0, x1, x2⟩).length cd3).ownBlock = some k → k ≠ w29.heap.size := fun k hk => by have := (oL.lt k hk).1; have := hzb; omega
      clear oL hP hPB hpl
      refine wpAnyH_take (i := 15) (oi := { dst := some 35, op := Go.Op.build 31 #[(0, Go.Operand.tmp 22), (1, Go.Operand.tmp 34)], type := 31, pos := "l6_tower.go:154", after := #[{ on := 2, ground := Go.Ground.data }, { on := 14, ground := Go.Ground.data }], guard := none }) (v := ?_) rfl (by kernel_rfl) (by kernel_rfl) (by kernel_rfl) (fun _ _ _ h => h) (Or.inl ⟨by rfl, ?_⟩) (by assumption) ?_
      rotate_left
      · intro w hSw; (try dsimp only at hSw); go_simp; try with_reducible rfl
      try simp only [Act.put, List.setIfInBounds_toArray, List.set_cons_zero, List.set_cons_succ]
      refine wpAnyH_ready (rs := [17]) (by kernel_rfl) (by simp) ?_
      refine AllReadyH.cons (o := { dst := none, op := Go.Op.store 31 (Go.Operand.tmp 8) (Go.Operand.tmp 35), type := 0, pos := "l6_tower.go:154", after := #[{ on := 16, ground := Go.Ground.data }, { on := 15, ground := Go.Ground.data }, { on := 14, ground := Go.Ground.chain }, { on := 0, ground := Go.Ground.phase }, { on := 1, ground := Go.Ground.phase }, { on := 2, ground := Go.Ground.phase }, { on := 3, ground := Go.Ground.phase }, { on := 4, ground := Go.Ground.phase }, { on := 5, ground := Go.Ground.phase }, { on := 6, ground := Go.Ground.phase }, { on := 7, ground := Go.Ground.phase }, { on := 8, ground := Go.Ground.phase }, { on := 9, ground := Go.Ground.phase }, { on := 10, ground := Go.Ground.phase }, { on := 11, ground := Go.Ground.phase }, { on := 12, ground := Go.Ground.phase }, { on := 13, ground := Go.Ground.phase }, { on := 14, ground := Go.Ground.phase }, { on := 15, ground := Go.Ground.phase }, { on := 16, ground := Go.Ground.phase }], guard := none }) rfl (fun K hK => ?_) AllReadyH.nil
      have j0 := OB.c0
      have j1 := OB.c1
      have j2 := OB.f0
      have j3 := OB.f1
      have hbl3 : w.heap.size + 3 ≤ w29.heap.size := by omega
      have NT := ((NS.next hB80).set (o := 0) (u := .slice ad0 ts.length cd0) HR.out (show w.heap.size < w29.heap.size by omega)).set (o := 1) (u := .slice ad3 (adL ls ⟨x0, x1, x2⟩).length cd3) HR.out (show w.heap.size < w29.heap.size by omega)
      have XT := ((XS.next hB80).set (o := 0) (u := .slice ad0 ts.length cd0) (show w29.heap.size ≠ w.heap.size + 1 by omega)).set (o := 1) (u := .slice ad3 (adL ls ⟨x0, x1, x2⟩).length cd3) (show w29.heap.size ≠ w.heap.size + 1 by omega)
      go_simp
      refine hK.out _ _ ?_ (fun hHeld => ?_)
      · exact ⟨NT.b0, NT.b1, XT.c0, XT.c1, XT.c2⟩
      clear hK K
      try simp only [Act.put, List.setIfInBounds_toArray, List.set_cons_zero, List.set_cons_succ]
      refine wpAnyH_done (by kernel_rfl) ?_ _
      have VL := ((VS.next hB80).set (o := 0) (u := .slice ad0 ts.length cd0) (show w29.heap.size ≠ w.heap.size + 2 by omega) ⟨_, OB.c0⟩).set (o := 1) (u := .slice ad3 (adL ls ⟨x0, x1, x2⟩).length cd3) (show w29.heap.size ≠ w.heap.size + 2 by omega) ⟨_, (OB.put0).c1⟩
      have OM := (OB.put0 (u := .slice ad0 ts.length cd0)).put1 (u := .slice ad3 (adL ls ⟨x0, x1, x2⟩).length cd3)
      have q0 := (o0.setFar (b := w29.heap.size) (o := 0) (x := .slice ad0 ts.length cd0) (fun e => ne0 _ e rfl)).setFar (b := w29.heap.size) (o := 1) (x := .slice ad3 (adL ls ⟨x0, x1, x2⟩).length cd3) (fun e => ne0 _ e rfl)
      have q3 := (o3.setFar (b := w29.heap.size) (o := 0) (x := .slice ad0 ts.length cd0) (fun e => ne3 _ e rfl)).setFar (b := w29.heap.size) (o := 1) (x := .slice ad3 (adL ls ⟨x0, x1, x2⟩).length cd3) (fun e => ne3 _ e rfl)
      clear j0 j1 j2 j3 OB hHeld NS XS XT VS HT HD KB ne0 ne3
      generalize (w79.setCell ⟨w29.heap.size, 0, none⟩ (.slice ad0 ts.length cd0)).setCell ⟨w29.heap.size, 1, none⟩ (.slice ad3 (adL ls ⟨x0, x1, x2⟩).length cd3) = WL at *
      generalize w29.heap.size = bo at *
      have j0 := OM.c0
      have j1 := OM.c1
      cases cg : netB ts (adL ls ⟨x0, x1, x2⟩) with
      | false =>
        have HG := Lib.hid cg
        have HF := Lib.hid (ad_f1 cg)
        clear cg
        go_wp2_with fail
        refine (isNet_b _ _ ts _ _ ⟨q0.rd, q3.rd⟩ HG.out).mono ?_
        rintro e wE ⟨rfl, hbE⟩
        have VE := VL.next hbE
        have NE := NT.next hbE
        have r0 := VE.c0
        have r1 := VE.c1
        have s0 := VE.f0
        have s1 := VE.f1
        have sz := VE.lt
        go_wp2
        refine bodyPost_ret (v := .tuple #[.agg #[.slice none 0 0, .slice none 0 0], .bool false]) (by simp [results, Try.results38, go_sem, r0, r1, s0, s1, *]) rfl ⟨.slice none 0 0, .slice none 0 0, by rw [HF.out.1], by rw [HF.out.2.1, HF.out.2.2]; exact OwnN.nil _ _ _, ?_⟩
        exact (NE.below.setCell (p := ⟨w.heap.size + 2, 0, none⟩) (by show w.heap.size ≤ w.heap.size + 2; omega) _).setCell (p := ⟨w.heap.size + 2, 1, none⟩) (by show w.heap.size ≤ w.heap.size + 2; omega) _
      | true =>
        have HG := Lib.hid cg
        have HF := Lib.hid (ad_t H0.out cg)
        clear cg
        go_wp2_with fail
        refine (isNet_b _ _ ts _ _ ⟨q0.rd, q3.rd⟩ HG.out).mono ?_
        rintro e wE ⟨rfl, hbE⟩
        have VE := VL.next hbE
        have NE := NT.next hbE
        have OE := OM.next hbE
        have pE := q0.later hbE
        have pF := q3.later hbE
        have r0 := VE.c0
        have r1 := VE.c1
        have s0 := VE.f0
        have s1 := VE.f1
        have sz := VE.lt
        have j0 := OE.c0
        have j1 := OE.c1
        go_wp2
        refine bodyPost_ret (v := .tuple #[.agg #[.slice ad0 ts.length cd0, .slice ad3 (adL ls ⟨x0, x1, x2⟩).length cd3], .bool true]) (by simp [results, Try.results38, go_sem, r0, r1, s0, s1, j0, j1, sz]) rfl ⟨_, _, by rw [HF.out.1], ?_, ?_⟩
        · rw [HF.out.2.1, HF.out.2.2]
          have u0 := ((pE.setFar (b := w.heap.size + 2) (o := 0) (x := .slice ad0 ts.length cd0) (fun e => by have := (pE.lt _ e).1; omega)).setFar (b := w.heap.size + 2) (o := 1) (x := .slice ad3 (adL ls ⟨x0, x1, x2⟩).length cd3) (fun e => by have := (pE.lt _ e).1; omega)).base (B' := w.heap.size) (by omega)
          have u1 := ((pF.setFar (b := w.heap.size + 2) (o := 0) (x := .slice ad0 ts.length cd0) (fun e => by have := (pF.lt _ e).1; omega)).setFar (b := w.heap.size + 2) (o := 1) (x := .slice ad3 (adL ls ⟨x0, x1, x2⟩).length cd3) (fun e => by have := (pF.lt _ e).1; omega)).base (B' := w.heap.size) (by omega)
          exact ⟨⟨u0, fun k hk => (u0.lt k hk).2⟩, ⟨u1, fun k hk => (u1.lt k hk).2⟩⟩
        · exact (NE.below.setCell (p := ⟨w.heap.size + 2, 0, none⟩) (by show w.heap.size ≤ w.heap.size + 2; omega) _).setCell (p := ⟨w.heap.size + 2, 1, none⟩) (by show w.heap.size ≤ w.heap.size + 2; omega) _
    refine AllReadyH.cons (o := { dst := some 8, op := Go.Op.alloc 31, type := 0, pos := "l6_tower.go:154", after := #[], guard := none }) rfl (fun K hK => ?_) AllReadyH.nil
    go_simp
    refine hK.out _ _ ?_ (fun hHeld => ?_)
    · exact KB.out _ (hB0.alloc hB0.size _)
    clear hK K
    try simp only [Act.put, List.setIfInBounds_toArray, List.set_cons_zero, List.set_cons_succ]
    refine wpAnyH_name ?_
    intro w81 hw81
    rw [← hw81] at hHeld
    have hb81 := below_alloc hw81
    have z81 := lt_named hw81
    have OB : Var2 w81 wS.heap.size (.slice none 0 0) (.slice none 0 0) := by rw [hw81]; exact Var2.new _ _ _ _
    have hbl := hB0.size
    clear hw81
    have hB82 := hB0.trans (hb81.mono hB0.size)
    have hzb := z81
    refine wpAnyH_ready (rs := [2, 8]) (by kernel_rfl) (by simp) ?_
    refine AllReadyH.cons (o := { dst := some 22, op := Go.Op.call { callee := Go.Callee.value (Go.Operand.func 70), args := #[Go.Operand.tmp 21], argTypes := #[28] }, type := 28, pos := "l6_tower.go:154", after := #[{ on := 1, ground := Go.Ground.data }], guard := none }) rfl (fun K hK => ?_) ?_
    · go_simp
      refine (cloneTower_any _ ts _ (by rw [← HN.out]; omega) ((NS.next hB82).rd.1)).mono ?_
      rintro e w83 ⟨v, rfl, oT, hb83⟩
      obtain ⟨ad0, cd0, rfl, -⟩ := oT.rd.len
      have o0 := oT.base (B' := wS.heap.size) hB82.size
      try go_simp
      refine hK.out _ _ ?_ (fun hHeld => ?_)
      · exact KB.out _ (hB82.trans (hb83.mono hB82.size))
      clear hK K
      try simp only [Act.put, List.setIfInBounds_toArray, List.set_cons_zero, List.set_cons_succ]
      have hzb := Nat.lt_of_lt_of_le hzb hb83.size
      have OB := OB.next hb83
      have hB84 := hB82.trans (hb83.mono hB82.size)
      have ne0 : ∀ k, (Value.slice ad0 ts.length cd0).ownBlock = some k → k ≠ wS.heap.size := fun k hk => by have := (oT.lt k hk).1; have := hzb; omega
      clear oT
      refine wpAnyH_ready (rs := [8]) (by kernel_rfl) (by simp) ?_
      refine AllReadyH.cons (o := { dst := some 28, op := Go.Op.buildSlice 29 1 #[(0, Go.Operand.tmp 27)], type := 29, pos := "l6_tower.go:154", after := #[{ on := 7, ground := Go.Ground.data }], guard := none }) rfl (fun K hK => ?_) AllReadyH.nil
      go_simp
      refine hK.out _ _ ?_ (fun hHeld => ?_)
      · exact KB.out _ (hB84.alloc hB84.size _)
      clear hK K
      try simp only [Act.put, List.setIfInBounds_toArray, List.set_cons_zero, List.set_cons_succ]
      refine wpAnyH_name ?_
      intro w85 hw85
      rw [← hw85] at hHeld
      have hb85 := below_alloc hw85
      have z85 := lt_named hw85
      have b0 : w85.cell? ⟨w83.heap.size, 0, none⟩ = some (.int .i64 x0) := by rw [hw85]; simp [go_sem]
      have b1 : w85.cell? ⟨w83.heap.size, 1, none⟩ = some (.int .i64 x1) := by rw [hw85]; simp [go_sem]
      have b2 : w85.cell? ⟨w83.heap.size, 2, none⟩ = some (.int .i64 x2) := by rw [hw85]; simp [go_sem]
      clear hw85
      have hzb := Nat.lt_of_lt_of_le hzb hb85.size
      have o0 := o0.later hb85
      have OB := OB.next hb85
      have hB86 := hB84.trans (hb85.mono hB84.size)
      refine wpAnyH_ready (rs := [13]) (by kernel_rfl) (by simp) ?_
      refine AllReadyH.cons (o := { dst := some 33, op := Go.Op.buildSlice 94 3 #[(0, Go.Operand.tmp 26), (1, Go.Operand.tmp 28), (2, Go.Operand.tmp 32)], type := 94, pos := "l6_tower.go:154", after := #[{ on := 6, ground := Go.Ground.data }, { on := 8, ground := Go.Ground.data }, { on := 12, ground := Go.Ground.data }], guard := none }) rfl (fun K hK => ?_) AllReadyH.nil
      go_simp
      refine hK.out _ _ ?_ (fun hHeld => ?_)
      · exact KB.out _ (hB86.alloc hB86.size _)
      clear hK K
      try simp only [Act.put, List.setIfInBounds_toArray, List.set_cons_zero, List.set_cons_succ]
      refine wpAnyH_name ?_
      intro w87 hw87
      rw [← hw87] at hHeld
      have hb87 := below_alloc hw87
      have z87 := lt_named hw87
      have d0 : w87.cell? ⟨w85.heap.size, 0, none⟩ = some (.slice a5 k p1) := by rw [hw87]; simp [go_sem]
      have d1 := show w87.cell? ⟨w85.heap.size, 1, none⟩ = some _ by rw [hw87]; simp [go_sem]; rfl
      have d2 : w87.cell? ⟨w85.heap.size, 2, none⟩ = some (.slice a6 (m - k) c6) := by rw [hw87]; simp [go_sem]
      have r3 : RdR c3 3 w87 _ [(⟨x0, x1, x2⟩ : T3)] := RdR.one3 ⟨x0, x1, x2⟩ (World.block_lt_of_cell? _ _ (bcell hb87 b0)) (Nat.le_refl _) (by unfold maxLen; decide) (bcell hb87 b0) (bcell hb87 b1) (bcell hb87 b2)
      clear hw87
      have hzb := Nat.lt_of_lt_of_le hzb hb87.size
      have o0 := o0.later hb87
      have b0 := bcell hb87 b0
      have b1 := bcell hb87 b1
      have b2 := bcell hb87 b2
      have OB := OB.next hb87
      have hB88 := hB86.trans (hb87.mono hB86.size)
      have hP := fun (y : World) (hy : Below w87.heap.size w87 y) => pk3_parts (bcell hy d0) (bcell hy d1) (bcell hy d2) (HT.out.later ((hB86.trans (hb87.mono hB86.size)).trans (hy.mono (Nat.le_trans hB86.size hb87.size)))) (r3.later hy) (HD.out.later ((hB86.trans (hb87.mono hB86.size)).trans (hy.mono (Nat.le_trans hB86.size hb87.size)))) HL.out.1 HL.out.2.1 HL.out.2.2
      have hpl := z87
      clear d0 d1 d2 r3 b0 b1 b2
      have hPB := Below.refl w87.heap.size w87
      refine wpAnyH_ready (rs := [14]) (by kernel_rfl) (by simp) ?_
      refine AllReadyH.cons (o := { dst := some 34, op := Go.Op.call { callee := Go.Callee.value (Go.Operand.func 71), args := #[Go.Operand.tmp 33], argTypes := #[94] }, type := 29, pos := "l6_tower.go:154", after := #[{ on := 13, ground := Go.Ground.data }, { on := 2, ground := Go.Ground.chain }], guard := none }) rfl (fun K hK => ?_) AllReadyH.nil
      go_simp
      refine (concatLink_any _ 3 _ _ _ (by decide) (Nat.lt_of_lt_of_le hpl hPB.size) (hP _ hPB)).mono ?_
      rintro e w89 ⟨v, rfl, oL, hb89⟩
      rw [catRLink_three, ← HAD.out] at oL
      obtain ⟨ad3, cd3, rfl, -⟩ := oL.rd.len
      have o3 := oL.base (B' := wS.heap.size) hB88.size
      try go_simp
      refine hK.out _ _ ?_ (fun hHeld => ?_)
      · exact KB.out _ (hB88.trans (hb89.mono hB88.size))
      clear hK K
      try simp only [Act.put, List.setIfInBounds_toArray, List.set_cons_zero, List.set_cons_succ]
      have hPB := hPB.trans (hb89.mono hPB.size)
      have hzb := Nat.lt_of_lt_of_le hzb hb89.size
      have o0 := o0.later hb89
      have OB := OB.next hb89
      have hB90 := hB88.trans (hb89.mono hB88.size)
      have ne3 : ∀ k, (Value.slice ad3 (adL ls ⟨x0, x1, x2⟩).length cd3).ownBlock = some k → k ≠ wS.heap.size := fun k hk => by have := (oL.lt k hk).1; have := hzb; omega
      clear oL hP hPB hpl
      refine wpAnyH_take (i := 15) (oi := { dst := some 35, op := Go.Op.build 31 #[(0, Go.Operand.tmp 22), (1, Go.Operand.tmp 34)], type := 31, pos := "l6_tower.go:154", after := #[{ on := 2, ground := Go.Ground.data }, { on := 14, ground := Go.Ground.data }], guard := none }) (v := ?_) rfl (by kernel_rfl) (by kernel_rfl) (by kernel_rfl) (fun _ _ _ h => h) (Or.inl ⟨by rfl, ?_⟩) (by assumption) ?_
      rotate_left
      · intro w hSw; (try dsimp only at hSw); go_simp; try with_reducible rfl
      try simp only [Act.put, List.setIfInBounds_toArray, List.set_cons_zero, List.set_cons_succ]
      refine wpAnyH_ready (rs := [17]) (by kernel_rfl) (by simp) ?_
      refine AllReadyH.cons (o := { dst := none, op := Go.Op.store 31 (Go.Operand.tmp 8) (Go.Operand.tmp 35), type := 0, pos := "l6_tower.go:154", after := #[{ on := 16, ground := Go.Ground.data }, { on := 15, ground := Go.Ground.data }, { on := 14, ground := Go.Ground.chain }, { on := 0, ground := Go.Ground.phase }, { on := 1, ground := Go.Ground.phase }, { on := 2, ground := Go.Ground.phase }, { on := 3, ground := Go.Ground.phase }, { on := 4, ground := Go.Ground.phase }, { on := 5, ground := Go.Ground.phase }, { on := 6, ground := Go.Ground.phase }, { on := 7, ground := Go.Ground.phase }, { on := 8, ground := Go.Ground.phase }, { on := 9, ground := Go.Ground.phase }, { on := 10, ground := Go.Ground.phase }, { on := 11, ground := Go.Ground.phase }, { on := 12, ground := Go.Ground.phase }, { on := 13, ground := Go.Ground.phase }, { on := 14, ground := Go.Ground.phase }, { on := 15, ground := Go.Ground.phase }, { on := 16, ground := Go.Ground.phase }], guard := none }) rfl (fun K hK => ?_) AllReadyH.nil
      have j0 := OB.c0
      have j1 := OB.c1
      have j2 := OB.f0
      have j3 := OB.f1
      have hbl3 : w.heap.size + 3 ≤ wS.heap.size := by omega
      have NT := ((NS.next hB90).set (o := 0) (u := .slice ad0 ts.length cd0) HR.out (show w.heap.size < wS.heap.size by omega)).set (o := 1) (u := .slice ad3 (adL ls ⟨x0, x1, x2⟩).length cd3) HR.out (show w.heap.size < wS.heap.size by omega)
      have XT := ((XS.next hB90).set (o := 0) (u := .slice ad0 ts.length cd0) (show wS.heap.size ≠ w.heap.size + 1 by omega)).set (o := 1) (u := .slice ad3 (adL ls ⟨x0, x1, x2⟩).length cd3) (show wS.heap.size ≠ w.heap.size + 1 by omega)
      go_simp
      refine hK.out _ _ ?_ (fun hHeld => ?_)
      · exact ⟨NT.b0, NT.b1, XT.c0, XT.c1, XT.c2⟩
      clear hK K
      try simp only [Act.put, List.setIfInBounds_toArray, List.set_cons_zero, List.set_cons_succ]
      refine wpAnyH_done (by kernel_rfl) ?_ _
      have VL := ((VS.next hB90).set (o := 0) (u := .slice ad0 ts.length cd0) (show wS.heap.size ≠ w.heap.size + 2 by omega) ⟨_, OB.c0⟩).set (o := 1) (u := .slice ad3 (adL ls ⟨x0, x1, x2⟩).length cd3) (show wS.heap.size ≠ w.heap.size + 2 by omega) ⟨_, (OB.put0).c1⟩
      have OM := (OB.put0 (u := .slice ad0 ts.length cd0)).put1 (u := .slice ad3 (adL ls ⟨x0, x1, x2⟩).length cd3)
      have q0 := (o0.setFar (b := wS.heap.size) (o := 0) (x := .slice ad0 ts.length cd0) (fun e => ne0 _ e rfl)).setFar (b := wS.heap.size) (o := 1) (x := .slice ad3 (adL ls ⟨x0, x1, x2⟩).length cd3) (fun e => ne0 _ e rfl)
      have q3 := (o3.setFar (b := wS.heap.size) (o := 0) (x := .slice ad0 ts.length cd0) (fun e => ne3 _ e rfl)).setFar (b := wS.heap.size) (o := 1) (x := .slice ad3 (adL ls ⟨x0, x1, x2⟩).length cd3) (fun e => ne3 _ e rfl)
      clear j0 j1 j2 j3 OB hHeld NS XS XT VS HT HD KB ne0 ne3
      generalize (w89.setCell ⟨wS.heap.size, 0, none⟩ (.slice ad0 ts.length cd0)).setCell ⟨wS.heap.size, 1, none⟩ (.slice ad3 (adL ls ⟨x0, x1, x2⟩).length cd3) = WL at *
      generalize wS.heap.size = bo at *
      have j0 := OM.c0
      have j1 := OM.c1
      cases cg : netB ts (adL ls ⟨x0, x1, x2⟩) with
      | false =>
        have HG := Lib.hid cg
        have HF := Lib.hid (ad_f1 cg)
        clear cg
        go_wp2_with fail
        refine (isNet_b _ _ ts _ _ ⟨q0.rd, q3.rd⟩ HG.out).mono ?_
        rintro e wE ⟨rfl, hbE⟩
        have VE := VL.next hbE
        have NE := NT.next hbE
        have r0 := VE.c0
        have r1 := VE.c1
        have s0 := VE.f0
        have s1 := VE.f1
        have sz := VE.lt
        go_wp2
        refine bodyPost_ret (v := .tuple #[.agg #[.slice none 0 0, .slice none 0 0], .bool false]) (by simp [results, Try.results38, go_sem, r0, r1, s0, s1, *]) rfl ⟨.slice none 0 0, .slice none 0 0, by rw [HF.out.1], by rw [HF.out.2.1, HF.out.2.2]; exact OwnN.nil _ _ _, ?_⟩
        exact (NE.below.setCell (p := ⟨w.heap.size + 2, 0, none⟩) (by show w.heap.size ≤ w.heap.size + 2; omega) _).setCell (p := ⟨w.heap.size + 2, 1, none⟩) (by show w.heap.size ≤ w.heap.size + 2; omega) _
      | true =>
        have HG := Lib.hid cg
        have HF := Lib.hid (ad_t H0.out cg)
        clear cg
        go_wp2_with fail
        refine (isNet_b _ _ ts _ _ ⟨q0.rd, q3.rd⟩ HG.out).mono ?_
        rintro e wE ⟨rfl, hbE⟩
        have VE := VL.next hbE
        have NE := NT.next hbE
        have OE := OM.next hbE
        have pE := q0.later hbE
        have pF := q3.later hbE
        have r0 := VE.c0
        have r1 := VE.c1
        have s0 := VE.f0
        have s1 := VE.f1
        have sz := VE.lt
        have j0 := OE.c0
        have j1 := OE.c1
        go_wp2
        refine bodyPost_ret (v := .tuple #[.agg #[.slice ad0 ts.length cd0, .slice ad3 (adL ls ⟨x0, x1, x2⟩).length cd3], .bool true]) (by simp [results, Try.results38, go_sem, r0, r1, s0, s1, j0, j1, sz]) rfl ⟨_, _, by rw [HF.out.1], ?_, ?_⟩
        · rw [HF.out.2.1, HF.out.2.2]
          have u0 := ((pE.setFar (b := w.heap.size + 2) (o := 0) (x := .slice ad0 ts.length cd0) (fun e => by have := (pE.lt _ e).1; omega)).setFar (b := w.heap.size + 2) (o := 1) (x := .slice ad3 (adL ls ⟨x0, x1, x2⟩).length cd3) (fun e => by have := (pE.lt _ e).1; omega)).base (B' := w.heap.size) (by omega)
          have u1 := ((pF.setFar (b := w.heap.size + 2) (o := 0) (x := .slice ad0 ts.length cd0) (fun e => by have := (pF.lt _ e).1; omega)).setFar (b := w.heap.size + 2) (o := 1) (x := .slice ad3 (adL ls ⟨x0, x1, x2⟩).length cd3) (fun e => by have := (pF.lt _ e).1; omega)).base (B' := w.heap.size) (by omega)
          exact ⟨⟨u0, fun k hk => (u0.lt k hk).2⟩, ⟨u1, fun k hk => (u1.lt k hk).2⟩⟩
        · exact (NE.below.setCell (p := ⟨w.heap.size + 2, 0, none⟩) (by show w.heap.size ≤ w.heap.size + 2; omega) _).setCell (p := ⟨w.heap.size + 2, 1, none⟩) (by show w.heap.size ≤ w.heap.size + 2; omega) _
    refine AllReadyH.cons (o := { dst := some 28, op := Go.Op.buildSlice 29 1 #[(0, Go.Operand.tmp 27)], type := 29, pos := "l6_tower.go:154", after := #[{ on := 7, ground := Go.Ground.data }], guard := none }) rfl (fun K hK => ?_) AllReadyH.nil
    go_simp
    refine hK.out _ _ ?_ (fun hHeld => ?_)
    · exact KB.out _ (hB82.alloc hB82.size _)
    clear hK K
    try simp only [Act.put, List.setIfInBounds_toArray, List.set_cons_zero, List.set_cons_succ]
    refine wpAnyH_name ?_
    intro w91 hw91
    rw [← hw91] at hHeld
    have hb91 := below_alloc hw91
    have z91 := lt_named hw91
    have b0 : w91.cell? ⟨w81.heap.size, 0, none⟩ = some (.int .i64 x0) := by rw [hw91]; simp [go_sem]
    have b1 : w91.cell? ⟨w81.heap.size, 1, none⟩ = some (.int .i64 x1) := by rw [hw91]; simp [go_sem]
    have b2 : w91.cell? ⟨w81.heap.size, 2, none⟩ = some (.int .i64 x2) := by rw [hw91]; simp [go_sem]
    clear hw91
    have hzb := Nat.lt_of_lt_of_le hzb hb91.size
    have OB := OB.next hb91
    have hB92 := hB82.trans (hb91.mono hB82.size)
    refine wpAnyH_ready (rs := [2, 13]) (by kernel_rfl) (by simp) ?_
    refine AllReadyH.cons (o := { dst := some 22, op := Go.Op.call { callee := Go.Callee.value (Go.Operand.func 70), args := #[Go.Operand.tmp 21], argTypes := #[28] }, type := 28, pos := "l6_tower.go:154", after := #[{ on := 1, ground := Go.Ground.data }], guard := none }) rfl (fun K hK => ?_) ?_
    · go_simp
      refine (cloneTower_any _ ts _ (by rw [← HN.out]; omega) ((NS.next hB92).rd.1)).mono ?_
      rintro e w93 ⟨v, rfl, oT, hb93⟩
      obtain ⟨ad0, cd0, rfl, -⟩ := oT.rd.len
      have o0 := oT.base (B' := wS.heap.size) hB92.size
      try go_simp
      refine hK.out _ _ ?_ (fun hHeld => ?_)
      · exact KB.out _ (hB92.trans (hb93.mono hB92.size))
      clear hK K
      try simp only [Act.put, List.setIfInBounds_toArray, List.set_cons_zero, List.set_cons_succ]
      have hzb := Nat.lt_of_lt_of_le hzb hb93.size
      have b0 := bcell hb93 b0
      have b1 := bcell hb93 b1
      have b2 := bcell hb93 b2
      have OB := OB.next hb93
      have hB94 := hB92.trans (hb93.mono hB92.size)
      have ne0 : ∀ k, (Value.slice ad0 ts.length cd0).ownBlock = some k → k ≠ wS.heap.size := fun k hk => by have := (oT.lt k hk).1; have := hzb; omega
      clear oT
      refine wpAnyH_ready (rs := [13]) (by kernel_rfl) (by simp) ?_
      refine AllReadyH.cons (o := { dst := some 33, op := Go.Op.buildSlice 94 3 #[(0, Go.Operand.tmp 26), (1, Go.Operand.tmp 28), (2, Go.Operand.tmp 32)], type := 94, pos := "l6_tower.go:154", after := #[{ on := 6, ground := Go.Ground.data }, { on := 8, ground := Go.Ground.data }, { on := 12, ground := Go.Ground.data }], guard := none }) rfl (fun K hK => ?_) AllReadyH.nil
      go_simp
      refine hK.out _ _ ?_ (fun hHeld => ?_)
      · exact KB.out _ (hB94.alloc hB94.size _)
      clear hK K
      try simp only [Act.put, List.setIfInBounds_toArray, List.set_cons_zero, List.set_cons_succ]
      refine wpAnyH_name ?_
      intro w95 hw95
      rw [← hw95] at hHeld
      have hb95 := below_alloc hw95
      have z95 := lt_named hw95
      have d0 : w95.cell? ⟨w93.heap.size, 0, none⟩ = some (.slice a5 k p1) := by rw [hw95]; simp [go_sem]
      have d1 := show w95.cell? ⟨w93.heap.size, 1, none⟩ = some _ by rw [hw95]; simp [go_sem]; rfl
      have d2 : w95.cell? ⟨w93.heap.size, 2, none⟩ = some (.slice a6 (m - k) c6) := by rw [hw95]; simp [go_sem]
      have r3 : RdR c3 3 w95 _ [(⟨x0, x1, x2⟩ : T3)] := RdR.one3 ⟨x0, x1, x2⟩ (World.block_lt_of_cell? _ _ (bcell hb95 b0)) (Nat.le_refl _) (by unfold maxLen; decide) (bcell hb95 b0) (bcell hb95 b1) (bcell hb95 b2)
      clear hw95
      have hzb := Nat.lt_of_lt_of_le hzb hb95.size
      have o0 := o0.later hb95
      have b0 := bcell hb95 b0
      have b1 := bcell hb95 b1
      have b2 := bcell hb95 b2
      have OB := OB.next hb95
      have hB96 := hB94.trans (hb95.mono hB94.size)
      have hP := fun (y : World) (hy : Below w95.heap.size w95 y) => pk3_parts (bcell hy d0) (bcell hy d1) (bcell hy d2) (HT.out.later ((hB94.trans (hb95.mono hB94.size)).trans (hy.mono (Nat.le_trans hB94.size hb95.size)))) (r3.later hy) (HD.out.later ((hB94.trans (hb95.mono hB94.size)).trans (hy.mono (Nat.le_trans hB94.size hb95.size)))) HL.out.1 HL.out.2.1 HL.out.2.2
      have hpl := z95
      clear d0 d1 d2 r3 b0 b1 b2
      have hPB := Below.refl w95.heap.size w95
      refine wpAnyH_ready (rs := [14]) (by kernel_rfl) (by simp) ?_
      refine AllReadyH.cons (o := { dst := some 34, op := Go.Op.call { callee := Go.Callee.value (Go.Operand.func 71), args := #[Go.Operand.tmp 33], argTypes := #[94] }, type := 29, pos := "l6_tower.go:154", after := #[{ on := 13, ground := Go.Ground.data }, { on := 2, ground := Go.Ground.chain }], guard := none }) rfl (fun K hK => ?_) AllReadyH.nil
      go_simp
      refine (concatLink_any _ 3 _ _ _ (by decide) (Nat.lt_of_lt_of_le hpl hPB.size) (hP _ hPB)).mono ?_
      rintro e w97 ⟨v, rfl, oL, hb97⟩
      rw [catRLink_three, ← HAD.out] at oL
      obtain ⟨ad3, cd3, rfl, -⟩ := oL.rd.len
      have o3 := oL.base (B' := wS.heap.size) hB96.size
      try go_simp
      refine hK.out _ _ ?_ (fun hHeld => ?_)
      · exact KB.out _ (hB96.trans (hb97.mono hB96.size))
      clear hK K
      try simp only [Act.put, List.setIfInBounds_toArray, List.set_cons_zero, List.set_cons_succ]
      have hPB := hPB.trans (hb97.mono hPB.size)
      have hzb := Nat.lt_of_lt_of_le hzb hb97.size
      have o0 := o0.later hb97
      have OB := OB.next hb97
      have hB98 := hB96.trans (hb97.mono hB96.size)
      have ne3 : ∀ k, (Value.slice ad3 (adL ls ⟨x0, x1, x2⟩).length cd3).ownBlock = some k → k ≠ wS.heap.size := fun k hk => by have := (oL.lt k hk).1; have := hzb; omega
      clear oL hP hPB hpl
      refine wpAnyH_take (i := 15) (oi := { dst := some 35, op := Go.Op.build 31 #[(0, Go.Operand.tmp 22), (1, Go.Operand.tmp 34)], type := 31, pos := "l6_tower.go:154", after := #[{ on := 2, ground := Go.Ground.data }, { on := 14, ground := Go.Ground.data }], guard := none }) (v := ?_) rfl (by kernel_rfl) (by kernel_rfl) (by kernel_rfl) (fun _ _ _ h => h) (Or.inl ⟨by rfl, ?_⟩) (by assumption) ?_
      rotate_left
      · intro w hSw; (try dsimp only at hSw); go_simp; try with_reducible rfl
      try simp only [Act.put, List.setIfInBounds_toArray, List.set_cons_zero, List.set_cons_succ]
      refine wpAnyH_ready (rs := [17]) (by kernel_rfl) (by simp) ?_
      refine AllReadyH.cons (o := { dst := none, op := Go.Op.store 31 (Go.Operand.tmp 8) (Go.Operand.tmp 35), type := 0, pos := "l6_tower.go:154", after := #[{ on := 16, ground := Go.Ground.data }, { on := 15, ground := Go.Ground.data }, { on := 14, ground := Go.Ground.chain }, { on := 0, ground := Go.Ground.phase }, { on := 1, ground := Go.Ground.phase }, { on := 2, ground := Go.Ground.phase }, { on := 3, ground := Go.Ground.phase }, { on := 4, ground := Go.Ground.phase }, { on := 5, ground := Go.Ground.phase }, { on := 6, ground := Go.Ground.phase }, { on := 7, ground := Go.Ground.phase }, { on := 8, ground := Go.Ground.phase }, { on := 9, ground := Go.Ground.phase }, { on := 10, ground := Go.Ground.phase }, { on := 11, ground := Go.Ground.phase }, { on := 12, ground := Go.Ground.phase }, { on := 13, ground := Go.Ground.phase }, { on := 14, ground := Go.Ground.phase }, { on := 15, ground := Go.Ground.phase }, { on := 16, ground := Go.Ground.phase }], guard := none }) rfl (fun K hK => ?_) AllReadyH.nil
      have j0 := OB.c0
      have j1 := OB.c1
      have j2 := OB.f0
      have j3 := OB.f1
      have hbl3 : w.heap.size + 3 ≤ wS.heap.size := by omega
      have NT := ((NS.next hB98).set (o := 0) (u := .slice ad0 ts.length cd0) HR.out (show w.heap.size < wS.heap.size by omega)).set (o := 1) (u := .slice ad3 (adL ls ⟨x0, x1, x2⟩).length cd3) HR.out (show w.heap.size < wS.heap.size by omega)
      have XT := ((XS.next hB98).set (o := 0) (u := .slice ad0 ts.length cd0) (show wS.heap.size ≠ w.heap.size + 1 by omega)).set (o := 1) (u := .slice ad3 (adL ls ⟨x0, x1, x2⟩).length cd3) (show wS.heap.size ≠ w.heap.size + 1 by omega)
      go_simp
      refine hK.out _ _ ?_ (fun hHeld => ?_)
      · exact ⟨NT.b0, NT.b1, XT.c0, XT.c1, XT.c2⟩
      clear hK K
      try simp only [Act.put, List.setIfInBounds_toArray, List.set_cons_zero, List.set_cons_succ]
      refine wpAnyH_done (by kernel_rfl) ?_ _
      have VL := ((VS.next hB98).set (o := 0) (u := .slice ad0 ts.length cd0) (show wS.heap.size ≠ w.heap.size + 2 by omega) ⟨_, OB.c0⟩).set (o := 1) (u := .slice ad3 (adL ls ⟨x0, x1, x2⟩).length cd3) (show wS.heap.size ≠ w.heap.size + 2 by omega) ⟨_, (OB.put0).c1⟩
      have OM := (OB.put0 (u := .slice ad0 ts.length cd0)).put1 (u := .slice ad3 (adL ls ⟨x0, x1, x2⟩).length cd3)
      have q0 := (o0.setFar (b := wS.heap.size) (o := 0) (x := .slice ad0 ts.length cd0) (fun e => ne0 _ e rfl)).setFar (b := wS.heap.size) (o := 1) (x := .slice ad3 (adL ls ⟨x0, x1, x2⟩).length cd3) (fun e => ne0 _ e rfl)
      have q3 := (o3.setFar (b := wS.heap.size) (o := 0) (x := .slice ad0 ts.length cd0) (fun e => ne3 _ e rfl)).setFar (b := wS.heap.size) (o := 1) (x := .slice ad3 (adL ls ⟨x0, x1, x2⟩).length cd3) (fun e => ne3 _ e rfl)
      clear j0 j1 j2 j3 OB hHeld NS XS XT VS HT HD KB ne0 ne3
      generalize (w97.setCell ⟨wS.heap.size, 0, none⟩ (.slice ad0 ts.length cd0)).setCell ⟨wS.heap.size, 1, none⟩ (.slice ad3 (adL ls ⟨x0, x1, x2⟩).length cd3) = WL at *
      generalize wS.heap.size = bo at *
      have j0 := OM.c0
      have j1 := OM.c1
      cases cg : netB ts (adL ls ⟨x0, x1, x2⟩) with
      | false =>
        have HG := Lib.hid cg
        have HF := Lib.hid (ad_f1 cg)
        clear cg
        go_wp2_with fail
        refine (isNet_b _ _ ts _ _ ⟨q0.rd, q3.rd⟩ HG.out).mono ?_
        rintro e wE ⟨rfl, hbE⟩
        have VE := VL.next hbE
        have NE := NT.next hbE
        have r0 := VE.c0
        have r1 := VE.c1
        have s0 := VE.f0
        have s1 := VE.f1
        have sz := VE.lt
        go_wp2
        refine bodyPost_ret (v := .tuple #[.agg #[.slice none 0 0, .slice none 0 0], .bool false]) (by simp [results, Try.results38, go_sem, r0, r1, s0, s1, *]) rfl ⟨.slice none 0 0, .slice none 0 0, by rw [HF.out.1], by rw [HF.out.2.1, HF.out.2.2]; exact OwnN.nil _ _ _, ?_⟩
        exact (NE.below.setCell (p := ⟨w.heap.size + 2, 0, none⟩) (by show w.heap.size ≤ w.heap.size + 2; omega) _).setCell (p := ⟨w.heap.size + 2, 1, none⟩) (by show w.heap.size ≤ w.heap.size + 2; omega) _
      | true =>
        have HG := Lib.hid cg
        have HF := Lib.hid (ad_t H0.out cg)
        clear cg
        go_wp2_with fail
        refine (isNet_b _ _ ts _ _ ⟨q0.rd, q3.rd⟩ HG.out).mono ?_
        rintro e wE ⟨rfl, hbE⟩
        have VE := VL.next hbE
        have NE := NT.next hbE
        have OE := OM.next hbE
        have pE := q0.later hbE
        have pF := q3.later hbE
        have r0 := VE.c0
        have r1 := VE.c1
        have s0 := VE.f0
        have s1 := VE.f1
        have sz := VE.lt
        have j0 := OE.c0
        have j1 := OE.c1
        go_wp2
        refine bodyPost_ret (v := .tuple #[.agg #[.slice ad0 ts.length cd0, .slice ad3 (adL ls ⟨x0, x1, x2⟩).length cd3], .bool true]) (by simp [results, Try.results38, go_sem, r0, r1, s0, s1, j0, j1, sz]) rfl ⟨_, _, by rw [HF.out.1], ?_, ?_⟩
        · rw [HF.out.2.1, HF.out.2.2]
          have u0 := ((pE.setFar (b := w.heap.size + 2) (o := 0) (x := .slice ad0 ts.length cd0) (fun e => by have := (pE.lt _ e).1; omega)).setFar (b := w.heap.size + 2) (o := 1) (x := .slice ad3 (adL ls ⟨x0, x1, x2⟩).length cd3) (fun e => by have := (pE.lt _ e).1; omega)).base (B' := w.heap.size) (by omega)
          have u1 := ((pF.setFar (b := w.heap.size + 2) (o := 0) (x := .slice ad0 ts.length cd0) (fun e => by have := (pF.lt _ e).1; omega)).setFar (b := w.heap.size + 2) (o := 1) (x := .slice ad3 (adL ls ⟨x0, x1, x2⟩).length cd3) (fun e => by have := (pF.lt _ e).1; omega)).base (B' := w.heap.size) (by omega)
          exact ⟨⟨u0, fun k hk => (u0.lt k hk).2⟩, ⟨u1, fun k hk => (u1.lt k hk).2⟩⟩
        · exact (NE.below.setCell (p := ⟨w.heap.size + 2, 0, none⟩) (by show w.heap.size ≤ w.heap.size + 2; omega) _).setCell (p := ⟨w.heap.size + 2, 1, none⟩) (by show w.heap.size ≤ w.heap.size + 2; omega) _
    refine AllReadyH.cons (o := { dst := some 33, op := Go.Op.buildSlice 94 3 #[(0, Go.Operand.tmp 26), (1, Go.Operand.tmp 28), (2, Go.Operand.tmp 32)], type := 94, pos := "l6_tower.go:154", after := #[{ on := 6, ground := Go.Ground.data }, { on := 8, ground := Go.Ground.data }, { on := 12, ground := Go.Ground.data }], guard := none }) rfl (fun K hK => ?_) AllReadyH.nil
    go_simp
    refine hK.out _ _ ?_ (fun hHeld => ?_)
    · exact KB.out _ (hB92.alloc hB92.size _)
    clear hK K
    try simp only [Act.put, List.setIfInBounds_toArray, List.set_cons_zero, List.set_cons_succ]
    refine wpAnyH_name ?_
    intro w99 hw99
    rw [← hw99] at hHeld
    have hb99 := below_alloc hw99
    have z99 := lt_named hw99
    have d0 : w99.cell? ⟨w91.heap.size, 0, none⟩ = some (.slice a5 k p1) := by rw [hw99]; simp [go_sem]
    have d1 := show w99.cell? ⟨w91.heap.size, 1, none⟩ = some _ by rw [hw99]; simp [go_sem]; rfl
    have d2 : w99.cell? ⟨w91.heap.size, 2, none⟩ = some (.slice a6 (m - k) c6) := by rw [hw99]; simp [go_sem]
    have r3 : RdR c3 3 w99 _ [(⟨x0, x1, x2⟩ : T3)] := RdR.one3 ⟨x0, x1, x2⟩ (World.block_lt_of_cell? _ _ (bcell hb99 b0)) (Nat.le_refl _) (by unfold maxLen; decide) (bcell hb99 b0) (bcell hb99 b1) (bcell hb99 b2)
    clear hw99
    have hzb := Nat.lt_of_lt_of_le hzb hb99.size
    have b0 := bcell hb99 b0
    have b1 := bcell hb99 b1
    have b2 := bcell hb99 b2
    have OB := OB.next hb99
    have hB100 := hB92.trans (hb99.mono hB92.size)
    have hP := fun (y : World) (hy : Below w99.heap.size w99 y) => pk3_parts (bcell hy d0) (bcell hy d1) (bcell hy d2) (HT.out.later ((hB92.trans (hb99.mono hB92.size)).trans (hy.mono (Nat.le_trans hB92.size hb99.size)))) (r3.later hy) (HD.out.later ((hB92.trans (hb99.mono hB92.size)).trans (hy.mono (Nat.le_trans hB92.size hb99.size)))) HL.out.1 HL.out.2.1 HL.out.2.2
    have hpl := z99
    clear d0 d1 d2 r3 b0 b1 b2
    have hPB := Below.refl w99.heap.size w99
    refine wpAnyH_ready (rs := [2]) (by kernel_rfl) (by simp) ?_
    refine AllReadyH.cons (o := { dst := some 22, op := Go.Op.call { callee := Go.Callee.value (Go.Operand.func 70), args := #[Go.Operand.tmp 21], argTypes := #[28] }, type := 28, pos := "l6_tower.go:154", after := #[{ on := 1, ground := Go.Ground.data }], guard := none }) rfl (fun K hK => ?_) AllReadyH.nil
    go_simp
    refine (cloneTower_any _ ts _ (by rw [← HN.out]; omega) ((NS.next hB100).rd.1)).mono ?_
    rintro e w101 ⟨v, rfl, oT, hb101⟩
    obtain ⟨ad0, cd0, rfl, -⟩ := oT.rd.len
    have o0 := oT.base (B' := wS.heap.size) hB100.size
    try go_simp
    refine hK.out _ _ ?_ (fun hHeld => ?_)
    · exact KB.out _ (hB100.trans (hb101.mono hB100.size))
    clear hK K
    try simp only [Act.put, List.setIfInBounds_toArray, List.set_cons_zero, List.set_cons_succ]
    have hPB := hPB.trans (hb101.mono hPB.size)
    have hzb := Nat.lt_of_lt_of_le hzb hb101.size
    have OB := OB.next hb101
    have hB102 := hB100.trans (hb101.mono hB100.size)
    have ne0 : ∀ k, (Value.slice ad0 ts.length cd0).ownBlock = some k → k ≠ wS.heap.size := fun k hk => by have := (oT.lt k hk).1; have := hzb; omega
    clear oT
    refine wpAnyH_ready (rs := [14]) (by kernel_rfl) (by simp) ?_
    refine AllReadyH.cons (o := { dst := some 34, op := Go.Op.call { callee := Go.Callee.value (Go.Operand.func 71), args := #[Go.Operand.tmp 33], argTypes := #[94] }, type := 29, pos := "l6_tower.go:154", after := #[{ on := 13, ground := Go.Ground.data }, { on := 2, ground := Go.Ground.chain }], guard := none }) rfl (fun K hK => ?_) AllReadyH.nil
    go_simp
    refine (concatLink_any _ 3 _ _ _ (by decide) (Nat.lt_of_lt_of_le hpl hPB.size) (hP _ hPB)).mono ?_
    rintro e w103 ⟨v, rfl, oL, hb103⟩
    rw [catRLink_three, ← HAD.out] at oL
    obtain ⟨ad3, cd3, rfl, -⟩ := oL.rd.len
    have o3 := oL.base (B' := wS.heap.size) hB102.size
    try go_simp
    refine hK.out _ _ ?_ (fun hHeld => ?_)
    · exact KB.out _ (hB102.trans (hb103.mono hB102.size))
    clear hK K
    try simp only [Act.put, List.setIfInBounds_toArray, List.set_cons_zero, List.set_cons_succ]
    have hPB := hPB.trans (hb103.mono hPB.size)
    have hzb := Nat.lt_of_lt_of_le hzb hb103.size
    have o0 := o0.later hb103
    have OB := OB.next hb103
    have hB104 := hB102.trans (hb103.mono hB102.size)
    have ne3 : ∀ k, (Value.slice ad3 (adL ls ⟨x0, x1, x2⟩).length cd3).ownBlock = some k → k ≠ wS.heap.size := fun k hk => by have := (oL.lt k hk).1; have := hzb; omega
    clear oL hP hPB hpl
    refine wpAnyH_take (i := 15) (oi := { dst := some 35, op := Go.Op.build 31 #[(0, Go.Operand.tmp 22), (1, Go.Operand.tmp 34)], type := 31, pos := "l6_tower.go:154", after := #[{ on := 2, ground := Go.Ground.data }, { on := 14, ground := Go.Ground.data }], guard := none }) (v := ?_) rfl (by kernel_rfl) (by kernel_rfl) (by kernel_rfl) (fun _ _ _ h => h) (Or.inl ⟨by rfl, ?_⟩) (by assumption) ?_
    rotate_left
    · intro w hSw; (try dsimp only at hSw); go_simp; try with_reducible rfl
    try simp only [Act.put, List.setIfInBounds_toArray, List.set_cons_zero, List.set_cons_succ]
    refine wpAnyH_ready (rs := [17]) (by kernel_rfl) (by simp) ?_
    refine AllReadyH.cons (o := { dst := none, op := Go.Op.store 31 (Go.Operand.tmp 8) (Go.Operand.tmp 35), type := 0, pos := "l6_tower.go:154", after := #[{ on := 16, ground := Go.Ground.data }, { on := 15, ground := Go.Ground.data }, { on := 14, ground := Go.Ground.chain }, { on := 0, ground := Go.Ground.phase }, { on := 1, ground := Go.Ground.phase }, { on := 2, ground := Go.Ground.phase }, { on := 3, ground := Go.Ground.phase }, { on := 4, ground := Go.Ground.phase }, { on := 5, ground := Go.Ground.phase }, { on := 6, ground := Go.Ground.phase }, { on := 7, ground := Go.Ground.phase }, { on := 8, ground := Go.Ground.phase }, { on := 9, ground := Go.Ground.phase }, { on := 10, ground := Go.Ground.phase }, { on := 11, ground := Go.Ground.phase }, { on := 12, ground := Go.Ground.phase }, { on := 13, ground := Go.Ground.phase }, { on := 14, ground := Go.Ground.phase }, { on := 15, ground := Go.Ground.phase }, { on := 16, ground := Go.Ground.phase }], guard := none }) rfl (fun K hK => ?_) AllReadyH.nil
    have j0 := OB.c0
    have j1 := OB.c1
    have j2 := OB.f0
    have j3 := OB.f1
    have hbl3 : w.heap.size + 3 ≤ wS.heap.size := by omega
    have NT := ((NS.next hB104).set (o := 0) (u := .slice ad0 ts.length cd0) HR.out (show w.heap.size < wS.heap.size by omega)).set (o := 1) (u := .slice ad3 (adL ls ⟨x0, x1, x2⟩).length cd3) HR.out (show w.heap.size < wS.heap.size by omega)
    have XT := ((XS.next hB104).set (o := 0) (u := .slice ad0 ts.length cd0) (show wS.heap.size ≠ w.heap.size + 1 by omega)).set (o := 1) (u := .slice ad3 (adL ls ⟨x0, x1, x2⟩).length cd3) (show wS.heap.size ≠ w.heap.size + 1 by omega)
    go_simp
    refine hK.out _ _ ?_ (fun hHeld => ?_)
    · exact ⟨NT.b0, NT.b1, XT.c0, XT.c1, XT.c2⟩
    clear hK K
    try simp only [Act.put, List.setIfInBounds_toArray, List.set_cons_zero, List.set_cons_succ]
    refine wpAnyH_done (by kernel_rfl) ?_ _
    have VL := ((VS.next hB104).set (o := 0) (u := .slice ad0 ts.length cd0) (show wS.heap.size ≠ w.heap.size + 2 by omega) ⟨_, OB.c0⟩).set (o := 1) (u := .slice ad3 (adL ls ⟨x0, x1, x2⟩).length cd3) (show wS.heap.size ≠ w.heap.size + 2 by omega) ⟨_, (OB.put0).c1⟩
    have OM := (OB.put0 (u := .slice ad0 ts.length cd0)).put1 (u := .slice ad3 (adL ls ⟨x0, x1, x2⟩).length cd3)
    have q0 := (o0.setFar (b := wS.heap.size) (o := 0) (x := .slice ad0 ts.length cd0) (fun e => ne0 _ e rfl)).setFar (b := wS.heap.size) (o := 1) (x := .slice ad3 (adL ls ⟨x0, x1, x2⟩).length cd3) (fun e => ne0 _ e rfl)
    have q3 := (o3.setFar (b := wS.heap.size) (o := 0) (x := .slice ad0 ts.length cd0) (fun e => ne3 _ e rfl)).setFar (b := wS.heap.size) (o := 1) (x := .slice ad3 (adL ls ⟨x0, x1, x2⟩).length cd3) (fun e => ne3 _ e rfl)
    clear j0 j1 j2 j3 OB hHeld NS XS XT VS HT HD KB ne0 ne3
    generalize (w103.setCell ⟨wS.heap.size, 0, none⟩ (.slice ad0 ts.length cd0)).setCell ⟨wS.heap.size, 1, none⟩ (.slice ad3 (adL ls ⟨x0, x1, x2⟩).length cd3) = WL at *
    generalize wS.heap.size = bo at *
    have j0 := OM.c0
    have j1 := OM.c1
    cases cg : netB ts (adL ls ⟨x0, x1, x2⟩) with
    | false =>
      have HG := Lib.hid cg
      have HF := Lib.hid (ad_f1 cg)
      clear cg
      go_wp2_with fail
      refine (isNet_b _ _ ts _ _ ⟨q0.rd, q3.rd⟩ HG.out).mono ?_
      rintro e wE ⟨rfl, hbE⟩
      have VE := VL.next hbE
      have NE := NT.next hbE
      have r0 := VE.c0
      have r1 := VE.c1
      have s0 := VE.f0
      have s1 := VE.f1
      have sz := VE.lt
      go_wp2
      refine bodyPost_ret (v := .tuple #[.agg #[.slice none 0 0, .slice none 0 0], .bool false]) (by simp [results, Try.results38, go_sem, r0, r1, s0, s1, *]) rfl ⟨.slice none 0 0, .slice none 0 0, by rw [HF.out.1], by rw [HF.out.2.1, HF.out.2.2]; exact OwnN.nil _ _ _, ?_⟩
      exact (NE.below.setCell (p := ⟨w.heap.size + 2, 0, none⟩) (by show w.heap.size ≤ w.heap.size + 2; omega) _).setCell (p := ⟨w.heap.size + 2, 1, none⟩) (by show w.heap.size ≤ w.heap.size + 2; omega) _
    | true =>
      have HG := Lib.hid cg
      have HF := Lib.hid (ad_t H0.out cg)
      clear cg
      go_wp2_with fail
      refine (isNet_b _ _ ts _ _ ⟨q0.rd, q3.rd⟩ HG.out).mono ?_
      rintro e wE ⟨rfl, hbE⟩
      have VE := VL.next hbE
      have NE := NT.next hbE
      have OE := OM.next hbE
      have pE := q0.later hbE
      have pF := q3.later hbE
      have r0 := VE.c0
      have r1 := VE.c1
      have s0 := VE.f0
      have s1 := VE.f1
      have sz := VE.lt
      have j0 := OE.c0
      have j1 := OE.c1
      go_wp2
      refine bodyPost_ret (v := .tuple #[.agg #[.slice ad0 ts.length cd0, .slice ad3 (adL ls ⟨x0, x1, x2⟩).length cd3], .bool true]) (by simp [results, Try.results38, go_sem, r0, r1, s0, s1, j0, j1, sz]) rfl ⟨_, _, by rw [HF.out.1], ?_, ?_⟩
      · rw [HF.out.2.1, HF.out.2.2]
        have u0 := ((pE.setFar (b := w.heap.size + 2) (o := 0) (x := .slice ad0 ts.length cd0) (fun e => by have := (pE.lt _ e).1; omega)).setFar (b := w.heap.size + 2) (o := 1) (x := .slice ad3 (adL ls ⟨x0, x1, x2⟩).length cd3) (fun e => by have := (pE.lt _ e).1; omega)).base (B' := w.heap.size) (by omega)
        have u1 := ((pF.setFar (b := w.heap.size + 2) (o := 0) (x := .slice ad0 ts.length cd0) (fun e => by have := (pF.lt _ e).1; omega)).setFar (b := w.heap.size + 2) (o := 1) (x := .slice ad3 (adL ls ⟨x0, x1, x2⟩).length cd3) (fun e => by have := (pF.lt _ e).1; omega)).base (B' := w.heap.size) (by omega)
        exact ⟨⟨u0, fun k hk => (u0.lt k hk).2⟩, ⟨u1, fun k hk => (u1.lt k hk).2⟩⟩
      · exact (NE.below.setCell (p := ⟨w.heap.size + 2, 0, none⟩) (by show w.heap.size ≤ w.heap.size + 2; omega) _).setCell (p := ⟨w.heap.size + 2, 1, none⟩) (by show w.heap.size ≤ w.heap.size + 2; omega) _
end Go.Proofs.Yteickcpmicifgaa
