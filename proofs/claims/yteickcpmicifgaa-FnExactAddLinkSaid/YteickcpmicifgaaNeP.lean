/- Chapter 6: DropTower of the program. Written by a generator of this claim's author. -/
import Derived.Test.YteickcpmicifgaaNeK
namespace Go.Proofs.Yteickcpmicifgaa
open Go.RowKit Go.Sort
set_option linter.unusedSimpArgs false
set_option linter.unusedVariables false

/-- Two things by their number. -/
def pk2 {T : Type} (a b : T) : Nat → T
  | 0 => a
  | _ => b
theorem catRTower_two (a b : List T3) : catRTower (pk2 a b) 2 = a ++ b := by simp [catRTower, pk2, List.range_succ]
theorem pk2_parts {w : World} {h : Nat} {q0 q1 : Value} {l0 l1 : List T3} (b0 : w.cell? ⟨h, 0, none⟩ = some q0) (b1 : w.cell? ⟨h, 1, none⟩ = some q1)
    (r0 : RdR c3 3 w q0 l0) (r1 : RdR c3 3 w q1 l1) (h0 : l0.length ≤ 1000) (h1 : l1.length ≤ 1000) :
    ∀ j, j < 2 → w.cell? ⟨h, j, none⟩ = some (pk2 q0 q1 j) ∧ RdR c3 3 w (pk2 q0 q1 j) (pk2 l0 l1 j) ∧ (pk2 l0 l1 j).length ≤ 1000 := by
  intro j hj
  match j, hj with
  | 0, _ => exact ⟨b0, r0, h0⟩
  | 1, _ => exact ⟨b1, r1, h1⟩
theorem numberWithout_any (a i : Int) (w : World) (ha : 0 ≤ a ∧ a ≤ 1000) :
    Calls Try.prog 75 #[.int .i64 a, .int .i64 i] w fun e w' => e = .returned (.int .i64 (dwx i a)) ∧ w = w' := by
  by_cases h : i < a
  · have hf : Hid (dwx i a = a - 1) := Lib.hid (by simp [dwx, h])
    have hw : IntKind.i64.wrap (a - 1) = a - 1 := IntWalk.i64_in _ (by omega)
    go_enter Try.func75, Try.ntmps75
    go_wp2
    go_ret
    exact ⟨by rw [hf.out]; rfl, rfl⟩
  · have hf : Hid (dwx i a = a) := Lib.hid (by simp [dwx, h])
    go_enter Try.func75, Try.ntmps75
    go_wp2
    go_ret
    exact ⟨by rw [hf.out]; rfl, rfl⟩

theorem Box3.grownN {W W' : World} {b : Nat} {q0 q1 q2 : Value} {row : Option Nat} (h : Box3 W b q0 q1 q2) (hg : W.grownBy W' row) (hne : row ≠ some b) : Box3 W' b q0 q1 q2 := by
  have hb : W'.heap[b]? = W.heap[b]? := hg.block b h.lt (fun e => hne e.symm)
  have hc : ∀ o, W'.cell? ⟨b, o, none⟩ = W.cell? ⟨b, o, none⟩ := fun o => World.cell?_of_block (w := W) (a := ⟨b, o, none⟩) hb
  exact ⟨Nat.lt_of_lt_of_le h.lt hg.size, by rw [hc]; exact h.c0, by rw [hc]; exact h.c1, by rw [hc]; exact h.c2⟩
set_option maxRecDepth 100000 in
set_option maxHeartbeats 16000000 in
theorem dropTower_any (c0 c1 : Value) (ts ls : List T3) (i : Int) (w : World) (hr : RdN w c0 c1 ts ls) :
    Calls Try.prog 41 #[.agg #[c0, c1], .int .i64 i] w fun e w' => ∃ v0 v1, e = .returned (.tuple #[.agg #[v0, v1], .bool (dpC ts ls i)]) ∧ OwnN w' w.heap.size w'.heap.size v0 v1 (dpT ts ls i) (dpR ts ls i) ∧ Below w.heap.size w w' := by
  obtain ⟨a0, p0, rfl, hp0⟩ := hr.1.len
  obtain ⟨a1, p1, rfl, hp1⟩ := hr.2.len
  obtain ⟨n, hn⟩ : ∃ n, n = ts.length := ⟨_, rfl⟩
  obtain ⟨m, hm⟩ : ∃ m, m = ls.length := ⟨_, rfl⟩
  have hm0 : (ts.length : Int) ≤ 9223372036854775807 := by have := hr.1.max; unfold maxLen at this; omega
  have hm1 : (ls.length : Int) ≤ 9223372036854775807 := by have := hr.2.max; unfold maxLen at this; omega
  rw [← hn] at hr hp0 hm0
  rw [← hm] at hr hp1 hm1
  rw [← hn, ← hm]
  have HN := Lib.hid hn
  have HM := Lib.hid hm
  clear hn hm
  have N0 := (NB.start hr 31).alloc (.cells #[.slice none 0 0, .slice none 0 0] 31)
  have V0 := Var2.new (w.alloc (.cells #[.slice a0 n p0, .slice a1 m p1] 31)) (.slice none 0 0) (.slice none 0 0) 31
  have hsz : ((w.alloc (.cells #[.slice a0 n p0, .slice a1 m p1] 31)).alloc (.cells #[.slice none 0 0, .slice none 0 0] 31)).heap.size = w.heap.size + 2 := by simp
  simp only [World.size_alloc] at V0
  have HR := Lib.hid hr
  clear hr
  cases c0 : netB ts ls with
  | false =>
    have H0 := Lib.hid c0
    have HF := Lib.hid (dp_f0 (hasB_no0 (a := i) c0))
    clear c0
    have h0 := N0.b0
    have h1 := N0.b1
    have r0 := V0.c0
    have r1 := V0.c1
    have s0 := V0.f0
    have s1 := V0.f1
    go_enter Try.func41, Try.ntmps41
    go_wp2_with fail
    generalize (w.alloc (.cells #[.slice a0 n p0, .slice a1 m p1] 31)).alloc (.cells #[.slice none 0 0, .slice none 0 0] 31) = W at *
    refine (isNet_b _ _ ts ls _ N0.rd H0.out).mono ?_
    rintro e w1 ⟨rfl, hb1⟩
    have N1 := N0.next hb1
    have V1 := V0.next hb1
    have hz1 : w.heap.size + 2 ≤ w1.heap.size := by have := hb1.size; omega
    clear h0 h1 r0 r1 s0 s1
    have h0 := N1.b0
    have h1 := N1.b1
    have r0 := V1.c0
    have r1 := V1.c1
    have s0 := V1.f0
    have s1 := V1.f1
    go_wp2
    refine bodyPost_ret (v := .tuple #[.agg #[.slice none 0 0, .slice none 0 0], .bool false]) (by simp [results, Try.results41, go_sem, r0, r1, s0, s1, *]) rfl ⟨.slice none 0 0, .slice none 0 0, by rw [HF.out.1], by rw [HF.out.2.1, HF.out.2.2]; exact OwnN.nil _ _ _, ?_⟩
    exact (N1.below.setCell (p := ⟨w.heap.size + 1, 0, none⟩) (by show w.heap.size ≤ w.heap.size + 1; omega) _).setCell (p := ⟨w.heap.size + 1, 1, none⟩) (by show w.heap.size ≤ w.heap.size + 1; omega) _
  | true =>
    have H0 := Lib.hid c0
    clear c0
    cases c1 : inB i 0 ((n : Int) - 1) with
    | false =>
      have H1 := Lib.hid c1
      have HF := Lib.hid (dp_f0 (hasB_no1 (ls := ls) (a := i) (by rw [← HN.out]; exact c1)))
      clear c1
      have h0 := N0.b0
      have h1 := N0.b1
      have r0 := V0.c0
      have r1 := V0.c1
      have s0 := V0.f0
      have s1 := V0.f1
      go_enter Try.func41, Try.ntmps41
      go_wp2_with fail
      generalize (w.alloc (.cells #[.slice a0 n p0, .slice a1 m p1] 31)).alloc (.cells #[.slice none 0 0, .slice none 0 0] 31) = W at *
      refine (isNet_b _ _ ts ls _ N0.rd H0.out).mono ?_
      rintro e w1 ⟨rfl, hb1⟩
      have N1 := N0.next hb1
      have V1 := V0.next hb1
      have hz1 : w.heap.size + 2 ≤ w1.heap.size := by have := hb1.size; omega
      clear h0 h1 r0 r1 s0 s1
      have h0 := N1.b0
      have h1 := N1.b1
      have r0 := V1.c0
      have r1 := V1.c1
      have s0 := V1.f0
      have s1 := V1.f1
      go_wp2_with fail
      refine (isTowerOf_b (b := false) _ _ ts ls _ _ N1.rd (by rw [← HN.out]; exact H1.out)).mono ?_
      rintro e w2 ⟨rfl, hb2⟩
      have N2 := N1.next hb2
      have V2 := V1.next hb2
      have hz2 : w.heap.size + 2 ≤ w2.heap.size := by have := hb2.size; omega
      clear h0 h1 r0 r1 s0 s1
      have h0 := N2.b0
      have h1 := N2.b1
      have r0 := V2.c0
      have r1 := V2.c1
      have s0 := V2.f0
      have s1 := V2.f1
      go_wp2
      refine bodyPost_ret (v := .tuple #[.agg #[.slice none 0 0, .slice none 0 0], .bool false]) (by simp [results, Try.results41, go_sem, r0, r1, s0, s1, *]) rfl ⟨.slice none 0 0, .slice none 0 0, by rw [HF.out.1], by rw [HF.out.2.1, HF.out.2.2]; exact OwnN.nil _ _ _, ?_⟩
      exact (N2.below.setCell (p := ⟨w.heap.size + 1, 0, none⟩) (by show w.heap.size ≤ w.heap.size + 1; omega) _).setCell (p := ⟨w.heap.size + 1, 1, none⟩) (by show w.heap.size ≤ w.heap.size + 1; omega) _
    | true =>
      have HA : hasB ts ls i = true := hasB_ys (ls := ls) H0.out (by rw [← HN.out]; exact c1)
      obtain ⟨I, hIe⟩ : ∃ I : Nat, i = (I : Int) := ⟨i.toNat, by have := (hasB_ok HA).2; omega⟩
      subst hIe
      have H1 := Lib.hid c1
      have HHA := Lib.hid HA
      have HOK := Lib.hid (hasB_ok HA).1
      have hIn : I < n := by have := (hasB_ok HA).2; rw [HN.out]; omega
      have hn16 : n ≤ 16 := by have := HOK.out.t16; rw [HN.out]; exact this
      have hm40 : m ≤ 40 := by have := HOK.out.l40; rw [HM.out]; exact this
      clear c1 HA
      by_cases hn1 : n = 1
      · have HF := Lib.hid (dp_f1 (ts := ts) (ls := ls) (i := (I : Int)) (by rw [← HN.out]; exact hn1))
        have d1 : ((n : Int) == 1) = true := by rw [beq_iff_eq]; omega
        clear hn1
        have h0 := N0.b0
        have h1 := N0.b1
        have r0 := V0.c0
        have r1 := V0.c1
        have s0 := V0.f0
        have s1 := V0.f1
        go_enter Try.func41, Try.ntmps41
        go_wp2_with fail
        generalize (w.alloc (.cells #[.slice a0 n p0, .slice a1 m p1] 31)).alloc (.cells #[.slice none 0 0, .slice none 0 0] 31) = W at *
        refine (isNet_b _ _ ts ls _ N0.rd H0.out).mono ?_
        rintro e w1 ⟨rfl, hb1⟩
        have N1 := N0.next hb1
        have V1 := V0.next hb1
        have hz1 : w.heap.size + 2 ≤ w1.heap.size := by have := hb1.size; omega
        clear h0 h1 r0 r1 s0 s1
        have h0 := N1.b0
        have h1 := N1.b1
        have r0 := V1.c0
        have r1 := V1.c1
        have s0 := V1.f0
        have s1 := V1.f1
        go_wp2_with fail
        refine (isTowerOf_b (b := true) _ _ ts ls _ _ N1.rd (by rw [← HN.out]; exact H1.out)).mono ?_
        rintro e w2 ⟨rfl, hb2⟩
        have N2 := N1.next hb2
        have V2 := V1.next hb2
        have hz2 : w.heap.size + 2 ≤ w2.heap.size := by have := hb2.size; omega
        clear h0 h1 r0 r1 s0 s1
        have h0 := N2.b0
        have h1 := N2.b1
        have r0 := V2.c0
        have r1 := V2.c1
        have s0 := V2.f0
        have s1 := V2.f1
        go_wp2
        refine bodyPost_ret (v := .tuple #[.agg #[.slice none 0 0, .slice none 0 0], .bool false]) (by simp [results, Try.results41, go_sem, r0, r1, s0, s1, *]) rfl ⟨.slice none 0 0, .slice none 0 0, by rw [HF.out.1], by rw [HF.out.2.1, HF.out.2.2]; exact OwnN.nil _ _ _, ?_⟩
        exact (N2.below.setCell (p := ⟨w.heap.size + 1, 0, none⟩) (by show w.heap.size ≤ w.heap.size + 1; omega) _).setCell (p := ⟨w.heap.size + 1, 1, none⟩) (by show w.heap.size ≤ w.heap.size + 1; omega) _
      · have HF := Lib.hid (dp_t (ts := ts) (ls := ls) HHA.out (by rw [← HN.out]; exact hn1))
        have d1 : ((n : Int) == 1) = false := by rw [beq_eq_false_iff_ne]; omega
        clear hn1
        have h0 := N0.b0
        have h1 := N0.b1
        have r0 := V0.c0
        have r1 := V0.c1
        have s0 := V0.f0
        have s1 := V0.f1
        go_enter Try.func41, Try.ntmps41
        go_wp2_with fail
        generalize (w.alloc (.cells #[.slice a0 n p0, .slice a1 m p1] 31)).alloc (.cells #[.slice none 0 0, .slice none 0 0] 31) = W at *
        refine (isNet_b _ _ ts ls _ N0.rd H0.out).mono ?_
        rintro e w1 ⟨rfl, hb1⟩
        have N1 := N0.next hb1
        have V1 := V0.next hb1
        have hz1 : w.heap.size + 2 ≤ w1.heap.size := by have := hb1.size; omega
        clear h0 h1 r0 r1 s0 s1
        have h0 := N1.b0
        have h1 := N1.b1
        have r0 := V1.c0
        have r1 := V1.c1
        have s0 := V1.f0
        have s1 := V1.f1
        go_wp2_with fail
        refine (isTowerOf_b (b := true) _ _ ts ls _ _ N1.rd (by rw [← HN.out]; exact H1.out)).mono ?_
        rintro e w2 ⟨rfl, hb2⟩
        have N2 := N1.next hb2
        have V2 := V1.next hb2
        have hz2 : w.heap.size + 2 ≤ w2.heap.size := by have := hb2.size; omega
        clear h0 h1 r0 r1 s0 s1
        have h0 := N2.b0
        have h1 := N2.b1
        have r0 := V2.c0
        have r1 := V2.c1
        have s0 := V2.f0
        have s1 := V2.f1
        obtain ⟨I1, hI1⟩ : ∃ I1, I1 = I + 1 := ⟨_, rfl⟩
        have I1e : Hid (I1 = I + 1) := Lib.hid hI1
        have hw1 : IntKind.i64.wrap ((I : Int) + 1) = (I1 : Int) := by rw [IntWalk.i64_in _ (by omega)]; omega
        have hI00 : (0 : Int) ≤ (I : Int) := by omega
        have hI10 : (0 : Int) ≤ (I1 : Int) := by omega
        obtain ⟨a5, hs1, hs2, hs3⟩ := sliceHiTower N2.rd.1 HN.out hp0 I (by omega)
        obtain ⟨a6, c6, ht1, ht2, ht3⟩ := sliceLoTower N2.rd.1 HN.out hp0 I1 (by omega)
        obtain ⟨tt, htt⟩ : ∃ tt, ts.take I ++ ts.drop I1 = tt := ⟨_, rfl⟩
        have HT2 := Lib.hid htt
        have HTT : Hid (ts.take I ++ ts.drop (I + 1) = tt) := Lib.hid (by rw [← hI1]; exact htt)
        have HLT : Hid ((ts.take I).length ≤ 100 ∧ (ts.drop I1).length ≤ 100) := Lib.hid (by have := HN.out; simp; omega)
        clear hI1 htt
        go_wp2
        clear h0 h1 r0 r1 s0 s1
        refine wp_region_held_drew (S := (fun w' => w'.cell? ⟨w.heap.size, 0, none⟩ = some (.slice a0 n p0) ∧ w'.cell? ⟨w.heap.size, 1, none⟩ = some (.slice a1 m p1))) (by kernel_rfl) ?_ (fun hHeld => ?_)
        · exact ⟨N2.drew.b0, N2.drew.b1⟩
        refine wpAnyH_name ?_
        intro wS hwS
        rw [← hwS] at hHeld
        have hbS := below_named hwS
        clear hwS
        have hB0 := Below.refl wS.heap.size wS
        have NS := N2.next hbS
        have VS := V2.next hbS
        have HT := Lib.hid (hs3.later hbS)
        have HD := Lib.hid (ht3.later hbS)
        have hzS : w.heap.size + 2 ≤ wS.heap.size := by have := hbS.size; omega
        have KB : Hid (∀ y : World, Below wS.heap.size wS y → y.cell? ⟨w.heap.size, 0, none⟩ = some (.slice a0 n p0) ∧ y.cell? ⟨w.heap.size, 1, none⟩ = some (.slice a1 m p1)) := Lib.hid fun y h => ⟨(NS.next h).b0, (NS.next h).b1⟩
        clear N2 V2 hs3 ht3
        refine wpAnyH_take (i := 0) (oi := { dst := some 25, op := Go.Op.fieldAddr 31 (Go.Operand.tmp 2) 0, type := 0, pos := "l6_tower.go:166", after := #[], guard := none }) (v := ?_) rfl (by kernel_rfl) (by kernel_rfl) (by kernel_rfl) (fun _ _ _ h => h) (Or.inl ⟨by rfl, ?_⟩) (by assumption) ?_
        rotate_left
        · intro w hSw; (try dsimp only at hSw); go_simp; try with_reducible rfl
        try simp only [Act.put, List.setIfInBounds_toArray, List.set_cons_zero, List.set_cons_succ]
        refine wpAnyH_take (i := 1) (oi := { dst := some 26, op := Go.Op.load 28 (Go.Operand.tmp 25), type := 28, pos := "l6_tower.go:166", after := #[{ on := 0, ground := Go.Ground.data }], guard := none }) (v := ?_) rfl (by kernel_rfl) (by kernel_rfl) (by kernel_rfl) (fun _ _ _ h => h) (Or.inl ⟨by rfl, ?_⟩) (by assumption) ?_
        rotate_left
        · intro w hSw; (try dsimp only at hSw); go_simp; try with_reducible rfl
        try simp only [Act.put, List.setIfInBounds_toArray, List.set_cons_zero, List.set_cons_succ]
        refine wpAnyH_take (i := 2) (oi := { dst := some 27, op := Go.Op.move (Go.Operand.tmp 1), type := 3, pos := "l6_tower.go:166", after := #[], guard := none }) (v := ?_) rfl (by kernel_rfl) (by kernel_rfl) (by kernel_rfl) (fun _ _ _ h => h) (Or.inl ⟨by rfl, ?_⟩) (by assumption) ?_
        rotate_left
        · intro w hSw; (try dsimp only at hSw); go_simp; try with_reducible rfl
        try simp only [Act.put, List.setIfInBounds_toArray, List.set_cons_zero, List.set_cons_succ]
        refine wpAnyH_take (i := 3) (oi := { dst := some 28, op := Go.Op.slice 28 (Go.Operand.tmp 26) none (some (Go.Operand.tmp 27)) none, type := 28, pos := "l6_tower.go:166", after := #[{ on := 1, ground := Go.Ground.data }, { on := 2, ground := Go.Ground.data }], guard := none }) (v := ?_) rfl (by kernel_rfl) (by kernel_rfl) (by kernel_rfl) (fun _ _ _ h => h) (Or.inl ⟨by rfl, ?_⟩) (by assumption) ?_
        rotate_left
        · intro w hSw; (try dsimp only at hSw); go_simp; try with_reducible rfl
        try simp only [Act.put, List.setIfInBounds_toArray, List.set_cons_zero, List.set_cons_succ]
        refine wpAnyH_take (i := 4) (oi := { dst := some 29, op := Go.Op.fieldAddr 31 (Go.Operand.tmp 2) 0, type := 0, pos := "l6_tower.go:166", after := #[], guard := none }) (v := ?_) rfl (by kernel_rfl) (by kernel_rfl) (by kernel_rfl) (fun _ _ _ h => h) (Or.inl ⟨by rfl, ?_⟩) (by assumption) ?_
        rotate_left
        · intro w hSw; (try dsimp only at hSw); go_simp; try with_reducible rfl
        try simp only [Act.put, List.setIfInBounds_toArray, List.set_cons_zero, List.set_cons_succ]
        refine wpAnyH_take (i := 5) (oi := { dst := some 30, op := Go.Op.load 28 (Go.Operand.tmp 29), type := 28, pos := "l6_tower.go:166", after := #[{ on := 4, ground := Go.Ground.data }], guard := none }) (v := ?_) rfl (by kernel_rfl) (by kernel_rfl) (by kernel_rfl) (fun _ _ _ h => h) (Or.inl ⟨by rfl, ?_⟩) (by assumption) ?_
        rotate_left
        · intro w hSw; (try dsimp only at hSw); go_simp; try with_reducible rfl
        try simp only [Act.put, List.setIfInBounds_toArray, List.set_cons_zero, List.set_cons_succ]
        refine wpAnyH_take (i := 6) (oi := { dst := some 31, op := Go.Op.move (Go.Operand.tmp 1), type := 3, pos := "l6_tower.go:166", after := #[], guard := none }) (v := ?_) rfl (by kernel_rfl) (by kernel_rfl) (by kernel_rfl) (fun _ _ _ h => h) (Or.inl ⟨by rfl, ?_⟩) (by assumption) ?_
        rotate_left
        · intro w hSw; (try dsimp only at hSw); go_simp; try with_reducible rfl
        try simp only [Act.put, List.setIfInBounds_toArray, List.set_cons_zero, List.set_cons_succ]
        refine wpAnyH_take (i := 7) (oi := { dst := some 32, op := Go.Op.binOp Go.BinOp.add 3 (Go.Operand.tmp 31) (Go.Operand.const (Go.Value.int Go.IntKind.i64 1)) 3, type := 3, pos := "l6_tower.go:166", after := #[{ on := 6, ground := Go.Ground.data }], guard := none }) (v := ?_) rfl (by kernel_rfl) (by kernel_rfl) (by kernel_rfl) (fun _ _ _ h => h) (Or.inl ⟨by rfl, ?_⟩) (by assumption) ?_
        rotate_left
        · intro w hSw; (try dsimp only at hSw); go_simp; try with_reducible rfl
        try simp only [Act.put, List.setIfInBounds_toArray, List.set_cons_zero, List.set_cons_succ]
        refine wpAnyH_take (i := 8) (oi := { dst := some 33, op := Go.Op.slice 28 (Go.Operand.tmp 30) (some (Go.Operand.tmp 32)) none none, type := 28, pos := "l6_tower.go:166", after := #[{ on := 5, ground := Go.Ground.data }, { on := 7, ground := Go.Ground.data }], guard := none }) (v := ?_) rfl (by kernel_rfl) (by kernel_rfl) (by kernel_rfl) (fun _ _ _ h => h) (Or.inl ⟨by rfl, ?_⟩) (by assumption) ?_
        rotate_left
        · intro w hSw; (try dsimp only at hSw); go_simp; try with_reducible rfl
        try simp only [Act.put, List.setIfInBounds_toArray, List.set_cons_zero, List.set_cons_succ]
        refine wpAnyH_ready (rs := [9, 12]) (by kernel_rfl) (by simp) ?_
        refine AllReadyH.cons (o := { dst := some 34, op := Go.Op.buildSlice 96 2 #[(0, Go.Operand.tmp 28), (1, Go.Operand.tmp 33)], type := 96, pos := "l6_tower.go:166", after := #[{ on := 3, ground := Go.Ground.data }, { on := 8, ground := Go.Ground.data }], guard := none }) rfl (fun K hK => ?_) ?_
        · go_simp
          refine hK.out _ _ ?_ (fun hHeld => ?_)
          · exact KB.out _ (hB0.alloc hB0.size _)
          clear hK K
          try simp only [Act.put, List.setIfInBounds_toArray, List.set_cons_zero, List.set_cons_succ]
          refine wpAnyH_name ?_
          intro w1 hw1
          rw [← hw1] at hHeld
          have hb1 := below_alloc hw1
          have z1 := lt_named hw1
          have d0 : w1.cell? ⟨wS.heap.size, 0, none⟩ = some (.slice a5 I p0) := by rw [hw1]; simp [go_sem]
          have d3 : w1.cell? ⟨wS.heap.size, 1, none⟩ = some (.slice a6 (n - I1) c6) := by rw [hw1]; simp [go_sem]
          clear hw1
          have hB2 := hB0.trans (hb1.mono hB0.size)
          have hP := fun (y : World) (hy : Below w1.heap.size w1 y) => pk2_parts (bcell hy d0) (bcell hy d3) (HT.out.later ((hB0.trans (hb1.mono hB0.size)).trans (hy.mono (Nat.le_trans hB0.size hb1.size)))) (HD.out.later ((hB0.trans (hb1.mono hB0.size)).trans (hy.mono (Nat.le_trans hB0.size hb1.size)))) (Nat.le_trans HLT.out.1 (by decide)) (Nat.le_trans HLT.out.2 (by decide))
          have hpl := z1
          clear d0 d3
          have hPB := Below.refl w1.heap.size w1
          refine wpAnyH_ready (rs := [10, 12]) (by kernel_rfl) (by simp) ?_
          refine AllReadyH.cons (o := { dst := some 35, op := Go.Op.call { callee := Go.Callee.value (Go.Operand.func 74), args := #[Go.Operand.tmp 34], argTypes := #[96] }, type := 28, pos := "l6_tower.go:166", after := #[{ on := 9, ground := Go.Ground.data }], guard := none }) rfl (fun K hK => ?_) ?_
          · go_simp
            refine (concatTower_any _ 2 _ _ _ (by decide) (Nat.lt_of_lt_of_le hpl hPB.size) (hP _ hPB)).mono ?_
            rintro e w3 ⟨v, rfl, oT, hb3⟩
            rw [catRTower_two, HT2.out] at oT
            obtain ⟨ad0, cd0, rfl, -⟩ := oT.rd.len
            have o1 := oT.base (B' := wS.heap.size) hB2.size
            try go_simp
            refine hK.out _ _ ?_ (fun hHeld => ?_)
            · exact KB.out _ (hB2.trans (hb3.mono hB2.size))
            clear hK K
            try simp only [Act.put, List.setIfInBounds_toArray, List.set_cons_zero, List.set_cons_succ]
            have hPB := hPB.trans (hb3.mono hPB.size)
            have hB4 := hB2.trans (hb3.mono hB2.size)
            clear oT hP hPB hpl
            refine wpAnyH_take (i := 11) (oi := { dst := some 36, op := Go.Op.build 31 #[(0, Go.Operand.tmp 35)], type := 31, pos := "l6_tower.go:166", after := #[{ on := 10, ground := Go.Ground.data }], guard := none }) (v := ?_) rfl (by kernel_rfl) (by kernel_rfl) (by kernel_rfl) (fun _ _ _ h => h) (Or.inl ⟨by rfl, ?_⟩) (by assumption) ?_
            rotate_left
            · intro w hSw; (try dsimp only at hSw); go_simp; try with_reducible rfl
            try simp only [Act.put, List.setIfInBounds_toArray, List.set_cons_zero, List.set_cons_succ]
            refine wpAnyH_ready (rs := [12]) (by kernel_rfl) (by simp) ?_
            refine AllReadyH.cons (o := { dst := some 6, op := Go.Op.alloc 31, type := 0, pos := "l6_tower.go:166", after := #[], guard := none }) rfl (fun K hK => ?_) AllReadyH.nil
            have ne0 := fun k hk => Nat.ne_of_lt (o1.lt k hk).2
            go_simp
            refine hK.out _ _ ?_ (fun hHeld => ?_)
            · exact KB.out _ (hB4.alloc hB4.size _)
            clear hK K
            try simp only [Act.put, List.setIfInBounds_toArray, List.set_cons_zero, List.set_cons_succ]
            refine wpAnyH_name ?_
            intro w5 hw5
            rw [← hw5] at hHeld
            have hb5 := below_alloc hw5
            have z5 := lt_named hw5
            have OB : Var2 w5 w3.heap.size (.slice none 0 0) (.slice none 0 0) := by rw [hw5]; exact Var2.new _ _ _ _
            have hbl := hB4.size
            have hzb := z5
            clear hw5
            have o1 := o1.later hb5
            have hB6 := hB4.trans (hb5.mono hB4.size)
            refine wpAnyH_ready (rs := [13]) (by kernel_rfl) (by simp) ?_
            refine AllReadyH.cons (o := { dst := none, op := Go.Op.store 31 (Go.Operand.tmp 6) (Go.Operand.tmp 36), type := 0, pos := "l6_tower.go:166", after := #[{ on := 12, ground := Go.Ground.data }, { on := 11, ground := Go.Ground.data }, { on := 10, ground := Go.Ground.chain }, { on := 0, ground := Go.Ground.phase }, { on := 1, ground := Go.Ground.phase }, { on := 2, ground := Go.Ground.phase }, { on := 3, ground := Go.Ground.phase }, { on := 4, ground := Go.Ground.phase }, { on := 5, ground := Go.Ground.phase }, { on := 6, ground := Go.Ground.phase }, { on := 7, ground := Go.Ground.phase }, { on := 8, ground := Go.Ground.phase }, { on := 9, ground := Go.Ground.phase }, { on := 10, ground := Go.Ground.phase }, { on := 11, ground := Go.Ground.phase }, { on := 12, ground := Go.Ground.phase }], guard := none }) rfl (fun K hK => ?_) AllReadyH.nil
            have j0 := OB.c0
            have j1 := OB.c1
            have j2 := OB.f0
            have j3 := OB.f1
            have hbl3 : w.heap.size + 2 ≤ w3.heap.size := by omega
            have NT := ((NS.next hB6).set (o := 0) (u := .slice ad0 tt.length cd0) HR.out (show w.heap.size < w3.heap.size by omega)).set (o := 1) (u := .slice none 0 0) HR.out (show w.heap.size < w3.heap.size by omega)
            go_simp
            refine hK.out _ _ ?_ (fun hHeld => ?_)
            · exact ⟨NT.b0, NT.b1⟩
            clear hK K
            try simp only [Act.put, List.setIfInBounds_toArray, List.set_cons_zero, List.set_cons_succ]
            refine wpAnyH_done (by kernel_rfl) ?_ _
            have VL := ((VS.next hB6).set (o := 0) (u := .slice ad0 tt.length cd0) (show w3.heap.size ≠ w.heap.size + 1 by omega) ⟨_, OB.c0⟩).set (o := 1) (u := .slice none 0 0) (show w3.heap.size ≠ w.heap.size + 1 by omega) ⟨_, (OB.put0).c1⟩
            have OM := (OB.put0 (u := .slice ad0 tt.length cd0)).put1 (u := .slice none 0 0)
            have q0 := ((o1.setFar (b := w3.heap.size) (o := 0) (x := .slice ad0 tt.length cd0) (fun e => ne0 _ e rfl)).setFar (b := w3.heap.size) (o := 1) (x := .slice none 0 0) (fun e => ne0 _ e rfl)).base (B' := w.heap.size + 2) hzS
            have HNE := Lib.hid ne0
            clear j0 j1 j2 j3 OB hHeld NS VS HT HD KB ne0 hzb o1
            generalize (w5.setCell ⟨w3.heap.size, 0, none⟩ (.slice ad0 tt.length cd0)).setCell ⟨w3.heap.size, 1, none⟩ (.slice none 0 0) = WL at *
            generalize w3.heap.size = bo at *
            have h0 := NT.b0
            have h1 := NT.b1
            go_wp2
            go_loopw [40] (fun c wr => ∃ (k : Nat) (vc : Value), k ≤ m ∧ c = .int .i64 k ∧ NB w wr a0 n p0 a1 m p1 ts ls ∧ Var2 wr (w.heap.size + 1) (.slice none 0 0) (.slice none 0 0) ∧ Var2 wr bo (.slice ad0 tt.length cd0) vc ∧ OwnR 62 c3 3 wr (w.heap.size + 2) (.slice ad0 tt.length cd0) tt ∧ OwnR 53 c3 3 wr (bo + 1) vc (dropL (I : Int) (ls.take k))) (fun c wr => m - (intOf c).toNat)
            case atStart => exact ⟨0, _, Nat.zero_le _, rfl, NT, VL, OM, q0, OwnR.nil _ _⟩
            case round =>
              clear h0 h1 NT VL OM q0 
              obtain ⟨k, vc, hk, rfl, NK, VK, OK, qT, qL⟩ := hrel
              obtain ⟨avc, cvc, rfl, -⟩ := qL.rd.len
              obtain ⟨DL, hDL⟩ : ∃ DL, dropL (I : Int) (ls.take k) = DL := ⟨_, rfl⟩
              rw [hDL] at OK qL
              have HDLk := Lib.hid hDL
              clear hDL
              have h0 := NK.b0
              have h1 := NK.b1
              have j0 := OK.c0
              have j1 := OK.c1
              have hob := OK.lt
              by_cases hlt : k < m
              · obtain ⟨g, off, rfl, hg, e0, e1, e2⟩ := NK.rd.2.at3 HM.out k hlt
                have HDL : Hid (dropL (I : Int) (ls.take (k + 1)) = DL ++ dropOne (I : Int) (rAt ls k)) := Lib.hid (by rw [← HDLk.out]; exact dropL_take (by rw [← HM.out]; exact hlt))
                have HKL : Hid (DL.length ≤ 40) := Lib.hid (by rw [← HDLk.out]; have := dropL_len (I : Int) (ls.take k); simp at this; omega)
                have hln := HOK.out.lnk k (by rw [← HM.out]; exact hlt)
                rw [← HN.out] at hln
                have hl0 : 0 ≤ (rAt ls k).x0 ∧ (rAt ls k).x0 ≤ 16 := by omega
                have hl1 : 0 ≤ (rAt ls k).x1 ∧ (rAt ls k).x1 ≤ 16 := by omega
                have HD1 : Hid (dropOne (I : Int) (rAt ls k) = dropOne (I : Int) ⟨(rAt ls k).x0, (rAt ls k).x1, (rAt ls k).x2⟩) := Lib.hid rfl
                clear hln
                generalize (rAt ls k).x0 = x0 at *
                generalize (rAt ls k).x1 = x1 at *
                generalize (rAt ls k).x2 = x2 at *
                by_cases d0 : x0 = (I : Int)
                · have b0 : (x0 != (I : Int)) = false := by simpa using d0
                  have E1 : Hid (dropL (I : Int) (ls.take (k + 1)) = DL) := Lib.hid (by rw [HDL.out, HD1.out]; simp [dropOne, d0])
                  clear d0
                  go_wp2
                  go_roundw
                  case rel => exact ⟨k + 1, _, by omega, by go_num, NK.next ((Below.refl wr.heap.size wr).alloc (Nat.le_refl _) (.cells #[.int .i64 x0, .int .i64 x1, .int .i64 x2] 53)), VK.next ((Below.refl wr.heap.size wr).alloc (Nat.le_refl _) (.cells #[.int .i64 x0, .int .i64 x1, .int .i64 x2] 53)), OK.next ((Below.refl wr.heap.size wr).alloc (Nat.le_refl _) (.cells #[.int .i64 x0, .int .i64 x1, .int .i64 x2] 53)), qT.later ((Below.refl wr.heap.size wr).alloc (Nat.le_refl _) (.cells #[.int .i64 x0, .int .i64 x1, .int .i64 x2] 53)), by rw [E1.out]; exact qL.later ((Below.refl wr.heap.size wr).alloc (Nat.le_refl _) (.cells #[.int .i64 x0, .int .i64 x1, .int .i64 x2] 53))⟩
                  case measure => simp [intOf]; omega
                · have b0 : (x0 != (I : Int)) = true := by simpa using d0
                  by_cases d1 : x1 = (I : Int)
                  · have b1 : (x1 != (I : Int)) = false := by simpa using d1
                    have E1 : Hid (dropL (I : Int) (ls.take (k + 1)) = DL) := Lib.hid (by rw [HDL.out, HD1.out]; simp [dropOne, d1])
                    clear d0 d1
                    go_wp2
                    go_roundw
                    case rel => exact ⟨k + 1, _, by omega, by go_num, NK.next ((Below.refl wr.heap.size wr).alloc (Nat.le_refl _) (.cells #[.int .i64 x0, .int .i64 x1, .int .i64 x2] 53)), VK.next ((Below.refl wr.heap.size wr).alloc (Nat.le_refl _) (.cells #[.int .i64 x0, .int .i64 x1, .int .i64 x2] 53)), OK.next ((Below.refl wr.heap.size wr).alloc (Nat.le_refl _) (.cells #[.int .i64 x0, .int .i64 x1, .int .i64 x2] 53)), qT.later ((Below.refl wr.heap.size wr).alloc (Nat.le_refl _) (.cells #[.int .i64 x0, .int .i64 x1, .int .i64 x2] 53)), by rw [E1.out]; exact qL.later ((Below.refl wr.heap.size wr).alloc (Nat.le_refl _) (.cells #[.int .i64 x0, .int .i64 x1, .int .i64 x2] 53))⟩
                    case measure => simp [intOf]; omega
                  · have b1 : (x1 != (I : Int)) = true := by simpa using d1
                    have E1 : Hid (dropL (I : Int) (ls.take (k + 1)) = DL ++ [⟨dwx (I : Int) x0, dwx (I : Int) x1, x2⟩]) := Lib.hid (by rw [HDL.out, HD1.out]; simp [dropOne, d0, d1])
                    have HL2 : Hid (DL.length + ([⟨dwx (I : Int) x0, dwx (I : Int) x1, x2⟩] : List T3).length ≤ 4194304) := Lib.hid (by have := HKL.out; simp; omega)
                    have alA := ((Below.refl wr.heap.size wr).alloc (Nat.le_refl _) (.cells #[.int .i64 x0, .int .i64 x1, .int .i64 x2] 53))
                    have NA := NK.next alA
                    have VA := VK.next alA
                    have OA := OK.next alA
                    have XA := Box3.new wr (.int .i64 x0) (.int .i64 x1) (.int .i64 x2) 53
                    have tA := qT.later alA
                    have lA := qL.later alA
                    have hXL : ∀ j, (Value.slice avc DL.length cvc).ownBlock = some j → j ≠ wr.heap.size := fun j hj => by have := (qL.lt j hj).2; omega
                    have hwb : w.heap.size + 2 ≤ bo := hbl3
                    clear d0 d1 alA
                    go_wp2
                    clear h0 h1 j0 j1 e0 e1 e2 b0 b1 NK VK OK qT qL
                    generalize wr.alloc (.cells #[.int .i64 x0, .int .i64 x1, .int .i64 x2] 53) = WX at *
                    refine wp_region_held_drew (S := (fun w' => w'.cell? ⟨wr.heap.size, 0, none⟩ = some (.int .i64 x0) ∧ w'.cell? ⟨wr.heap.size, 1, none⟩ = some (.int .i64 x1) ∧ w'.cell? ⟨wr.heap.size, 2, none⟩ = some (.int .i64 x2))) (by kernel_rfl) ?_ (fun hHeld => ?_)
                    · exact ⟨(XA.next (Below.refl _ _).drew).c0, (XA.next (Below.refl _ _).drew).c1, (XA.next (Below.refl _ _).drew).c2⟩
                    refine wpAnyH_name ?_
                    intro wS hwS
                    rw [← hwS] at hHeld
                    have hbS := below_named hwS
                    clear hwS
                    have hB0 := Below.refl wS.heap.size wS
                    have XB := XA.next hbS
                    have OB := OA.next hbS
                    have VB := VA.next hbS
                    have NB8 := NA.next hbS
                    have tB := tA.later hbS
                    have lB := lA.later hbS
                    have j0 := OB.c0
                    have j1 := OB.c1
                    have hzS8 : bo + 1 ≤ wS.heap.size := OB.lt
                    have hzX : wr.heap.size + 1 ≤ wS.heap.size := XB.lt
                    have KB : Hid (∀ y : World, Below wS.heap.size wS y → y.cell? ⟨wr.heap.size, 0, none⟩ = some (.int .i64 x0) ∧ y.cell? ⟨wr.heap.size, 1, none⟩ = some (.int .i64 x1) ∧ y.cell? ⟨wr.heap.size, 2, none⟩ = some (.int .i64 x2)) := Lib.hid fun y h => ⟨(XB.next h).c0, (XB.next h).c1, (XB.next h).c2⟩
                    refine wpAnyH_take (i := 0) (oi := { dst := some 54, op := Go.Op.fieldAddr 31 (Go.Operand.tmp 6) 1, type := 0, pos := "l6_tower.go:169", after := #[], guard := none }) (v := ?_) rfl (by kernel_rfl) (by kernel_rfl) (by kernel_rfl) (fun _ _ _ h => h) (Or.inl ⟨by rfl, ?_⟩) (by assumption) ?_
                    rotate_left
                    · intro w hSw; (try dsimp only at hSw); go_simp; try with_reducible rfl
                    try simp only [Act.put, List.setIfInBounds_toArray, List.set_cons_zero, List.set_cons_succ]
                    refine wpAnyH_take (i := 2) (oi := { dst := some 56, op := Go.Op.fieldAddr 53 (Go.Operand.tmp 8) 0, type := 0, pos := "l6_tower.go:169", after := #[], guard := none }) (v := ?_) rfl (by kernel_rfl) (by kernel_rfl) (by kernel_rfl) (fun _ _ _ h => h) (Or.inl ⟨by rfl, ?_⟩) (by assumption) ?_
                    rotate_left
                    · intro w hSw; (try dsimp only at hSw); go_simp; try with_reducible rfl
                    try simp only [Act.put, List.setIfInBounds_toArray, List.set_cons_zero, List.set_cons_succ]
                    refine wpAnyH_take (i := 3) (oi := { dst := some 57, op := Go.Op.load 3 (Go.Operand.tmp 56), type := 3, pos := "l6_tower.go:169", after := #[{ on := 2, ground := Go.Ground.data }], guard := none }) (v := ?_) rfl (by kernel_rfl) (by kernel_rfl) (by kernel_rfl) (fun _ _ _ h => h) (Or.inl ⟨by rfl, ?_⟩) (by assumption) ?_
                    rotate_left
                    · intro w hSw; (try dsimp only at hSw); go_simp; try with_reducible rfl
                    try simp only [Act.put, List.setIfInBounds_toArray, List.set_cons_zero, List.set_cons_succ]
                    refine wpAnyH_take (i := 4) (oi := { dst := some 58, op := Go.Op.move (Go.Operand.tmp 1), type := 3, pos := "l6_tower.go:169", after := #[], guard := none }) (v := ?_) rfl (by kernel_rfl) (by kernel_rfl) (by kernel_rfl) (fun _ _ _ h => h) (Or.inl ⟨by rfl, ?_⟩) (by assumption) ?_
                    rotate_left
                    · intro w hSw; (try dsimp only at hSw); go_simp; try with_reducible rfl
                    try simp only [Act.put, List.setIfInBounds_toArray, List.set_cons_zero, List.set_cons_succ]
                    refine wpAnyH_take (i := 6) (oi := { dst := some 60, op := Go.Op.fieldAddr 53 (Go.Operand.tmp 8) 1, type := 0, pos := "l6_tower.go:169", after := #[], guard := none }) (v := ?_) rfl (by kernel_rfl) (by kernel_rfl) (by kernel_rfl) (fun _ _ _ h => h) (Or.inl ⟨by rfl, ?_⟩) (by assumption) ?_
                    rotate_left
                    · intro w hSw; (try dsimp only at hSw); go_simp; try with_reducible rfl
                    try simp only [Act.put, List.setIfInBounds_toArray, List.set_cons_zero, List.set_cons_succ]
                    refine wpAnyH_take (i := 7) (oi := { dst := some 61, op := Go.Op.load 3 (Go.Operand.tmp 60), type := 3, pos := "l6_tower.go:169", after := #[{ on := 6, ground := Go.Ground.data }], guard := none }) (v := ?_) rfl (by kernel_rfl) (by kernel_rfl) (by kernel_rfl) (fun _ _ _ h => h) (Or.inl ⟨by rfl, ?_⟩) (by assumption) ?_
                    rotate_left
                    · intro w hSw; (try dsimp only at hSw); go_simp; try with_reducible rfl
                    try simp only [Act.put, List.setIfInBounds_toArray, List.set_cons_zero, List.set_cons_succ]
                    refine wpAnyH_take (i := 8) (oi := { dst := some 62, op := Go.Op.move (Go.Operand.tmp 1), type := 3, pos := "l6_tower.go:169", after := #[], guard := none }) (v := ?_) rfl (by kernel_rfl) (by kernel_rfl) (by kernel_rfl) (fun _ _ _ h => h) (Or.inl ⟨by rfl, ?_⟩) (by assumption) ?_
                    rotate_left
                    · intro w hSw; (try dsimp only at hSw); go_simp; try with_reducible rfl
                    try simp only [Act.put, List.setIfInBounds_toArray, List.set_cons_zero, List.set_cons_succ]
                    refine wpAnyH_take (i := 10) (oi := { dst := some 64, op := Go.Op.fieldAddr 53 (Go.Operand.tmp 8) 2, type := 0, pos := "l6_tower.go:169", after := #[], guard := none }) (v := ?_) rfl (by kernel_rfl) (by kernel_rfl) (by kernel_rfl) (fun _ _ _ h => h) (Or.inl ⟨by rfl, ?_⟩) (by assumption) ?_
                    rotate_left
                    · intro w hSw; (try dsimp only at hSw); go_simp; try with_reducible rfl
                    try simp only [Act.put, List.setIfInBounds_toArray, List.set_cons_zero, List.set_cons_succ]
                    refine wpAnyH_take (i := 11) (oi := { dst := some 65, op := Go.Op.load 3 (Go.Operand.tmp 64), type := 3, pos := "l6_tower.go:169", after := #[{ on := 10, ground := Go.Ground.data }], guard := none }) (v := ?_) rfl (by kernel_rfl) (by kernel_rfl) (by kernel_rfl) (fun _ _ _ h => h) (Or.inl ⟨by rfl, ?_⟩) (by assumption) ?_
                    rotate_left
                    · intro w hSw; (try dsimp only at hSw); go_simp; try with_reducible rfl
                    try simp only [Act.put, List.setIfInBounds_toArray, List.set_cons_zero, List.set_cons_succ]
                    refine wpAnyH_ready (rs := [1, 5]) (by kernel_rfl) (by simp) ?_
                    refine AllReadyH.cons (o := { dst := some 55, op := Go.Op.load 29 (Go.Operand.tmp 54), type := 29, pos := "l6_tower.go:169", after := #[{ on := 0, ground := Go.Ground.data }], guard := none }) rfl (fun K hK => ?_) ?_
                    · go_simp
                      refine hK.out _ _ ?_ (fun hHeld => ?_)
                      · exact hHeld
                      clear hK K
                      try simp only [Act.put, List.setIfInBounds_toArray, List.set_cons_zero, List.set_cons_succ]
                      refine wpAnyH_ready (rs := [5]) (by kernel_rfl) (by simp) ?_
                      refine AllReadyH.cons (o := { dst := some 59, op := Go.Op.call { callee := Go.Callee.value (Go.Operand.func 75), args := #[Go.Operand.tmp 57, Go.Operand.tmp 58], argTypes := #[3, 3] }, type := 3, pos := "l6_tower.go:169", after := #[{ on := 3, ground := Go.Ground.data }, { on := 4, ground := Go.Ground.data }], guard := none }) rfl (fun K hK => ?_) AllReadyH.nil
                      go_simp
                      refine (numberWithout_any x0 (I : Int) _ (by omega)).mono ?_
                      rintro e w' ⟨rfl, rfl⟩
                      try go_simp
                      refine hK.out _ _ ?_ (fun hHeld => ?_)
                      · exact hHeld
                      clear hK K
                      try simp only [Act.put, List.setIfInBounds_toArray, List.set_cons_zero, List.set_cons_succ]
                      refine wpAnyH_ready (rs := [9]) (by kernel_rfl) (by simp) ?_
                      refine AllReadyH.cons (o := { dst := some 63, op := Go.Op.call { callee := Go.Callee.value (Go.Operand.func 75), args := #[Go.Operand.tmp 61, Go.Operand.tmp 62], argTypes := #[3, 3] }, type := 3, pos := "l6_tower.go:169", after := #[{ on := 7, ground := Go.Ground.data }, { on := 8, ground := Go.Ground.data }, { on := 5, ground := Go.Ground.chain }], guard := none }) rfl (fun K hK => ?_) AllReadyH.nil
                      go_simp
                      refine (numberWithout_any x1 (I : Int) _ (by omega)).mono ?_
                      rintro e w' ⟨rfl, rfl⟩
                      try go_simp
                      refine hK.out _ _ ?_ (fun hHeld => ?_)
                      · exact hHeld
                      clear hK K
                      try simp only [Act.put, List.setIfInBounds_toArray, List.set_cons_zero, List.set_cons_succ]
                      refine wpAnyH_take (i := 12) (oi := { dst := some 66, op := Go.Op.build 53 #[(0, Go.Operand.tmp 59), (1, Go.Operand.tmp 63), (2, Go.Operand.tmp 65)], type := 53, pos := "l6_tower.go:169", after := #[{ on := 5, ground := Go.Ground.data }, { on := 9, ground := Go.Ground.data }, { on := 11, ground := Go.Ground.data }], guard := none }) (v := ?_) rfl (by kernel_rfl) (by kernel_rfl) (by kernel_rfl) (fun _ _ _ h => h) (Or.inl ⟨by rfl, ?_⟩) (by assumption) ?_
                      rotate_left
                      · intro w hSw; (try dsimp only at hSw); go_simp; try with_reducible rfl
                      try simp only [Act.put, List.setIfInBounds_toArray, List.set_cons_zero, List.set_cons_succ]
                      refine wpAnyH_ready (rs := [13]) (by kernel_rfl) (by simp) ?_
                      refine AllReadyH.cons (o := { dst := some 67, op := Go.Op.buildSlice 29 1 #[(0, Go.Operand.tmp 66)], type := 29, pos := "l6_tower.go:169", after := #[{ on := 12, ground := Go.Ground.data }], guard := none }) rfl (fun K hK => ?_) AllReadyH.nil
                      go_simp
                      refine hK.out _ _ ?_ (fun hHeld => ?_)
                      · exact KB.out _ (hB0.alloc hB0.size _)
                      clear hK K
                      try simp only [Act.put, List.setIfInBounds_toArray, List.set_cons_zero, List.set_cons_succ]
                      refine wpAnyH_name ?_
                      intro w1 hw1
                      rw [← hw1] at hHeld
                      have hb1 := below_alloc hw1
                      have z1 := lt_named hw1
                      have b0 : w1.cell? ⟨wS.heap.size, 0, none⟩ = some (.int .i64 (dwx (I : Int) x0)) := by rw [hw1]; simp [go_sem]
                      have b1 : w1.cell? ⟨wS.heap.size, 1, none⟩ = some (.int .i64 (dwx (I : Int) x1)) := by rw [hw1]; simp [go_sem]
                      have b2 : w1.cell? ⟨wS.heap.size, 2, none⟩ = some (.int .i64 x2) := by rw [hw1]; simp [go_sem]
                      clear hw1
                      have tB := tB.later hb1
                      have lB := lB.later hb1
                      have j1 := bcell hb1 j1
                      have OB := OB.next hb1
                      have VB := VB.next hb1
                      have XB := XB.next hb1
                      have NB8 := NB8.next hb1
                      have hB2 := hB0.trans (hb1.mono hB0.size)
                      refine wpAnyH_ready (rs := [14]) (by kernel_rfl) (by simp) ?_
                      refine AllReadyH.cons (o := { dst := some 68, op := Go.Op.call { callee := Go.Callee.builtin Go.Builtin.append, args := #[Go.Operand.tmp 55, Go.Operand.tmp 67], argTypes := #[29, 29] }, type := 29, pos := "l6_tower.go:169", after := #[{ on := 1, ground := Go.Ground.data }, { on := 13, ground := Go.Ground.data }, { on := 9, ground := Go.Ground.chain }], guard := none }) rfl (fun K hK => ?_) AllReadyH.nil
                      have hzB : bo + 1 ≤ w1.heap.size := OB.lt
                      refine step_append_LinkS (by rfl) _ _ (by rfl) (bo + 1) _ _ DL [⟨dwx (I : Int) x0, dwx (I : Int) x1, x2⟩] (by rfl) (by rfl) lB (RdR.one3 (c := 1) ⟨dwx (I : Int) x0, dwx (I : Int) x1, x2⟩ (World.block_lt_of_cell? _ _ b0) (Nat.le_refl _) (by unfold maxLen; decide) b0 b1 b2) HL2.out hzB ?_
                      intro v3 w3 o2 hg2 hat3
                      rw [← E1.out] at o2
                      obtain ⟨ad2, cd2, rfl, -⟩ := o2.rd.len
                      have hB2 := (Below.refl (bo + 1) _).grown hg2 hzB (fun i hi => (lB.lt i hi).1)
                      have NB8 := NB8.grown HR.out hg2 (fun i hi => by have := (lB.lt i hi).1; omega)
                      have VB := VB.below hB2 (by omega) hzB
                      have OB := OB.below hB2 (by omega) hzB
                      have tB := tB.kept hg2 (row_apart tB lB (by decide))
                      have XB := XB.grownN hg2 (fun e => hXL _ e rfl)
                      clear j1 b0 b1 b2
                      have j5 := OB.c0
                      have j6 := OB.c1
                      have j7 := OB.f1
                      try go_simp
                      refine hK.out _ _ ?_ (fun hHeld => ?_)
                      · exact ⟨XB.c0, XB.c1, XB.c2⟩
                      clear hK K
                      try simp only [Act.put, List.setIfInBounds_toArray, List.set_cons_zero, List.set_cons_succ]
                      refine wpAnyH_take (i := 15) (oi := { dst := some 69, op := Go.Op.fieldAddr 31 (Go.Operand.tmp 6) 1, type := 0, pos := "l6_tower.go:169", after := #[{ on := 0, ground := Go.Ground.phase }, { on := 1, ground := Go.Ground.phase }, { on := 2, ground := Go.Ground.phase }, { on := 3, ground := Go.Ground.phase }, { on := 4, ground := Go.Ground.phase }, { on := 5, ground := Go.Ground.phase }, { on := 6, ground := Go.Ground.phase }, { on := 7, ground := Go.Ground.phase }, { on := 8, ground := Go.Ground.phase }, { on := 9, ground := Go.Ground.phase }, { on := 10, ground := Go.Ground.phase }, { on := 11, ground := Go.Ground.phase }, { on := 12, ground := Go.Ground.phase }, { on := 13, ground := Go.Ground.phase }, { on := 14, ground := Go.Ground.phase }], guard := none }) (v := ?_) rfl (by kernel_rfl) (by kernel_rfl) (by kernel_rfl) (fun _ _ _ h => h) (Or.inl ⟨by rfl, ?_⟩) (by assumption) ?_
                      rotate_left
                      · intro w hSw; (try dsimp only at hSw); go_simp; try with_reducible rfl
                      try simp only [Act.put, List.setIfInBounds_toArray, List.set_cons_zero, List.set_cons_succ]
                      refine wpAnyH_ready (rs := [16]) (by kernel_rfl) (by simp) ?_
                      refine AllReadyH.cons (o := { dst := none, op := Go.Op.store 29 (Go.Operand.tmp 69) (Go.Operand.tmp 68), type := 0, pos := "l6_tower.go:169", after := #[{ on := 15, ground := Go.Ground.data }, { on := 14, ground := Go.Ground.data }, { on := 14, ground := Go.Ground.chain }, { on := 0, ground := Go.Ground.phase }, { on := 1, ground := Go.Ground.phase }, { on := 2, ground := Go.Ground.phase }, { on := 3, ground := Go.Ground.phase }, { on := 4, ground := Go.Ground.phase }, { on := 5, ground := Go.Ground.phase }, { on := 6, ground := Go.Ground.phase }, { on := 7, ground := Go.Ground.phase }, { on := 8, ground := Go.Ground.phase }, { on := 9, ground := Go.Ground.phase }, { on := 10, ground := Go.Ground.phase }, { on := 11, ground := Go.Ground.phase }, { on := 12, ground := Go.Ground.phase }, { on := 13, ground := Go.Ground.phase }, { on := 14, ground := Go.Ground.phase }], guard := none }) rfl (fun K hK => ?_) AllReadyH.nil
                      have XS8 := XB.set (o := 1) (u := .slice ad2 (dropL (I : Int) (ls.take (k + 1))).length cd2) (show bo ≠ wr.heap.size by omega)
                      go_simp
                      refine hK.out _ _ ?_ (fun hHeld => ?_)
                      · exact ⟨XS8.c0, XS8.c1, XS8.c2⟩
                      clear hK K
                      try simp only [Act.put, List.setIfInBounds_toArray, List.set_cons_zero, List.set_cons_succ]
                      refine wpAnyH_done (by kernel_rfl) ?_ _
                      go_wp2
                      go_roundw
                      case rel => exact ⟨k + 1, _, by omega, by go_num, NB8.set HR.out (show w.heap.size < bo by omega), VB.set (show bo ≠ w.heap.size + 1 by omega) ⟨_, j6⟩, OB.put1, tB.setFar (fun e => HNE.out _ e rfl), o2.setFar (fun e => by have := (o2.lt _ e).1; omega)⟩
                      case measure => simp [intOf]; omega
                    refine AllReadyH.cons (o := { dst := some 59, op := Go.Op.call { callee := Go.Callee.value (Go.Operand.func 75), args := #[Go.Operand.tmp 57, Go.Operand.tmp 58], argTypes := #[3, 3] }, type := 3, pos := "l6_tower.go:169", after := #[{ on := 3, ground := Go.Ground.data }, { on := 4, ground := Go.Ground.data }], guard := none }) rfl (fun K hK => ?_) AllReadyH.nil
                    go_simp
                    refine (numberWithout_any x0 (I : Int) _ (by omega)).mono ?_
                    rintro e w' ⟨rfl, rfl⟩
                    try go_simp
                    refine hK.out _ _ ?_ (fun hHeld => ?_)
                    · exact hHeld
                    clear hK K
                    try simp only [Act.put, List.setIfInBounds_toArray, List.set_cons_zero, List.set_cons_succ]
                    refine wpAnyH_ready (rs := [1, 9]) (by kernel_rfl) (by simp) ?_
                    refine AllReadyH.cons (o := { dst := some 55, op := Go.Op.load 29 (Go.Operand.tmp 54), type := 29, pos := "l6_tower.go:169", after := #[{ on := 0, ground := Go.Ground.data }], guard := none }) rfl (fun K hK => ?_) ?_
                    · go_simp
                      refine hK.out _ _ ?_ (fun hHeld => ?_)
                      · exact hHeld
                      clear hK K
                      try simp only [Act.put, List.setIfInBounds_toArray, List.set_cons_zero, List.set_cons_succ]
                      refine wpAnyH_ready (rs := [9]) (by kernel_rfl) (by simp) ?_
                      refine AllReadyH.cons (o := { dst := some 63, op := Go.Op.call { callee := Go.Callee.value (Go.Operand.func 75), args := #[Go.Operand.tmp 61, Go.Operand.tmp 62], argTypes := #[3, 3] }, type := 3, pos := "l6_tower.go:169", after := #[{ on := 7, ground := Go.Ground.data }, { on := 8, ground := Go.Ground.data }, { on := 5, ground := Go.Ground.chain }], guard := none }) rfl (fun K hK => ?_) AllReadyH.nil
                      go_simp
                      refine (numberWithout_any x1 (I : Int) _ (by omega)).mono ?_
                      rintro e w' ⟨rfl, rfl⟩
                      try go_simp
                      refine hK.out _ _ ?_ (fun hHeld => ?_)
                      · exact hHeld
                      clear hK K
                      try simp only [Act.put, List.setIfInBounds_toArray, List.set_cons_zero, List.set_cons_succ]
                      refine wpAnyH_take (i := 12) (oi := { dst := some 66, op := Go.Op.build 53 #[(0, Go.Operand.tmp 59), (1, Go.Operand.tmp 63), (2, Go.Operand.tmp 65)], type := 53, pos := "l6_tower.go:169", after := #[{ on := 5, ground := Go.Ground.data }, { on := 9, ground := Go.Ground.data }, { on := 11, ground := Go.Ground.data }], guard := none }) (v := ?_) rfl (by kernel_rfl) (by kernel_rfl) (by kernel_rfl) (fun _ _ _ h => h) (Or.inl ⟨by rfl, ?_⟩) (by assumption) ?_
                      rotate_left
                      · intro w hSw; (try dsimp only at hSw); go_simp; try with_reducible rfl
                      try simp only [Act.put, List.setIfInBounds_toArray, List.set_cons_zero, List.set_cons_succ]
                      refine wpAnyH_ready (rs := [13]) (by kernel_rfl) (by simp) ?_
                      refine AllReadyH.cons (o := { dst := some 67, op := Go.Op.buildSlice 29 1 #[(0, Go.Operand.tmp 66)], type := 29, pos := "l6_tower.go:169", after := #[{ on := 12, ground := Go.Ground.data }], guard := none }) rfl (fun K hK => ?_) AllReadyH.nil
                      go_simp
                      refine hK.out _ _ ?_ (fun hHeld => ?_)
                      · exact KB.out _ (hB0.alloc hB0.size _)
                      clear hK K
                      try simp only [Act.put, List.setIfInBounds_toArray, List.set_cons_zero, List.set_cons_succ]
                      refine wpAnyH_name ?_
                      intro w4 hw4
                      rw [← hw4] at hHeld
                      have hb4 := below_alloc hw4
                      have z4 := lt_named hw4
                      have b0 : w4.cell? ⟨wS.heap.size, 0, none⟩ = some (.int .i64 (dwx (I : Int) x0)) := by rw [hw4]; simp [go_sem]
                      have b1 : w4.cell? ⟨wS.heap.size, 1, none⟩ = some (.int .i64 (dwx (I : Int) x1)) := by rw [hw4]; simp [go_sem]
                      have b2 : w4.cell? ⟨wS.heap.size, 2, none⟩ = some (.int .i64 x2) := by rw [hw4]; simp [go_sem]
                      clear hw4
                      have tB := tB.later hb4
                      have lB := lB.later hb4
                      have j1 := bcell hb4 j1
                      have OB := OB.next hb4
                      have VB := VB.next hb4
                      have XB := XB.next hb4
                      have NB8 := NB8.next hb4
                      have hB5 := hB0.trans (hb4.mono hB0.size)
                      refine wpAnyH_ready (rs := [14]) (by kernel_rfl) (by simp) ?_
                      refine AllReadyH.cons (o := { dst := some 68, op := Go.Op.call { callee := Go.Callee.builtin Go.Builtin.append, args := #[Go.Operand.tmp 55, Go.Operand.tmp 67], argTypes := #[29, 29] }, type := 29, pos := "l6_tower.go:169", after := #[{ on := 1, ground := Go.Ground.data }, { on := 13, ground := Go.Ground.data }, { on := 9, ground := Go.Ground.chain }], guard := none }) rfl (fun K hK => ?_) AllReadyH.nil
                      have hzB : bo + 1 ≤ w4.heap.size := OB.lt
                      refine step_append_LinkS (by rfl) _ _ (by rfl) (bo + 1) _ _ DL [⟨dwx (I : Int) x0, dwx (I : Int) x1, x2⟩] (by rfl) (by rfl) lB (RdR.one3 (c := 1) ⟨dwx (I : Int) x0, dwx (I : Int) x1, x2⟩ (World.block_lt_of_cell? _ _ b0) (Nat.le_refl _) (by unfold maxLen; decide) b0 b1 b2) HL2.out hzB ?_
                      intro v6 w6 o2 hg2 hat6
                      rw [← E1.out] at o2
                      obtain ⟨ad2, cd2, rfl, -⟩ := o2.rd.len
                      have hB2 := (Below.refl (bo + 1) _).grown hg2 hzB (fun i hi => (lB.lt i hi).1)
                      have NB8 := NB8.grown HR.out hg2 (fun i hi => by have := (lB.lt i hi).1; omega)
                      have VB := VB.below hB2 (by omega) hzB
                      have OB := OB.below hB2 (by omega) hzB
                      have tB := tB.kept hg2 (row_apart tB lB (by decide))
                      have XB := XB.grownN hg2 (fun e => hXL _ e rfl)
                      clear j1 b0 b1 b2
                      have j5 := OB.c0
                      have j6 := OB.c1
                      have j7 := OB.f1
                      try go_simp
                      refine hK.out _ _ ?_ (fun hHeld => ?_)
                      · exact ⟨XB.c0, XB.c1, XB.c2⟩
                      clear hK K
                      try simp only [Act.put, List.setIfInBounds_toArray, List.set_cons_zero, List.set_cons_succ]
                      refine wpAnyH_take (i := 15) (oi := { dst := some 69, op := Go.Op.fieldAddr 31 (Go.Operand.tmp 6) 1, type := 0, pos := "l6_tower.go:169", after := #[{ on := 0, ground := Go.Ground.phase }, { on := 1, ground := Go.Ground.phase }, { on := 2, ground := Go.Ground.phase }, { on := 3, ground := Go.Ground.phase }, { on := 4, ground := Go.Ground.phase }, { on := 5, ground := Go.Ground.phase }, { on := 6, ground := Go.Ground.phase }, { on := 7, ground := Go.Ground.phase }, { on := 8, ground := Go.Ground.phase }, { on := 9, ground := Go.Ground.phase }, { on := 10, ground := Go.Ground.phase }, { on := 11, ground := Go.Ground.phase }, { on := 12, ground := Go.Ground.phase }, { on := 13, ground := Go.Ground.phase }, { on := 14, ground := Go.Ground.phase }], guard := none }) (v := ?_) rfl (by kernel_rfl) (by kernel_rfl) (by kernel_rfl) (fun _ _ _ h => h) (Or.inl ⟨by rfl, ?_⟩) (by assumption) ?_
                      rotate_left
                      · intro w hSw; (try dsimp only at hSw); go_simp; try with_reducible rfl
                      try simp only [Act.put, List.setIfInBounds_toArray, List.set_cons_zero, List.set_cons_succ]
                      refine wpAnyH_ready (rs := [16]) (by kernel_rfl) (by simp) ?_
                      refine AllReadyH.cons (o := { dst := none, op := Go.Op.store 29 (Go.Operand.tmp 69) (Go.Operand.tmp 68), type := 0, pos := "l6_tower.go:169", after := #[{ on := 15, ground := Go.Ground.data }, { on := 14, ground := Go.Ground.data }, { on := 14, ground := Go.Ground.chain }, { on := 0, ground := Go.Ground.phase }, { on := 1, ground := Go.Ground.phase }, { on := 2, ground := Go.Ground.phase }, { on := 3, ground := Go.Ground.phase }, { on := 4, ground := Go.Ground.phase }, { on := 5, ground := Go.Ground.phase }, { on := 6, ground := Go.Ground.phase }, { on := 7, ground := Go.Ground.phase }, { on := 8, ground := Go.Ground.phase }, { on := 9, ground := Go.Ground.phase }, { on := 10, ground := Go.Ground.phase }, { on := 11, ground := Go.Ground.phase }, { on := 12, ground := Go.Ground.phase }, { on := 13, ground := Go.Ground.phase }, { on := 14, ground := Go.Ground.phase }], guard := none }) rfl (fun K hK => ?_) AllReadyH.nil
                      have XS8 := XB.set (o := 1) (u := .slice ad2 (dropL (I : Int) (ls.take (k + 1))).length cd2) (show bo ≠ wr.heap.size by omega)
                      go_simp
                      refine hK.out _ _ ?_ (fun hHeld => ?_)
                      · exact ⟨XS8.c0, XS8.c1, XS8.c2⟩
                      clear hK K
                      try simp only [Act.put, List.setIfInBounds_toArray, List.set_cons_zero, List.set_cons_succ]
                      refine wpAnyH_done (by kernel_rfl) ?_ _
                      go_wp2
                      go_roundw
                      case rel => exact ⟨k + 1, _, by omega, by go_num, NB8.set HR.out (show w.heap.size < bo by omega), VB.set (show bo ≠ w.heap.size + 1 by omega) ⟨_, j6⟩, OB.put1, tB.setFar (fun e => HNE.out _ e rfl), o2.setFar (fun e => by have := (o2.lt _ e).1; omega)⟩
                      case measure => simp [intOf]; omega
                    refine AllReadyH.cons (o := { dst := some 63, op := Go.Op.call { callee := Go.Callee.value (Go.Operand.func 75), args := #[Go.Operand.tmp 61, Go.Operand.tmp 62], argTypes := #[3, 3] }, type := 3, pos := "l6_tower.go:169", after := #[{ on := 7, ground := Go.Ground.data }, { on := 8, ground := Go.Ground.data }, { on := 5, ground := Go.Ground.chain }], guard := none }) rfl (fun K hK => ?_) AllReadyH.nil
                    go_simp
                    refine (numberWithout_any x1 (I : Int) _ (by omega)).mono ?_
                    rintro e w' ⟨rfl, rfl⟩
                    try go_simp
                    refine hK.out _ _ ?_ (fun hHeld => ?_)
                    · exact hHeld
                    clear hK K
                    try simp only [Act.put, List.setIfInBounds_toArray, List.set_cons_zero, List.set_cons_succ]
                    refine wpAnyH_take (i := 12) (oi := { dst := some 66, op := Go.Op.build 53 #[(0, Go.Operand.tmp 59), (1, Go.Operand.tmp 63), (2, Go.Operand.tmp 65)], type := 53, pos := "l6_tower.go:169", after := #[{ on := 5, ground := Go.Ground.data }, { on := 9, ground := Go.Ground.data }, { on := 11, ground := Go.Ground.data }], guard := none }) (v := ?_) rfl (by kernel_rfl) (by kernel_rfl) (by kernel_rfl) (fun _ _ _ h => h) (Or.inl ⟨by rfl, ?_⟩) (by assumption) ?_
                    rotate_left
                    · intro w hSw; (try dsimp only at hSw); go_simp; try with_reducible rfl
                    try simp only [Act.put, List.setIfInBounds_toArray, List.set_cons_zero, List.set_cons_succ]
                    refine wpAnyH_ready (rs := [1, 13]) (by kernel_rfl) (by simp) ?_
                    refine AllReadyH.cons (o := { dst := some 55, op := Go.Op.load 29 (Go.Operand.tmp 54), type := 29, pos := "l6_tower.go:169", after := #[{ on := 0, ground := Go.Ground.data }], guard := none }) rfl (fun K hK => ?_) ?_
                    · go_simp
                      refine hK.out _ _ ?_ (fun hHeld => ?_)
                      · exact hHeld
                      clear hK K
                      try simp only [Act.put, List.setIfInBounds_toArray, List.set_cons_zero, List.set_cons_succ]
                      refine wpAnyH_ready (rs := [13]) (by kernel_rfl) (by simp) ?_
                      refine AllReadyH.cons (o := { dst := some 67, op := Go.Op.buildSlice 29 1 #[(0, Go.Operand.tmp 66)], type := 29, pos := "l6_tower.go:169", after := #[{ on := 12, ground := Go.Ground.data }], guard := none }) rfl (fun K hK => ?_) AllReadyH.nil
                      go_simp
                      refine hK.out _ _ ?_ (fun hHeld => ?_)
                      · exact KB.out _ (hB0.alloc hB0.size _)
                      clear hK K
                      try simp only [Act.put, List.setIfInBounds_toArray, List.set_cons_zero, List.set_cons_succ]
                      refine wpAnyH_name ?_
                      intro w7 hw7
                      rw [← hw7] at hHeld
                      have hb7 := below_alloc hw7
                      have z7 := lt_named hw7
                      have b0 : w7.cell? ⟨wS.heap.size, 0, none⟩ = some (.int .i64 (dwx (I : Int) x0)) := by rw [hw7]; simp [go_sem]
                      have b1 : w7.cell? ⟨wS.heap.size, 1, none⟩ = some (.int .i64 (dwx (I : Int) x1)) := by rw [hw7]; simp [go_sem]
                      have b2 : w7.cell? ⟨wS.heap.size, 2, none⟩ = some (.int .i64 x2) := by rw [hw7]; simp [go_sem]
                      clear hw7
                      have tB := tB.later hb7
                      have lB := lB.later hb7
                      have j1 := bcell hb7 j1
                      have OB := OB.next hb7
                      have VB := VB.next hb7
                      have XB := XB.next hb7
                      have NB8 := NB8.next hb7
                      have hB8 := hB0.trans (hb7.mono hB0.size)
                      refine wpAnyH_ready (rs := [14]) (by kernel_rfl) (by simp) ?_
                      refine AllReadyH.cons (o := { dst := some 68, op := Go.Op.call { callee := Go.Callee.builtin Go.Builtin.append, args := #[Go.Operand.tmp 55, Go.Operand.tmp 67], argTypes := #[29, 29] }, type := 29, pos := "l6_tower.go:169", after := #[{ on := 1, ground := Go.Ground.data }, { on := 13, ground := Go.Ground.data }, { on := 9, ground := Go.Ground.chain }], guard := none }) rfl (fun K hK => ?_) AllReadyH.nil
                      have hzB : bo + 1 ≤ w7.heap.size := OB.lt
                      refine step_append_LinkS (by rfl) _ _ (by rfl) (bo + 1) _ _ DL [⟨dwx (I : Int) x0, dwx (I : Int) x1, x2⟩] (by rfl) (by rfl) lB (RdR.one3 (c := 1) ⟨dwx (I : Int) x0, dwx (I : Int) x1, x2⟩ (World.block_lt_of_cell? _ _ b0) (Nat.le_refl _) (by unfold maxLen; decide) b0 b1 b2) HL2.out hzB ?_
                      intro v9 w9 o2 hg2 hat9
                      rw [← E1.out] at o2
                      obtain ⟨ad2, cd2, rfl, -⟩ := o2.rd.len
                      have hB2 := (Below.refl (bo + 1) _).grown hg2 hzB (fun i hi => (lB.lt i hi).1)
                      have NB8 := NB8.grown HR.out hg2 (fun i hi => by have := (lB.lt i hi).1; omega)
                      have VB := VB.below hB2 (by omega) hzB
                      have OB := OB.below hB2 (by omega) hzB
                      have tB := tB.kept hg2 (row_apart tB lB (by decide))
                      have XB := XB.grownN hg2 (fun e => hXL _ e rfl)
                      clear j1 b0 b1 b2
                      have j5 := OB.c0
                      have j6 := OB.c1
                      have j7 := OB.f1
                      try go_simp
                      refine hK.out _ _ ?_ (fun hHeld => ?_)
                      · exact ⟨XB.c0, XB.c1, XB.c2⟩
                      clear hK K
                      try simp only [Act.put, List.setIfInBounds_toArray, List.set_cons_zero, List.set_cons_succ]
                      refine wpAnyH_take (i := 15) (oi := { dst := some 69, op := Go.Op.fieldAddr 31 (Go.Operand.tmp 6) 1, type := 0, pos := "l6_tower.go:169", after := #[{ on := 0, ground := Go.Ground.phase }, { on := 1, ground := Go.Ground.phase }, { on := 2, ground := Go.Ground.phase }, { on := 3, ground := Go.Ground.phase }, { on := 4, ground := Go.Ground.phase }, { on := 5, ground := Go.Ground.phase }, { on := 6, ground := Go.Ground.phase }, { on := 7, ground := Go.Ground.phase }, { on := 8, ground := Go.Ground.phase }, { on := 9, ground := Go.Ground.phase }, { on := 10, ground := Go.Ground.phase }, { on := 11, ground := Go.Ground.phase }, { on := 12, ground := Go.Ground.phase }, { on := 13, ground := Go.Ground.phase }, { on := 14, ground := Go.Ground.phase }], guard := none }) (v := ?_) rfl (by kernel_rfl) (by kernel_rfl) (by kernel_rfl) (fun _ _ _ h => h) (Or.inl ⟨by rfl, ?_⟩) (by assumption) ?_
                      rotate_left
                      · intro w hSw; (try dsimp only at hSw); go_simp; try with_reducible rfl
                      try simp only [Act.put, List.setIfInBounds_toArray, List.set_cons_zero, List.set_cons_succ]
                      refine wpAnyH_ready (rs := [16]) (by kernel_rfl) (by simp) ?_
                      refine AllReadyH.cons (o := { dst := none, op := Go.Op.store 29 (Go.Operand.tmp 69) (Go.Operand.tmp 68), type := 0, pos := "l6_tower.go:169", after := #[{ on := 15, ground := Go.Ground.data }, { on := 14, ground := Go.Ground.data }, { on := 14, ground := Go.Ground.chain }, { on := 0, ground := Go.Ground.phase }, { on := 1, ground := Go.Ground.phase }, { on := 2, ground := Go.Ground.phase }, { on := 3, ground := Go.Ground.phase }, { on := 4, ground := Go.Ground.phase }, { on := 5, ground := Go.Ground.phase }, { on := 6, ground := Go.Ground.phase }, { on := 7, ground := Go.Ground.phase }, { on := 8, ground := Go.Ground.phase }, { on := 9, ground := Go.Ground.phase }, { on := 10, ground := Go.Ground.phase }, { on := 11, ground := Go.Ground.phase }, { on := 12, ground := Go.Ground.phase }, { on := 13, ground := Go.Ground.phase }, { on := 14, ground := Go.Ground.phase }], guard := none }) rfl (fun K hK => ?_) AllReadyH.nil
                      have XS8 := XB.set (o := 1) (u := .slice ad2 (dropL (I : Int) (ls.take (k + 1))).length cd2) (show bo ≠ wr.heap.size by omega)
                      go_simp
                      refine hK.out _ _ ?_ (fun hHeld => ?_)
                      · exact ⟨XS8.c0, XS8.c1, XS8.c2⟩
                      clear hK K
                      try simp only [Act.put, List.setIfInBounds_toArray, List.set_cons_zero, List.set_cons_succ]
                      refine wpAnyH_done (by kernel_rfl) ?_ _
                      go_wp2
                      go_roundw
                      case rel => exact ⟨k + 1, _, by omega, by go_num, NB8.set HR.out (show w.heap.size < bo by omega), VB.set (show bo ≠ w.heap.size + 1 by omega) ⟨_, j6⟩, OB.put1, tB.setFar (fun e => HNE.out _ e rfl), o2.setFar (fun e => by have := (o2.lt _ e).1; omega)⟩
                      case measure => simp [intOf]; omega
                    refine AllReadyH.cons (o := { dst := some 67, op := Go.Op.buildSlice 29 1 #[(0, Go.Operand.tmp 66)], type := 29, pos := "l6_tower.go:169", after := #[{ on := 12, ground := Go.Ground.data }], guard := none }) rfl (fun K hK => ?_) AllReadyH.nil
                    go_simp
                    refine hK.out _ _ ?_ (fun hHeld => ?_)
                    · exact KB.out _ (hB0.alloc hB0.size _)
                    clear hK K
                    try simp only [Act.put, List.setIfInBounds_toArray, List.set_cons_zero, List.set_cons_succ]
                    refine wpAnyH_name ?_
                    intro w10 hw10
                    rw [← hw10] at hHeld
                    have hb10 := below_alloc hw10
                    have z10 := lt_named hw10
                    have b0 : w10.cell? ⟨wS.heap.size, 0, none⟩ = some (.int .i64 (dwx (I : Int) x0)) := by rw [hw10]; simp [go_sem]
                    have b1 : w10.cell? ⟨wS.heap.size, 1, none⟩ = some (.int .i64 (dwx (I : Int) x1)) := by rw [hw10]; simp [go_sem]
                    have b2 : w10.cell? ⟨wS.heap.size, 2, none⟩ = some (.int .i64 x2) := by rw [hw10]; simp [go_sem]
                    clear hw10
                    have tB := tB.later hb10
                    have lB := lB.later hb10
                    have j1 := bcell hb10 j1
                    have OB := OB.next hb10
                    have VB := VB.next hb10
                    have XB := XB.next hb10
                    have NB8 := NB8.next hb10
                    have hB11 := hB0.trans (hb10.mono hB0.size)
                    refine wpAnyH_ready (rs := [1]) (by kernel_rfl) (by simp) ?_
                    refine AllReadyH.cons (o := { dst := some 55, op := Go.Op.load 29 (Go.Operand.tmp 54), type := 29, pos := "l6_tower.go:169", after := #[{ on := 0, ground := Go.Ground.data }], guard := none }) rfl (fun K hK => ?_) AllReadyH.nil
                    go_simp
                    refine hK.out _ _ ?_ (fun hHeld => ?_)
                    · exact hHeld
                    clear hK K
                    try simp only [Act.put, List.setIfInBounds_toArray, List.set_cons_zero, List.set_cons_succ]
                    refine wpAnyH_ready (rs := [14]) (by kernel_rfl) (by simp) ?_
                    refine AllReadyH.cons (o := { dst := some 68, op := Go.Op.call { callee := Go.Callee.builtin Go.Builtin.append, args := #[Go.Operand.tmp 55, Go.Operand.tmp 67], argTypes := #[29, 29] }, type := 29, pos := "l6_tower.go:169", after := #[{ on := 1, ground := Go.Ground.data }, { on := 13, ground := Go.Ground.data }, { on := 9, ground := Go.Ground.chain }], guard := none }) rfl (fun K hK => ?_) AllReadyH.nil
                    have hzB : bo + 1 ≤ w10.heap.size := OB.lt
                    refine step_append_LinkS (by rfl) _ _ (by rfl) (bo + 1) _ _ DL [⟨dwx (I : Int) x0, dwx (I : Int) x1, x2⟩] (by rfl) (by rfl) lB (RdR.one3 (c := 1) ⟨dwx (I : Int) x0, dwx (I : Int) x1, x2⟩ (World.block_lt_of_cell? _ _ b0) (Nat.le_refl _) (by unfold maxLen; decide) b0 b1 b2) HL2.out hzB ?_
                    intro v12 w12 o2 hg2 hat12
                    rw [← E1.out] at o2
                    obtain ⟨ad2, cd2, rfl, -⟩ := o2.rd.len
                    have hB2 := (Below.refl (bo + 1) _).grown hg2 hzB (fun i hi => (lB.lt i hi).1)
                    have NB8 := NB8.grown HR.out hg2 (fun i hi => by have := (lB.lt i hi).1; omega)
                    have VB := VB.below hB2 (by omega) hzB
                    have OB := OB.below hB2 (by omega) hzB
                    have tB := tB.kept hg2 (row_apart tB lB (by decide))
                    have XB := XB.grownN hg2 (fun e => hXL _ e rfl)
                    clear j1 b0 b1 b2
                    have j5 := OB.c0
                    have j6 := OB.c1
                    have j7 := OB.f1
                    try go_simp
                    refine hK.out _ _ ?_ (fun hHeld => ?_)
                    · exact ⟨XB.c0, XB.c1, XB.c2⟩
                    clear hK K
                    try simp only [Act.put, List.setIfInBounds_toArray, List.set_cons_zero, List.set_cons_succ]
                    refine wpAnyH_take (i := 15) (oi := { dst := some 69, op := Go.Op.fieldAddr 31 (Go.Operand.tmp 6) 1, type := 0, pos := "l6_tower.go:169", after := #[{ on := 0, ground := Go.Ground.phase }, { on := 1, ground := Go.Ground.phase }, { on := 2, ground := Go.Ground.phase }, { on := 3, ground := Go.Ground.phase }, { on := 4, ground := Go.Ground.phase }, { on := 5, ground := Go.Ground.phase }, { on := 6, ground := Go.Ground.phase }, { on := 7, ground := Go.Ground.phase }, { on := 8, ground := Go.Ground.phase }, { on := 9, ground := Go.Ground.phase }, { on := 10, ground := Go.Ground.phase }, { on := 11, ground := Go.Ground.phase }, { on := 12, ground := Go.Ground.phase }, { on := 13, ground := Go.Ground.phase }, { on := 14, ground := Go.Ground.phase }], guard := none }) (v := ?_) rfl (by kernel_rfl) (by kernel_rfl) (by kernel_rfl) (fun _ _ _ h => h) (Or.inl ⟨by rfl, ?_⟩) (by assumption) ?_
                    rotate_left
                    · intro w hSw; (try dsimp only at hSw); go_simp; try with_reducible rfl
                    try simp only [Act.put, List.setIfInBounds_toArray, List.set_cons_zero, List.set_cons_succ]
                    refine wpAnyH_ready (rs := [16]) (by kernel_rfl) (by simp) ?_
                    refine AllReadyH.cons (o := { dst := none, op := Go.Op.store 29 (Go.Operand.tmp 69) (Go.Operand.tmp 68), type := 0, pos := "l6_tower.go:169", after := #[{ on := 15, ground := Go.Ground.data }, { on := 14, ground := Go.Ground.data }, { on := 14, ground := Go.Ground.chain }, { on := 0, ground := Go.Ground.phase }, { on := 1, ground := Go.Ground.phase }, { on := 2, ground := Go.Ground.phase }, { on := 3, ground := Go.Ground.phase }, { on := 4, ground := Go.Ground.phase }, { on := 5, ground := Go.Ground.phase }, { on := 6, ground := Go.Ground.phase }, { on := 7, ground := Go.Ground.phase }, { on := 8, ground := Go.Ground.phase }, { on := 9, ground := Go.Ground.phase }, { on := 10, ground := Go.Ground.phase }, { on := 11, ground := Go.Ground.phase }, { on := 12, ground := Go.Ground.phase }, { on := 13, ground := Go.Ground.phase }, { on := 14, ground := Go.Ground.phase }], guard := none }) rfl (fun K hK => ?_) AllReadyH.nil
                    have XS8 := XB.set (o := 1) (u := .slice ad2 (dropL (I : Int) (ls.take (k + 1))).length cd2) (show bo ≠ wr.heap.size by omega)
                    go_simp
                    refine hK.out _ _ ?_ (fun hHeld => ?_)
                    · exact ⟨XS8.c0, XS8.c1, XS8.c2⟩
                    clear hK K
                    try simp only [Act.put, List.setIfInBounds_toArray, List.set_cons_zero, List.set_cons_succ]
                    refine wpAnyH_done (by kernel_rfl) ?_ _
                    go_wp2
                    go_roundw
                    case rel => exact ⟨k + 1, _, by omega, by go_num, NB8.set HR.out (show w.heap.size < bo by omega), VB.set (show bo ≠ w.heap.size + 1 by omega) ⟨_, j6⟩, OB.put1, tB.setFar (fun e => HNE.out _ e rfl), o2.setFar (fun e => by have := (o2.lt _ e).1; omega)⟩
                    case measure => simp [intOf]; omega
              · obtain rfl : k = m := by omega
                have HQ : Hid (DL = dropL (I : Int) ls) := Lib.hid (by rw [← HDLk.out, HM.out, List.take_length])
                have r0 := VK.c0
                have r1 := VK.c1
                have s0 := VK.f0
                have s1 := VK.f1
                have sz := VK.lt
                go_wp2
                refine bodyPost_ret (v := .tuple #[.agg #[.slice ad0 tt.length cd0, .slice avc DL.length cvc], .bool true]) (by simp [results, Try.results41, go_sem, r0, r1, s0, s1, j0, j1, sz]) rfl ⟨_, _, by rw [HF.out.1], ?_, ?_⟩
                · rw [HF.out.2.1, HF.out.2.2, HTT.out, ← HQ.out]
                  have u0 := ((qT.setFar (b := w.heap.size + 1) (o := 0) (x := .slice ad0 tt.length cd0) (fun e => by have := (qT.lt _ e).1; omega)).setFar (b := w.heap.size + 1) (o := 1) (x := .slice avc DL.length cvc) (fun e => by have := (qT.lt _ e).1; omega)).base (B' := w.heap.size) (by omega)
                  have u1 := ((qL.setFar (b := w.heap.size + 1) (o := 0) (x := .slice ad0 tt.length cd0) (fun e => by have := (qL.lt _ e).1; omega)).setFar (b := w.heap.size + 1) (o := 1) (x := .slice avc DL.length cvc) (fun e => by have := (qL.lt _ e).1; omega)).base (B' := w.heap.size) (by omega)
                  exact ⟨⟨u0, fun k hk => (u0.lt k hk).2⟩, ⟨u1, fun k hk => (u1.lt k hk).2⟩⟩
                · exact (NK.below.setCell (p := ⟨w.heap.size + 1, 0, none⟩) (by show w.heap.size ≤ w.heap.size + 1; omega) _).setCell (p := ⟨w.heap.size + 1, 1, none⟩) (by show w.heap.size ≤ w.heap.size + 1; omega) _
          refine AllReadyH.cons (o := { dst := some 6, op := Go.Op.alloc 31, type := 0, pos := "l6_tower.go:166", after := #[], guard := none }) rfl (fun K hK => ?_) AllReadyH.nil
          go_simp
          refine hK.out _ _ ?_ (fun hHeld => ?_)
          · exact KB.out _ (hB2.alloc hB2.size _)
          clear hK K
          try simp only [Act.put, List.setIfInBounds_toArray, List.set_cons_zero, List.set_cons_succ]
          refine wpAnyH_name ?_
          intro w7 hw7
          rw [← hw7] at hHeld
          have hb7 := below_alloc hw7
          have z7 := lt_named hw7
          have OB : Var2 w7 w1.heap.size (.slice none 0 0) (.slice none 0 0) := by rw [hw7]; exact Var2.new _ _ _ _
          have hbl := hB2.size
          have hzb := z7
          clear hw7
          have hPB := hPB.trans (hb7.mono hPB.size)
          have hB8 := hB2.trans (hb7.mono hB2.size)
          refine wpAnyH_ready (rs := [10]) (by kernel_rfl) (by simp) ?_
          refine AllReadyH.cons (o := { dst := some 35, op := Go.Op.call { callee := Go.Callee.value (Go.Operand.func 74), args := #[Go.Operand.tmp 34], argTypes := #[96] }, type := 28, pos := "l6_tower.go:166", after := #[{ on := 9, ground := Go.Ground.data }], guard := none }) rfl (fun K hK => ?_) AllReadyH.nil
          go_simp
          refine (concatTower_any _ 2 _ _ _ (by decide) (Nat.lt_of_lt_of_le hpl hPB.size) (hP _ hPB)).mono ?_
          rintro e w9 ⟨v, rfl, oT, hb9⟩
          rw [catRTower_two, HT2.out] at oT
          obtain ⟨ad0, cd0, rfl, -⟩ := oT.rd.len
          have o1 := oT.base (B' := wS.heap.size) hB8.size
          try go_simp
          refine hK.out _ _ ?_ (fun hHeld => ?_)
          · exact KB.out _ (hB8.trans (hb9.mono hB8.size))
          clear hK K
          try simp only [Act.put, List.setIfInBounds_toArray, List.set_cons_zero, List.set_cons_succ]
          have hPB := hPB.trans (hb9.mono hPB.size)
          have hzb := Nat.lt_of_lt_of_le hzb hb9.size
          have OB := OB.next hb9
          have hB10 := hB8.trans (hb9.mono hB8.size)
          have ne0 : ∀ k, (Value.slice ad0 tt.length cd0).ownBlock = some k → k ≠ w1.heap.size := fun k hk => by have := (oT.lt k hk).1; have := hzb; omega
          clear oT hP hPB hpl
          refine wpAnyH_take (i := 11) (oi := { dst := some 36, op := Go.Op.build 31 #[(0, Go.Operand.tmp 35)], type := 31, pos := "l6_tower.go:166", after := #[{ on := 10, ground := Go.Ground.data }], guard := none }) (v := ?_) rfl (by kernel_rfl) (by kernel_rfl) (by kernel_rfl) (fun _ _ _ h => h) (Or.inl ⟨by rfl, ?_⟩) (by assumption) ?_
          rotate_left
          · intro w hSw; (try dsimp only at hSw); go_simp; try with_reducible rfl
          try simp only [Act.put, List.setIfInBounds_toArray, List.set_cons_zero, List.set_cons_succ]
          refine wpAnyH_ready (rs := [13]) (by kernel_rfl) (by simp) ?_
          refine AllReadyH.cons (o := { dst := none, op := Go.Op.store 31 (Go.Operand.tmp 6) (Go.Operand.tmp 36), type := 0, pos := "l6_tower.go:166", after := #[{ on := 12, ground := Go.Ground.data }, { on := 11, ground := Go.Ground.data }, { on := 10, ground := Go.Ground.chain }, { on := 0, ground := Go.Ground.phase }, { on := 1, ground := Go.Ground.phase }, { on := 2, ground := Go.Ground.phase }, { on := 3, ground := Go.Ground.phase }, { on := 4, ground := Go.Ground.phase }, { on := 5, ground := Go.Ground.phase }, { on := 6, ground := Go.Ground.phase }, { on := 7, ground := Go.Ground.phase }, { on := 8, ground := Go.Ground.phase }, { on := 9, ground := Go.Ground.phase }, { on := 10, ground := Go.Ground.phase }, { on := 11, ground := Go.Ground.phase }, { on := 12, ground := Go.Ground.phase }], guard := none }) rfl (fun K hK => ?_) AllReadyH.nil
          have j0 := OB.c0
          have j1 := OB.c1
          have j2 := OB.f0
          have j3 := OB.f1
          have hbl3 : w.heap.size + 2 ≤ w1.heap.size := by omega
          have NT := ((NS.next hB10).set (o := 0) (u := .slice ad0 tt.length cd0) HR.out (show w.heap.size < w1.heap.size by omega)).set (o := 1) (u := .slice none 0 0) HR.out (show w.heap.size < w1.heap.size by omega)
          go_simp
          refine hK.out _ _ ?_ (fun hHeld => ?_)
          · exact ⟨NT.b0, NT.b1⟩
          clear hK K
          try simp only [Act.put, List.setIfInBounds_toArray, List.set_cons_zero, List.set_cons_succ]
          refine wpAnyH_done (by kernel_rfl) ?_ _
          have VL := ((VS.next hB10).set (o := 0) (u := .slice ad0 tt.length cd0) (show w1.heap.size ≠ w.heap.size + 1 by omega) ⟨_, OB.c0⟩).set (o := 1) (u := .slice none 0 0) (show w1.heap.size ≠ w.heap.size + 1 by omega) ⟨_, (OB.put0).c1⟩
          have OM := (OB.put0 (u := .slice ad0 tt.length cd0)).put1 (u := .slice none 0 0)
          have q0 := ((o1.setFar (b := w1.heap.size) (o := 0) (x := .slice ad0 tt.length cd0) (fun e => ne0 _ e rfl)).setFar (b := w1.heap.size) (o := 1) (x := .slice none 0 0) (fun e => ne0 _ e rfl)).base (B' := w.heap.size + 2) hzS
          have HNE := Lib.hid ne0
          clear j0 j1 j2 j3 OB hHeld NS VS HT HD KB ne0 hzb o1
          generalize (w9.setCell ⟨w1.heap.size, 0, none⟩ (.slice ad0 tt.length cd0)).setCell ⟨w1.heap.size, 1, none⟩ (.slice none 0 0) = WL at *
          generalize w1.heap.size = bo at *
          have h0 := NT.b0
          have h1 := NT.b1
          go_wp2
          go_loopw [40] (fun c wr => ∃ (k : Nat) (vc : Value), k ≤ m ∧ c = .int .i64 k ∧ NB w wr a0 n p0 a1 m p1 ts ls ∧ Var2 wr (w.heap.size + 1) (.slice none 0 0) (.slice none 0 0) ∧ Var2 wr bo (.slice ad0 tt.length cd0) vc ∧ OwnR 62 c3 3 wr (w.heap.size + 2) (.slice ad0 tt.length cd0) tt ∧ OwnR 53 c3 3 wr (bo + 1) vc (dropL (I : Int) (ls.take k))) (fun c wr => m - (intOf c).toNat)
          case atStart => exact ⟨0, _, Nat.zero_le _, rfl, NT, VL, OM, q0, OwnR.nil _ _⟩
          case round =>
            clear h0 h1 NT VL OM q0 
            obtain ⟨k, vc, hk, rfl, NK, VK, OK, qT, qL⟩ := hrel
            obtain ⟨avc, cvc, rfl, -⟩ := qL.rd.len
            obtain ⟨DL, hDL⟩ : ∃ DL, dropL (I : Int) (ls.take k) = DL := ⟨_, rfl⟩
            rw [hDL] at OK qL
            have HDLk := Lib.hid hDL
            clear hDL
            have h0 := NK.b0
            have h1 := NK.b1
            have j0 := OK.c0
            have j1 := OK.c1
            have hob := OK.lt
            by_cases hlt : k < m
            · obtain ⟨g, off, rfl, hg, e0, e1, e2⟩ := NK.rd.2.at3 HM.out k hlt
              have HDL : Hid (dropL (I : Int) (ls.take (k + 1)) = DL ++ dropOne (I : Int) (rAt ls k)) := Lib.hid (by rw [← HDLk.out]; exact dropL_take (by rw [← HM.out]; exact hlt))
              have HKL : Hid (DL.length ≤ 40) := Lib.hid (by rw [← HDLk.out]; have := dropL_len (I : Int) (ls.take k); simp at this; omega)
              have hln := HOK.out.lnk k (by rw [← HM.out]; exact hlt)
              rw [← HN.out] at hln
              have hl0 : 0 ≤ (rAt ls k).x0 ∧ (rAt ls k).x0 ≤ 16 := by omega
              have hl1 : 0 ≤ (rAt ls k).x1 ∧ (rAt ls k).x1 ≤ 16 := by omega
              have HD1 : Hid (dropOne (I : Int) (rAt ls k) = dropOne (I : Int) ⟨(rAt ls k).x0, (rAt ls k).x1, (rAt ls k).x2⟩) := Lib.hid rfl
              clear hln
              generalize (rAt ls k).x0 = x0 at *
              generalize (rAt ls k).x1 = x1 at *
              generalize (rAt ls k).x2 = x2 at *
              by_cases d0 : x0 = (I : Int)
              · have b0 : (x0 != (I : Int)) = false := by simpa using d0
                have E1 : Hid (dropL (I : Int) (ls.take (k + 1)) = DL) := Lib.hid (by rw [HDL.out, HD1.out]; simp [dropOne, d0])
                clear d0
                go_wp2
                go_roundw
                case rel => exact ⟨k + 1, _, by omega, by go_num, NK.next ((Below.refl wr.heap.size wr).alloc (Nat.le_refl _) (.cells #[.int .i64 x0, .int .i64 x1, .int .i64 x2] 53)), VK.next ((Below.refl wr.heap.size wr).alloc (Nat.le_refl _) (.cells #[.int .i64 x0, .int .i64 x1, .int .i64 x2] 53)), OK.next ((Below.refl wr.heap.size wr).alloc (Nat.le_refl _) (.cells #[.int .i64 x0, .int .i64 x1, .int .i64 x2] 53)), qT.later ((Below.refl wr.heap.size wr).alloc (Nat.le_refl _) (.cells #[.int .i64 x0, .int .i64 x1, .int .i64 x2] 53)), by rw [E1.out]; exact qL.later ((Below.refl wr.heap.size wr).alloc (Nat.le_refl _) (.cells #[.int .i64 x0, .int .i64 x1, .int .i64 x2] 53))⟩
                case measure => simp [intOf]; omega
              · have b0 : (x0 != (I : Int)) = true := by simpa using d0
                by_cases d1 : x1 = (I : Int)
                · have b1 : (x1 != (I : Int)) = false := by simpa using d1
                  have E1 : Hid (dropL (I : Int) (ls.take (k + 1)) = DL) := Lib.hid (by rw [HDL.out, HD1.out]; simp [dropOne, d1])
                  clear d0 d1
                  go_wp2
                  go_roundw
                  case rel => exact ⟨k + 1, _, by omega, by go_num, NK.next ((Below.refl wr.heap.size wr).alloc (Nat.le_refl _) (.cells #[.int .i64 x0, .int .i64 x1, .int .i64 x2] 53)), VK.next ((Below.refl wr.heap.size wr).alloc (Nat.le_refl _) (.cells #[.int .i64 x0, .int .i64 x1, .int .i64 x2] 53)), OK.next ((Below.refl wr.heap.size wr).alloc (Nat.le_refl _) (.cells #[.int .i64 x0, .int .i64 x1, .int .i64 x2] 53)), qT.later ((Below.refl wr.heap.size wr).alloc (Nat.le_refl _) (.cells #[.int .i64 x0, .int .i64 x1, .int .i64 x2] 53)), by rw [E1.out]; exact qL.later ((Below.refl wr.heap.size wr).alloc (Nat.le_refl _) (.cells #[.int .i64 x0, .int .i64 x1, .int .i64 x2] 53))⟩
                  case measure => simp [intOf]; omega
                · have b1 : (x1 != (I : Int)) = true := by simpa using d1
                  have E1 : Hid (dropL (I : Int) (ls.take (k + 1)) = DL ++ [⟨dwx (I : Int) x0, dwx (I : Int) x1, x2⟩]) := Lib.hid (by rw [HDL.out, HD1.out]; simp [dropOne, d0, d1])
                  have HL2 : Hid (DL.length + ([⟨dwx (I : Int) x0, dwx (I : Int) x1, x2⟩] : List T3).length ≤ 4194304) := Lib.hid (by have := HKL.out; simp; omega)
                  have alA := ((Below.refl wr.heap.size wr).alloc (Nat.le_refl _) (.cells #[.int .i64 x0, .int .i64 x1, .int .i64 x2] 53))
                  have NA := NK.next alA
                  have VA := VK.next alA
                  have OA := OK.next alA
                  have XA := Box3.new wr (.int .i64 x0) (.int .i64 x1) (.int .i64 x2) 53
                  have tA := qT.later alA
                  have lA := qL.later alA
                  have hXL : ∀ j, (Value.slice avc DL.length cvc).ownBlock = some j → j ≠ wr.heap.size := fun j hj => by have := (qL.lt j hj).2; omega
                  have hwb : w.heap.size + 2 ≤ bo := hbl3
                  clear d0 d1 alA
                  go_wp2
                  clear h0 h1 j0 j1 e0 e1 e2 b0 b1 NK VK OK qT qL
                  generalize wr.alloc (.cells #[.int .i64 x0, .int .i64 x1, .int .i64 x2] 53) = WX at *
                  refine wp_region_held_drew (S := (fun w' => w'.cell? ⟨wr.heap.size, 0, none⟩ = some (.int .i64 x0) ∧ w'.cell? ⟨wr.heap.size, 1, none⟩ = some (.int .i64 x1) ∧ w'.cell? ⟨wr.heap.size, 2, none⟩ = some (.int .i64 x2))) (by kernel_rfl) ?_ (fun hHeld => ?_)
                  · exact ⟨(XA.next (Below.refl _ _).drew).c0, (XA.next (Below.refl _ _).drew).c1, (XA.next (Below.refl _ _).drew).c2⟩
                  refine wpAnyH_name ?_
                  intro wS hwS
                  rw [← hwS] at hHeld
                  have hbS := below_named hwS
                  clear hwS
                  have hB0 := Below.refl wS.heap.size wS
                  have XB := XA.next hbS
                  have OB := OA.next hbS
                  have VB := VA.next hbS
                  have NB8 := NA.next hbS
                  have tB := tA.later hbS
                  have lB := lA.later hbS
                  have j0 := OB.c0
                  have j1 := OB.c1
                  have hzS8 : bo + 1 ≤ wS.heap.size := OB.lt
                  have hzX : wr.heap.size + 1 ≤ wS.heap.size := XB.lt
                  have KB : Hid (∀ y : World, Below wS.heap.size wS y → y.cell? ⟨wr.heap.size, 0, none⟩ = some (.int .i64 x0) ∧ y.cell? ⟨wr.heap.size, 1, none⟩ = some (.int .i64 x1) ∧ y.cell? ⟨wr.heap.size, 2, none⟩ = some (.int .i64 x2)) := Lib.hid fun y h => ⟨(XB.next h).c0, (XB.next h).c1, (XB.next h).c2⟩
                  refine wpAnyH_take (i := 0) (oi := { dst := some 54, op := Go.Op.fieldAddr 31 (Go.Operand.tmp 6) 1, type := 0, pos := "l6_tower.go:169", after := #[], guard := none }) (v := ?_) rfl (by kernel_rfl) (by kernel_rfl) (by kernel_rfl) (fun _ _ _ h => h) (Or.inl ⟨by rfl, ?_⟩) (by assumption) ?_
                  rotate_left
                  · intro w hSw; (try dsimp only at hSw); go_simp; try with_reducible rfl
                  try simp only [Act.put, List.setIfInBounds_toArray, List.set_cons_zero, List.set_cons_succ]
                  refine wpAnyH_take (i := 2) (oi := { dst := some 56, op := Go.Op.fieldAddr 53 (Go.Operand.tmp 8) 0, type := 0, pos := "l6_tower.go:169", after := #[], guard := none }) (v := ?_) rfl (by kernel_rfl) (by kernel_rfl) (by kernel_rfl) (fun _ _ _ h => h) (Or.inl ⟨by rfl, ?_⟩) (by assumption) ?_
                  rotate_left
                  · intro w hSw; (try dsimp only at hSw); go_simp; try with_reducible rfl
                  try simp only [Act.put, List.setIfInBounds_toArray, List.set_cons_zero, List.set_cons_succ]
                  refine wpAnyH_take (i := 3) (oi := { dst := some 57, op := Go.Op.load 3 (Go.Operand.tmp 56), type := 3, pos := "l6_tower.go:169", after := #[{ on := 2, ground := Go.Ground.data }], guard := none }) (v := ?_) rfl (by kernel_rfl) (by kernel_rfl) (by kernel_rfl) (fun _ _ _ h => h) (Or.inl ⟨by rfl, ?_⟩) (by assumption) ?_
                  rotate_left
                  · intro w hSw; (try dsimp only at hSw); go_simp; try with_reducible rfl
                  try simp only [Act.put, List.setIfInBounds_toArray, List.set_cons_zero, List.set_cons_succ]
                  refine wpAnyH_take (i := 4) (oi := { dst := some 58, op := Go.Op.move (Go.Operand.tmp 1), type := 3, pos := "l6_tower.go:169", after := #[], guard := none }) (v := ?_) rfl (by kernel_rfl) (by kernel_rfl) (by kernel_rfl) (fun _ _ _ h => h) (Or.inl ⟨by rfl, ?_⟩) (by assumption) ?_
                  rotate_left
                  · intro w hSw; (try dsimp only at hSw); go_simp; try with_reducible rfl
                  try simp only [Act.put, List.setIfInBounds_toArray, List.set_cons_zero, List.set_cons_succ]
                  refine wpAnyH_take (i := 6) (oi := { dst := some 60, op := Go.Op.fieldAddr 53 (Go.Operand.tmp 8) 1, type := 0, pos := "l6_tower.go:169", after := #[], guard := none }) (v := ?_) rfl (by kernel_rfl) (by kernel_rfl) (by kernel_rfl) (fun _ _ _ h => h) (Or.inl ⟨by rfl, ?_⟩) (by assumption) ?_
                  rotate_left
                  · intro w hSw; (try dsimp only at hSw); go_simp; try with_reducible rfl
                  try simp only [Act.put, List.setIfInBounds_toArray, List.set_cons_zero, List.set_cons_succ]
                  refine wpAnyH_take (i := 7) (oi := { dst := some 61, op := Go.Op.load 3 (Go.Operand.tmp 60), type := 3, pos := "l6_tower.go:169", after := #[{ on := 6, ground := Go.Ground.data }], guard := none }) (v := ?_) rfl (by kernel_rfl) (by kernel_rfl) (by kernel_rfl) (fun _ _ _ h => h) (Or.inl ⟨by rfl, ?_⟩) (by assumption) ?_
                  rotate_left
                  · intro w hSw; (try dsimp only at hSw); go_simp; try with_reducible rfl
                  try simp only [Act.put, List.setIfInBounds_toArray, List.set_cons_zero, List.set_cons_succ]
                  refine wpAnyH_take (i := 8) (oi := { dst := some 62, op := Go.Op.move (Go.Operand.tmp 1), type := 3, pos := "l6_tower.go:169", after := #[], guard := none }) (v := ?_) rfl (by kernel_rfl) (by kernel_rfl) (by kernel_rfl) (fun _ _ _ h => h) (Or.inl ⟨by rfl, ?_⟩) (by assumption) ?_
                  rotate_left
                  · intro w hSw; (try dsimp only at hSw); go_simp; try with_reducible rfl
                  try simp only [Act.put, List.setIfInBounds_toArray, List.set_cons_zero, List.set_cons_succ]
                  refine wpAnyH_take (i := 10) (oi := { dst := some 64, op := Go.Op.fieldAddr 53 (Go.Operand.tmp 8) 2, type := 0, pos := "l6_tower.go:169", after := #[], guard := none }) (v := ?_) rfl (by kernel_rfl) (by kernel_rfl) (by kernel_rfl) (fun _ _ _ h => h) (Or.inl ⟨by rfl, ?_⟩) (by assumption) ?_
                  rotate_left
                  · intro w hSw; (try dsimp only at hSw); go_simp; try with_reducible rfl
                  try simp only [Act.put, List.setIfInBounds_toArray, List.set_cons_zero, List.set_cons_succ]
                  refine wpAnyH_take (i := 11) (oi := { dst := some 65, op := Go.Op.load 3 (Go.Operand.tmp 64), type := 3, pos := "l6_tower.go:169", after := #[{ on := 10, ground := Go.Ground.data }], guard := none }) (v := ?_) rfl (by kernel_rfl) (by kernel_rfl) (by kernel_rfl) (fun _ _ _ h => h) (Or.inl ⟨by rfl, ?_⟩) (by assumption) ?_
                  rotate_left
                  · intro w hSw; (try dsimp only at hSw); go_simp; try with_reducible rfl
                  try simp only [Act.put, List.setIfInBounds_toArray, List.set_cons_zero, List.set_cons_succ]
                  refine wpAnyH_ready (rs := [1, 5]) (by kernel_rfl) (by simp) ?_
                  refine AllReadyH.cons (o := { dst := some 55, op := Go.Op.load 29 (Go.Operand.tmp 54), type := 29, pos := "l6_tower.go:169", after := #[{ on := 0, ground := Go.Ground.data }], guard := none }) rfl (fun K hK => ?_) ?_
                  · go_simp
                    refine hK.out _ _ ?_ (fun hHeld => ?_)
                    · exact hHeld
                    clear hK K
                    try simp only [Act.put, List.setIfInBounds_toArray, List.set_cons_zero, List.set_cons_succ]
                    refine wpAnyH_ready (rs := [5]) (by kernel_rfl) (by simp) ?_
                    refine AllReadyH.cons (o := { dst := some 59, op := Go.Op.call { callee := Go.Callee.value (Go.Operand.func 75), args := #[Go.Operand.tmp 57, Go.Operand.tmp 58], argTypes := #[3, 3] }, type := 3, pos := "l6_tower.go:169", after := #[{ on := 3, ground := Go.Ground.data }, { on := 4, ground := Go.Ground.data }], guard := none }) rfl (fun K hK => ?_) AllReadyH.nil
                    go_simp
                    refine (numberWithout_any x0 (I : Int) _ (by omega)).mono ?_
                    rintro e w' ⟨rfl, rfl⟩
                    try go_simp
                    refine hK.out _ _ ?_ (fun hHeld => ?_)
                    · exact hHeld
                    clear hK K
                    try simp only [Act.put, List.setIfInBounds_toArray, List.set_cons_zero, List.set_cons_succ]
                    refine wpAnyH_ready (rs := [9]) (by kernel_rfl) (by simp) ?_
                    refine AllReadyH.cons (o := { dst := some 63, op := Go.Op.call { callee := Go.Callee.value (Go.Operand.func 75), args := #[Go.Operand.tmp 61, Go.Operand.tmp 62], argTypes := #[3, 3] }, type := 3, pos := "l6_tower.go:169", after := #[{ on := 7, ground := Go.Ground.data }, { on := 8, ground := Go.Ground.data }, { on := 5, ground := Go.Ground.chain }], guard := none }) rfl (fun K hK => ?_) AllReadyH.nil
                    go_simp
                    refine (numberWithout_any x1 (I : Int) _ (by omega)).mono ?_
                    rintro e w' ⟨rfl, rfl⟩
                    try go_simp
                    refine hK.out _ _ ?_ (fun hHeld => ?_)
                    · exact hHeld
                    clear hK K
                    try simp only [Act.put, List.setIfInBounds_toArray, List.set_cons_zero, List.set_cons_succ]
                    refine wpAnyH_take (i := 12) (oi := { dst := some 66, op := Go.Op.build 53 #[(0, Go.Operand.tmp 59), (1, Go.Operand.tmp 63), (2, Go.Operand.tmp 65)], type := 53, pos := "l6_tower.go:169", after := #[{ on := 5, ground := Go.Ground.data }, { on := 9, ground := Go.Ground.data }, { on := 11, ground := Go.Ground.data }], guard := none }) (v := ?_) rfl (by kernel_rfl) (by kernel_rfl) (by kernel_rfl) (fun _ _ _ h => h) (Or.inl ⟨by rfl, ?_⟩) (by assumption) ?_
                    rotate_left
                    · intro w hSw; (try dsimp only at hSw); go_simp; try with_reducible rfl
                    try simp only [Act.put, List.setIfInBounds_toArray, List.set_cons_zero, List.set_cons_succ]
                    refine wpAnyH_ready (rs := [13]) (by kernel_rfl) (by simp) ?_
                    refine AllReadyH.cons (o := { dst := some 67, op := Go.Op.buildSlice 29 1 #[(0, Go.Operand.tmp 66)], type := 29, pos := "l6_tower.go:169", after := #[{ on := 12, ground := Go.Ground.data }], guard := none }) rfl (fun K hK => ?_) AllReadyH.nil
                    go_simp
                    refine hK.out _ _ ?_ (fun hHeld => ?_)
                    · exact KB.out _ (hB0.alloc hB0.size _)
                    clear hK K
                    try simp only [Act.put, List.setIfInBounds_toArray, List.set_cons_zero, List.set_cons_succ]
                    refine wpAnyH_name ?_
                    intro w1 hw1
                    rw [← hw1] at hHeld
                    have hb1 := below_alloc hw1
                    have z1 := lt_named hw1
                    have b0 : w1.cell? ⟨wS.heap.size, 0, none⟩ = some (.int .i64 (dwx (I : Int) x0)) := by rw [hw1]; simp [go_sem]
                    have b1 : w1.cell? ⟨wS.heap.size, 1, none⟩ = some (.int .i64 (dwx (I : Int) x1)) := by rw [hw1]; simp [go_sem]
                    have b2 : w1.cell? ⟨wS.heap.size, 2, none⟩ = some (.int .i64 x2) := by rw [hw1]; simp [go_sem]
                    clear hw1
                    have tB := tB.later hb1
                    have lB := lB.later hb1
                    have j1 := bcell hb1 j1
                    have OB := OB.next hb1
                    have VB := VB.next hb1
                    have XB := XB.next hb1
                    have NB8 := NB8.next hb1
                    have hB2 := hB0.trans (hb1.mono hB0.size)
                    refine wpAnyH_ready (rs := [14]) (by kernel_rfl) (by simp) ?_
                    refine AllReadyH.cons (o := { dst := some 68, op := Go.Op.call { callee := Go.Callee.builtin Go.Builtin.append, args := #[Go.Operand.tmp 55, Go.Operand.tmp 67], argTypes := #[29, 29] }, type := 29, pos := "l6_tower.go:169", after := #[{ on := 1, ground := Go.Ground.data }, { on := 13, ground := Go.Ground.data }, { on := 9, ground := Go.Ground.chain }], guard := none }) rfl (fun K hK => ?_) AllReadyH.nil
                    have hzB : bo + 1 ≤ w1.heap.size := OB.lt
                    refine step_append_LinkS (by rfl) _ _ (by rfl) (bo + 1) _ _ DL [⟨dwx (I : Int) x0, dwx (I : Int) x1, x2⟩] (by rfl) (by rfl) lB (RdR.one3 (c := 1) ⟨dwx (I : Int) x0, dwx (I : Int) x1, x2⟩ (World.block_lt_of_cell? _ _ b0) (Nat.le_refl _) (by unfold maxLen; decide) b0 b1 b2) HL2.out hzB ?_
                    intro v3 w3 o2 hg2 hat3
                    rw [← E1.out] at o2
                    obtain ⟨ad2, cd2, rfl, -⟩ := o2.rd.len
                    have hB2 := (Below.refl (bo + 1) _).grown hg2 hzB (fun i hi => (lB.lt i hi).1)
                    have NB8 := NB8.grown HR.out hg2 (fun i hi => by have := (lB.lt i hi).1; omega)
                    have VB := VB.below hB2 (by omega) hzB
                    have OB := OB.below hB2 (by omega) hzB
                    have tB := tB.kept hg2 (row_apart tB lB (by decide))
                    have XB := XB.grownN hg2 (fun e => hXL _ e rfl)
                    clear j1 b0 b1 b2
                    have j5 := OB.c0
                    have j6 := OB.c1
                    have j7 := OB.f1
                    try go_simp
                    refine hK.out _ _ ?_ (fun hHeld => ?_)
                    · exact ⟨XB.c0, XB.c1, XB.c2⟩
                    clear hK K
                    try simp only [Act.put, List.setIfInBounds_toArray, List.set_cons_zero, List.set_cons_succ]
                    refine wpAnyH_take (i := 15) (oi := { dst := some 69, op := Go.Op.fieldAddr 31 (Go.Operand.tmp 6) 1, type := 0, pos := "l6_tower.go:169", after := #[{ on := 0, ground := Go.Ground.phase }, { on := 1, ground := Go.Ground.phase }, { on := 2, ground := Go.Ground.phase }, { on := 3, ground := Go.Ground.phase }, { on := 4, ground := Go.Ground.phase }, { on := 5, ground := Go.Ground.phase }, { on := 6, ground := Go.Ground.phase }, { on := 7, ground := Go.Ground.phase }, { on := 8, ground := Go.Ground.phase }, { on := 9, ground := Go.Ground.phase }, { on := 10, ground := Go.Ground.phase }, { on := 11, ground := Go.Ground.phase }, { on := 12, ground := Go.Ground.phase }, { on := 13, ground := Go.Ground.phase }, { on := 14, ground := Go.Ground.phase }], guard := none }) (v := ?_) rfl (by kernel_rfl) (by kernel_rfl) (by kernel_rfl) (fun _ _ _ h => h) (Or.inl ⟨by rfl, ?_⟩) (by assumption) ?_
                    rotate_left
                    · intro w hSw; (try dsimp only at hSw); go_simp; try with_reducible rfl
                    try simp only [Act.put, List.setIfInBounds_toArray, List.set_cons_zero, List.set_cons_succ]
                    refine wpAnyH_ready (rs := [16]) (by kernel_rfl) (by simp) ?_
                    refine AllReadyH.cons (o := { dst := none, op := Go.Op.store 29 (Go.Operand.tmp 69) (Go.Operand.tmp 68), type := 0, pos := "l6_tower.go:169", after := #[{ on := 15, ground := Go.Ground.data }, { on := 14, ground := Go.Ground.data }, { on := 14, ground := Go.Ground.chain }, { on := 0, ground := Go.Ground.phase }, { on := 1, ground := Go.Ground.phase }, { on := 2, ground := Go.Ground.phase }, { on := 3, ground := Go.Ground.phase }, { on := 4, ground := Go.Ground.phase }, { on := 5, ground := Go.Ground.phase }, { on := 6, ground := Go.Ground.phase }, { on := 7, ground := Go.Ground.phase }, { on := 8, ground := Go.Ground.phase }, { on := 9, ground := Go.Ground.phase }, { on := 10, ground := Go.Ground.phase }, { on := 11, ground := Go.Ground.phase }, { on := 12, ground := Go.Ground.phase }, { on := 13, ground := Go.Ground.phase }, { on := 14, ground := Go.Ground.phase }], guard := none }) rfl (fun K hK => ?_) AllReadyH.nil
                    have XS8 := XB.set (o := 1) (u := .slice ad2 (dropL (I : Int) (ls.take (k + 1))).length cd2) (show bo ≠ wr.heap.size by omega)
                    go_simp
                    refine hK.out _ _ ?_ (fun hHeld => ?_)
                    · exact ⟨XS8.c0, XS8.c1, XS8.c2⟩
                    clear hK K
                    try simp only [Act.put, List.setIfInBounds_toArray, List.set_cons_zero, List.set_cons_succ]
                    refine wpAnyH_done (by kernel_rfl) ?_ _
                    go_wp2
                    go_roundw
                    case rel => exact ⟨k + 1, _, by omega, by go_num, NB8.set HR.out (show w.heap.size < bo by omega), VB.set (show bo ≠ w.heap.size + 1 by omega) ⟨_, j6⟩, OB.put1, tB.setFar (fun e => HNE.out _ e rfl), o2.setFar (fun e => by have := (o2.lt _ e).1; omega)⟩
                    case measure => simp [intOf]; omega
                  refine AllReadyH.cons (o := { dst := some 59, op := Go.Op.call { callee := Go.Callee.value (Go.Operand.func 75), args := #[Go.Operand.tmp 57, Go.Operand.tmp 58], argTypes := #[3, 3] }, type := 3, pos := "l6_tower.go:169", after := #[{ on := 3, ground := Go.Ground.data }, { on := 4, ground := Go.Ground.data }], guard := none }) rfl (fun K hK => ?_) AllReadyH.nil
                  go_simp
                  refine (numberWithout_any x0 (I : Int) _ (by omega)).mono ?_
                  rintro e w' ⟨rfl, rfl⟩
                  try go_simp
                  refine hK.out _ _ ?_ (fun hHeld => ?_)
                  · exact hHeld
                  clear hK K
                  try simp only [Act.put, List.setIfInBounds_toArray, List.set_cons_zero, List.set_cons_succ]
                  refine wpAnyH_ready (rs := [1, 9]) (by kernel_rfl) (by simp) ?_
                  refine AllReadyH.cons (o := { dst := some 55, op := Go.Op.load 29 (Go.Operand.tmp 54), type := 29, pos := "l6_tower.go:169", after := #[{ on := 0, ground := Go.Ground.data }], guard := none }) rfl (fun K hK => ?_) ?_
                  · go_simp
                    refine hK.out _ _ ?_ (fun hHeld => ?_)
                    · exact hHeld
                    clear hK K
                    try simp only [Act.put, List.setIfInBounds_toArray, List.set_cons_zero, List.set_cons_succ]
                    refine wpAnyH_ready (rs := [9]) (by kernel_rfl) (by simp) ?_
                    refine AllReadyH.cons (o := { dst := some 63, op := Go.Op.call { callee := Go.Callee.value (Go.Operand.func 75), args := #[Go.Operand.tmp 61, Go.Operand.tmp 62], argTypes := #[3, 3] }, type := 3, pos := "l6_tower.go:169", after := #[{ on := 7, ground := Go.Ground.data }, { on := 8, ground := Go.Ground.data }, { on := 5, ground := Go.Ground.chain }], guard := none }) rfl (fun K hK => ?_) AllReadyH.nil
                    go_simp
                    refine (numberWithout_any x1 (I : Int) _ (by omega)).mono ?_
                    rintro e w' ⟨rfl, rfl⟩
                    try go_simp
                    refine hK.out _ _ ?_ (fun hHeld => ?_)
                    · exact hHeld
                    clear hK K
                    try simp only [Act.put, List.setIfInBounds_toArray, List.set_cons_zero, List.set_cons_succ]
                    refine wpAnyH_take (i := 12) (oi := { dst := some 66, op := Go.Op.build 53 #[(0, Go.Operand.tmp 59), (1, Go.Operand.tmp 63), (2, Go.Operand.tmp 65)], type := 53, pos := "l6_tower.go:169", after := #[{ on := 5, ground := Go.Ground.data }, { on := 9, ground := Go.Ground.data }, { on := 11, ground := Go.Ground.data }], guard := none }) (v := ?_) rfl (by kernel_rfl) (by kernel_rfl) (by kernel_rfl) (fun _ _ _ h => h) (Or.inl ⟨by rfl, ?_⟩) (by assumption) ?_
                    rotate_left
                    · intro w hSw; (try dsimp only at hSw); go_simp; try with_reducible rfl
                    try simp only [Act.put, List.setIfInBounds_toArray, List.set_cons_zero, List.set_cons_succ]
                    refine wpAnyH_ready (rs := [13]) (by kernel_rfl) (by simp) ?_
                    refine AllReadyH.cons (o := { dst := some 67, op := Go.Op.buildSlice 29 1 #[(0, Go.Operand.tmp 66)], type := 29, pos := "l6_tower.go:169", after := #[{ on := 12, ground := Go.Ground.data }], guard := none }) rfl (fun K hK => ?_) AllReadyH.nil
                    go_simp
                    refine hK.out _ _ ?_ (fun hHeld => ?_)
                    · exact KB.out _ (hB0.alloc hB0.size _)
                    clear hK K
                    try simp only [Act.put, List.setIfInBounds_toArray, List.set_cons_zero, List.set_cons_succ]
                    refine wpAnyH_name ?_
                    intro w4 hw4
                    rw [← hw4] at hHeld
                    have hb4 := below_alloc hw4
                    have z4 := lt_named hw4
                    have b0 : w4.cell? ⟨wS.heap.size, 0, none⟩ = some (.int .i64 (dwx (I : Int) x0)) := by rw [hw4]; simp [go_sem]
                    have b1 : w4.cell? ⟨wS.heap.size, 1, none⟩ = some (.int .i64 (dwx (I : Int) x1)) := by rw [hw4]; simp [go_sem]
                    have b2 : w4.cell? ⟨wS.heap.size, 2, none⟩ = some (.int .i64 x2) := by rw [hw4]; simp [go_sem]
                    clear hw4
                    have tB := tB.later hb4
                    have lB := lB.later hb4
                    have j1 := bcell hb4 j1
                    have OB := OB.next hb4
                    have VB := VB.next hb4
                    have XB := XB.next hb4
                    have NB8 := NB8.next hb4
                    have hB5 := hB0.trans (hb4.mono hB0.size)
                    refine wpAnyH_ready (rs := [14]) (by kernel_rfl) (by simp) ?_
                    refine AllReadyH.cons (o := { dst := some 68, op := Go.Op.call { callee := Go.Callee.builtin Go.Builtin.append, args := #[Go.Operand.tmp 55, Go.Operand.tmp 67], argTypes := #[29, 29] }, type := 29, pos := "l6_tower.go:169", after := #[{ on := 1, ground := Go.Ground.data }, { on := 13, ground := Go.Ground.data }, { on := 9, ground := Go.Ground.chain }], guard := none }) rfl (fun K hK => ?_) AllReadyH.nil
                    have hzB : bo + 1 ≤ w4.heap.size := OB.lt
                    refine step_append_LinkS (by rfl) _ _ (by rfl) (bo + 1) _ _ DL [⟨dwx (I : Int) x0, dwx (I : Int) x1, x2⟩] (by rfl) (by rfl) lB (RdR.one3 (c := 1) ⟨dwx (I : Int) x0, dwx (I : Int) x1, x2⟩ (World.block_lt_of_cell? _ _ b0) (Nat.le_refl _) (by unfold maxLen; decide) b0 b1 b2) HL2.out hzB ?_
                    intro v6 w6 o2 hg2 hat6
                    rw [← E1.out] at o2
                    obtain ⟨ad2, cd2, rfl, -⟩ := o2.rd.len
                    have hB2 := (Below.refl (bo + 1) _).grown hg2 hzB (fun i hi => (lB.lt i hi).1)
                    have NB8 := NB8.grown HR.out hg2 (fun i hi => by have := (lB.lt i hi).1; omega)
                    have VB := VB.below hB2 (by omega) hzB
                    have OB := OB.below hB2 (by omega) hzB
                    have tB := tB.kept hg2 (row_apart tB lB (by decide))
                    have XB := XB.grownN hg2 (fun e => hXL _ e rfl)
                    clear j1 b0 b1 b2
                    have j5 := OB.c0
                    have j6 := OB.c1
                    have j7 := OB.f1
                    try go_simp
                    refine hK.out _ _ ?_ (fun hHeld => ?_)
                    · exact ⟨XB.c0, XB.c1, XB.c2⟩
                    clear hK K
                    try simp only [Act.put, List.setIfInBounds_toArray, List.set_cons_zero, List.set_cons_succ]
                    refine wpAnyH_take (i := 15) (oi := { dst := some 69, op := Go.Op.fieldAddr 31 (Go.Operand.tmp 6) 1, type := 0, pos := "l6_tower.go:169", after := #[{ on := 0, ground := Go.Ground.phase }, { on := 1, ground := Go.Ground.phase }, { on := 2, ground := Go.Ground.phase }, { on := 3, ground := Go.Ground.phase }, { on := 4, ground := Go.Ground.phase }, { on := 5, ground := Go.Ground.phase }, { on := 6, ground := Go.Ground.phase }, { on := 7, ground := Go.Ground.phase }, { on := 8, ground := Go.Ground.phase }, { on := 9, ground := Go.Ground.phase }, { on := 10, ground := Go.Ground.phase }, { on := 11, ground := Go.Ground.phase }, { on := 12, ground := Go.Ground.phase }, { on := 13, ground := Go.Ground.phase }, { on := 14, ground := Go.Ground.phase }], guard := none }) (v := ?_) rfl (by kernel_rfl) (by kernel_rfl) (by kernel_rfl) (fun _ _ _ h => h) (Or.inl ⟨by rfl, ?_⟩) (by assumption) ?_
                    rotate_left
                    · intro w hSw; (try dsimp only at hSw); go_simp; try with_reducible rfl
                    try simp only [Act.put, List.setIfInBounds_toArray, List.set_cons_zero, List.set_cons_succ]
                    refine wpAnyH_ready (rs := [16]) (by kernel_rfl) (by simp) ?_
                    refine AllReadyH.cons (o := { dst := none, op := Go.Op.store 29 (Go.Operand.tmp 69) (Go.Operand.tmp 68), type := 0, pos := "l6_tower.go:169", after := #[{ on := 15, ground := Go.Ground.data }, { on := 14, ground := Go.Ground.data }, { on := 14, ground := Go.Ground.chain }, { on := 0, ground := Go.Ground.phase }, { on := 1, ground := Go.Ground.phase }, { on := 2, ground := Go.Ground.phase }, { on := 3, ground := Go.Ground.phase }, { on := 4, ground := Go.Ground.phase }, { on := 5, ground := Go.Ground.phase }, { on := 6, ground := Go.Ground.phase }, { on := 7, ground := Go.Ground.phase }, { on := 8, ground := Go.Ground.phase }, { on := 9, ground := Go.Ground.phase }, { on := 10, ground := Go.Ground.phase }, { on := 11, ground := Go.Ground.phase }, { on := 12, ground := Go.Ground.phase }, { on := 13, ground := Go.Ground.phase }, { on := 14, ground := Go.Ground.phase }], guard := none }) rfl (fun K hK => ?_) AllReadyH.nil
                    have XS8 := XB.set (o := 1) (u := .slice ad2 (dropL (I : Int) (ls.take (k + 1))).length cd2) (show bo ≠ wr.heap.size by omega)
                    go_simp
                    refine hK.out _ _ ?_ (fun hHeld => ?_)
                    · exact ⟨XS8.c0, XS8.c1, XS8.c2⟩
                    clear hK K
                    try simp only [Act.put, List.setIfInBounds_toArray, List.set_cons_zero, List.set_cons_succ]
                    refine wpAnyH_done (by kernel_rfl) ?_ _
                    go_wp2
                    go_roundw
                    case rel => exact ⟨k + 1, _, by omega, by go_num, NB8.set HR.out (show w.heap.size < bo by omega), VB.set (show bo ≠ w.heap.size + 1 by omega) ⟨_, j6⟩, OB.put1, tB.setFar (fun e => HNE.out _ e rfl), o2.setFar (fun e => by have := (o2.lt _ e).1; omega)⟩
                    case measure => simp [intOf]; omega
                  refine AllReadyH.cons (o := { dst := some 63, op := Go.Op.call { callee := Go.Callee.value (Go.Operand.func 75), args := #[Go.Operand.tmp 61, Go.Operand.tmp 62], argTypes := #[3, 3] }, type := 3, pos := "l6_tower.go:169", after := #[{ on := 7, ground := Go.Ground.data }, { on := 8, ground := Go.Ground.data }, { on := 5, ground := Go.Ground.chain }], guard := none }) rfl (fun K hK => ?_) AllReadyH.nil
                  go_simp
                  refine (numberWithout_any x1 (I : Int) _ (by omega)).mono ?_
                  rintro e w' ⟨rfl, rfl⟩
                  try go_simp
                  refine hK.out _ _ ?_ (fun hHeld => ?_)
                  · exact hHeld
                  clear hK K
                  try simp only [Act.put, List.setIfInBounds_toArray, List.set_cons_zero, List.set_cons_succ]
                  refine wpAnyH_take (i := 12) (oi := { dst := some 66, op := Go.Op.build 53 #[(0, Go.Operand.tmp 59), (1, Go.Operand.tmp 63), (2, Go.Operand.tmp 65)], type := 53, pos := "l6_tower.go:169", after := #[{ on := 5, ground := Go.Ground.data }, { on := 9, ground := Go.Ground.data }, { on := 11, ground := Go.Ground.data }], guard := none }) (v := ?_) rfl (by kernel_rfl) (by kernel_rfl) (by kernel_rfl) (fun _ _ _ h => h) (Or.inl ⟨by rfl, ?_⟩) (by assumption) ?_
                  rotate_left
                  · intro w hSw; (try dsimp only at hSw); go_simp; try with_reducible rfl
                  try simp only [Act.put, List.setIfInBounds_toArray, List.set_cons_zero, List.set_cons_succ]
                  refine wpAnyH_ready (rs := [1, 13]) (by kernel_rfl) (by simp) ?_
                  refine AllReadyH.cons (o := { dst := some 55, op := Go.Op.load 29 (Go.Operand.tmp 54), type := 29, pos := "l6_tower.go:169", after := #[{ on := 0, ground := Go.Ground.data }], guard := none }) rfl (fun K hK => ?_) ?_
                  · go_simp
                    refine hK.out _ _ ?_ (fun hHeld => ?_)
                    · exact hHeld
                    clear hK K
                    try simp only [Act.put, List.setIfInBounds_toArray, List.set_cons_zero, List.set_cons_succ]
                    refine wpAnyH_ready (rs := [13]) (by kernel_rfl) (by simp) ?_
                    refine AllReadyH.cons (o := { dst := some 67, op := Go.Op.buildSlice 29 1 #[(0, Go.Operand.tmp 66)], type := 29, pos := "l6_tower.go:169", after := #[{ on := 12, ground := Go.Ground.data }], guard := none }) rfl (fun K hK => ?_) AllReadyH.nil
                    go_simp
                    refine hK.out _ _ ?_ (fun hHeld => ?_)
                    · exact KB.out _ (hB0.alloc hB0.size _)
                    clear hK K
                    try simp only [Act.put, List.setIfInBounds_toArray, List.set_cons_zero, List.set_cons_succ]
                    refine wpAnyH_name ?_
                    intro w7 hw7
                    rw [← hw7] at hHeld
                    have hb7 := below_alloc hw7
                    have z7 := lt_named hw7
                    have b0 : w7.cell? ⟨wS.heap.size, 0, none⟩ = some (.int .i64 (dwx (I : Int) x0)) := by rw [hw7]; simp [go_sem]
                    have b1 : w7.cell? ⟨wS.heap.size, 1, none⟩ = some (.int .i64 (dwx (I : Int) x1)) := by rw [hw7]; simp [go_sem]
                    have b2 : w7.cell? ⟨wS.heap.size, 2, none⟩ = some (.int .i64 x2) := by rw [hw7]; simp [go_sem]
                    clear hw7
                    have tB := tB.later hb7
                    have lB := lB.later hb7
                    have j1 := bcell hb7 j1
                    have OB := OB.next hb7
                    have VB := VB.next hb7
                    have XB := XB.next hb7
                    have NB8 := NB8.next hb7
                    have hB8 := hB0.trans (hb7.mono hB0.size)
                    refine wpAnyH_ready (rs := [14]) (by kernel_rfl) (by simp) ?_
                    refine AllReadyH.cons (o := { dst := some 68, op := Go.Op.call { callee := Go.Callee.builtin Go.Builtin.append, args := #[Go.Operand.tmp 55, Go.Operand.tmp 67], argTypes := #[29, 29] }, type := 29, pos := "l6_tower.go:169", after := #[{ on := 1, ground := Go.Ground.data }, { on := 13, ground := Go.Ground.data }, { on := 9, ground := Go.Ground.chain }], guard := none }) rfl (fun K hK => ?_) AllReadyH.nil
                    have hzB : bo + 1 ≤ w7.heap.size := OB.lt
                    refine step_append_LinkS (by rfl) _ _ (by rfl) (bo + 1) _ _ DL [⟨dwx (I : Int) x0, dwx (I : Int) x1, x2⟩] (by rfl) (by rfl) lB (RdR.one3 (c := 1) ⟨dwx (I : Int) x0, dwx (I : Int) x1, x2⟩ (World.block_lt_of_cell? _ _ b0) (Nat.le_refl _) (by unfold maxLen; decide) b0 b1 b2) HL2.out hzB ?_
                    intro v9 w9 o2 hg2 hat9
                    rw [← E1.out] at o2
                    obtain ⟨ad2, cd2, rfl, -⟩ := o2.rd.len
                    have hB2 := (Below.refl (bo + 1) _).grown hg2 hzB (fun i hi => (lB.lt i hi).1)
                    have NB8 := NB8.grown HR.out hg2 (fun i hi => by have := (lB.lt i hi).1; omega)
                    have VB := VB.below hB2 (by omega) hzB
                    have OB := OB.below hB2 (by omega) hzB
                    have tB := tB.kept hg2 (row_apart tB lB (by decide))
                    have XB := XB.grownN hg2 (fun e => hXL _ e rfl)
                    clear j1 b0 b1 b2
                    have j5 := OB.c0
                    have j6 := OB.c1
                    have j7 := OB.f1
                    try go_simp
                    refine hK.out _ _ ?_ (fun hHeld => ?_)
                    · exact ⟨XB.c0, XB.c1, XB.c2⟩
                    clear hK K
                    try simp only [Act.put, List.setIfInBounds_toArray, List.set_cons_zero, List.set_cons_succ]
                    refine wpAnyH_take (i := 15) (oi := { dst := some 69, op := Go.Op.fieldAddr 31 (Go.Operand.tmp 6) 1, type := 0, pos := "l6_tower.go:169", after := #[{ on := 0, ground := Go.Ground.phase }, { on := 1, ground := Go.Ground.phase }, { on := 2, ground := Go.Ground.phase }, { on := 3, ground := Go.Ground.phase }, { on := 4, ground := Go.Ground.phase }, { on := 5, ground := Go.Ground.phase }, { on := 6, ground := Go.Ground.phase }, { on := 7, ground := Go.Ground.phase }, { on := 8, ground := Go.Ground.phase }, { on := 9, ground := Go.Ground.phase }, { on := 10, ground := Go.Ground.phase }, { on := 11, ground := Go.Ground.phase }, { on := 12, ground := Go.Ground.phase }, { on := 13, ground := Go.Ground.phase }, { on := 14, ground := Go.Ground.phase }], guard := none }) (v := ?_) rfl (by kernel_rfl) (by kernel_rfl) (by kernel_rfl) (fun _ _ _ h => h) (Or.inl ⟨by rfl, ?_⟩) (by assumption) ?_
                    rotate_left
                    · intro w hSw; (try dsimp only at hSw); go_simp; try with_reducible rfl
                    try simp only [Act.put, List.setIfInBounds_toArray, List.set_cons_zero, List.set_cons_succ]
                    refine wpAnyH_ready (rs := [16]) (by kernel_rfl) (by simp) ?_
                    refine AllReadyH.cons (o := { dst := none, op := Go.Op.store 29 (Go.Operand.tmp 69) (Go.Operand.tmp 68), type := 0, pos := "l6_tower.go:169", after := #[{ on := 15, ground := Go.Ground.data }, { on := 14, ground := Go.Ground.data }, { on := 14, ground := Go.Ground.chain }, { on := 0, ground := Go.Ground.phase }, { on := 1, ground := Go.Ground.phase }, { on := 2, ground := Go.Ground.phase }, { on := 3, ground := Go.Ground.phase }, { on := 4, ground := Go.Ground.phase }, { on := 5, ground := Go.Ground.phase }, { on := 6, ground := Go.Ground.phase }, { on := 7, ground := Go.Ground.phase }, { on := 8, ground := Go.Ground.phase }, { on := 9, ground := Go.Ground.phase }, { on := 10, ground := Go.Ground.phase }, { on := 11, ground := Go.Ground.phase }, { on := 12, ground := Go.Ground.phase }, { on := 13, ground := Go.Ground.phase }, { on := 14, ground := Go.Ground.phase }], guard := none }) rfl (fun K hK => ?_) AllReadyH.nil
                    have XS8 := XB.set (o := 1) (u := .slice ad2 (dropL (I : Int) (ls.take (k + 1))).length cd2) (show bo ≠ wr.heap.size by omega)
                    go_simp
                    refine hK.out _ _ ?_ (fun hHeld => ?_)
                    · exact ⟨XS8.c0, XS8.c1, XS8.c2⟩
                    clear hK K
                    try simp only [Act.put, List.setIfInBounds_toArray, List.set_cons_zero, List.set_cons_succ]
                    refine wpAnyH_done (by kernel_rfl) ?_ _
                    go_wp2
                    go_roundw
                    case rel => exact ⟨k + 1, _, by omega, by go_num, NB8.set HR.out (show w.heap.size < bo by omega), VB.set (show bo ≠ w.heap.size + 1 by omega) ⟨_, j6⟩, OB.put1, tB.setFar (fun e => HNE.out _ e rfl), o2.setFar (fun e => by have := (o2.lt _ e).1; omega)⟩
                    case measure => simp [intOf]; omega
                  refine AllReadyH.cons (o := { dst := some 67, op := Go.Op.buildSlice 29 1 #[(0, Go.Operand.tmp 66)], type := 29, pos := "l6_tower.go:169", after := #[{ on := 12, ground := Go.Ground.data }], guard := none }) rfl (fun K hK => ?_) AllReadyH.nil
                  go_simp
                  refine hK.out _ _ ?_ (fun hHeld => ?_)
                  · exact KB.out _ (hB0.alloc hB0.size _)
                  clear hK K
                  try simp only [Act.put, List.setIfInBounds_toArray, List.set_cons_zero, List.set_cons_succ]
                  refine wpAnyH_name ?_
                  intro w10 hw10
                  rw [← hw10] at hHeld
                  have hb10 := below_alloc hw10
                  have z10 := lt_named hw10
                  have b0 : w10.cell? ⟨wS.heap.size, 0, none⟩ = some (.int .i64 (dwx (I : Int) x0)) := by rw [hw10]; simp [go_sem]
                  have b1 : w10.cell? ⟨wS.heap.size, 1, none⟩ = some (.int .i64 (dwx (I : Int) x1)) := by rw [hw10]; simp [go_sem]
                  have b2 : w10.cell? ⟨wS.heap.size, 2, none⟩ = some (.int .i64 x2) := by rw [hw10]; simp [go_sem]
                  clear hw10
                  have tB := tB.later hb10
                  have lB := lB.later hb10
                  have j1 := bcell hb10 j1
                  have OB := OB.next hb10
                  have VB := VB.next hb10
                  have XB := XB.next hb10
                  have NB8 := NB8.next hb10
                  have hB11 := hB0.trans (hb10.mono hB0.size)
                  refine wpAnyH_ready (rs := [1]) (by kernel_rfl) (by simp) ?_
                  refine AllReadyH.cons (o := { dst := some 55, op := Go.Op.load 29 (Go.Operand.tmp 54), type := 29, pos := "l6_tower.go:169", after := #[{ on := 0, ground := Go.Ground.data }], guard := none }) rfl (fun K hK => ?_) AllReadyH.nil
                  go_simp
                  refine hK.out _ _ ?_ (fun hHeld => ?_)
                  · exact hHeld
                  clear hK K
                  try simp only [Act.put, List.setIfInBounds_toArray, List.set_cons_zero, List.set_cons_succ]
                  refine wpAnyH_ready (rs := [14]) (by kernel_rfl) (by simp) ?_
                  refine AllReadyH.cons (o := { dst := some 68, op := Go.Op.call { callee := Go.Callee.builtin Go.Builtin.append, args := #[Go.Operand.tmp 55, Go.Operand.tmp 67], argTypes := #[29, 29] }, type := 29, pos := "l6_tower.go:169", after := #[{ on := 1, ground := Go.Ground.data }, { on := 13, ground := Go.Ground.data }, { on := 9, ground := Go.Ground.chain }], guard := none }) rfl (fun K hK => ?_) AllReadyH.nil
                  have hzB : bo + 1 ≤ w10.heap.size := OB.lt
                  refine step_append_LinkS (by rfl) _ _ (by rfl) (bo + 1) _ _ DL [⟨dwx (I : Int) x0, dwx (I : Int) x1, x2⟩] (by rfl) (by rfl) lB (RdR.one3 (c := 1) ⟨dwx (I : Int) x0, dwx (I : Int) x1, x2⟩ (World.block_lt_of_cell? _ _ b0) (Nat.le_refl _) (by unfold maxLen; decide) b0 b1 b2) HL2.out hzB ?_
                  intro v12 w12 o2 hg2 hat12
                  rw [← E1.out] at o2
                  obtain ⟨ad2, cd2, rfl, -⟩ := o2.rd.len
                  have hB2 := (Below.refl (bo + 1) _).grown hg2 hzB (fun i hi => (lB.lt i hi).1)
                  have NB8 := NB8.grown HR.out hg2 (fun i hi => by have := (lB.lt i hi).1; omega)
                  have VB := VB.below hB2 (by omega) hzB
                  have OB := OB.below hB2 (by omega) hzB
                  have tB := tB.kept hg2 (row_apart tB lB (by decide))
                  have XB := XB.grownN hg2 (fun e => hXL _ e rfl)
                  clear j1 b0 b1 b2
                  have j5 := OB.c0
                  have j6 := OB.c1
                  have j7 := OB.f1
                  try go_simp
                  refine hK.out _ _ ?_ (fun hHeld => ?_)
                  · exact ⟨XB.c0, XB.c1, XB.c2⟩
                  clear hK K
                  try simp only [Act.put, List.setIfInBounds_toArray, List.set_cons_zero, List.set_cons_succ]
                  refine wpAnyH_take (i := 15) (oi := { dst := some 69, op := Go.Op.fieldAddr 31 (Go.Operand.tmp 6) 1, type := 0, pos := "l6_tower.go:169", after := #[{ on := 0, ground := Go.Ground.phase }, { on := 1, ground := Go.Ground.phase }, { on := 2, ground := Go.Ground.phase }, { on := 3, ground := Go.Ground.phase }, { on := 4, ground := Go.Ground.phase }, { on := 5, ground := Go.Ground.phase }, { on := 6, ground := Go.Ground.phase }, { on := 7, ground := Go.Ground.phase }, { on := 8, ground := Go.Ground.phase }, { on := 9, ground := Go.Ground.phase }, { on := 10, ground := Go.Ground.phase }, { on := 11, ground := Go.Ground.phase }, { on := 12, ground := Go.Ground.phase }, { on := 13, ground := Go.Ground.phase }, { on := 14, ground := Go.Ground.phase }], guard := none }) (v := ?_) rfl (by kernel_rfl) (by kernel_rfl) (by kernel_rfl) (fun _ _ _ h => h) (Or.inl ⟨by rfl, ?_⟩) (by assumption) ?_
                  rotate_left
                  · intro w hSw; (try dsimp only at hSw); go_simp; try with_reducible rfl
                  try simp only [Act.put, List.setIfInBounds_toArray, List.set_cons_zero, List.set_cons_succ]
                  refine wpAnyH_ready (rs := [16]) (by kernel_rfl) (by simp) ?_
                  refine AllReadyH.cons (o := { dst := none, op := Go.Op.store 29 (Go.Operand.tmp 69) (Go.Operand.tmp 68), type := 0, pos := "l6_tower.go:169", after := #[{ on := 15, ground := Go.Ground.data }, { on := 14, ground := Go.Ground.data }, { on := 14, ground := Go.Ground.chain }, { on := 0, ground := Go.Ground.phase }, { on := 1, ground := Go.Ground.phase }, { on := 2, ground := Go.Ground.phase }, { on := 3, ground := Go.Ground.phase }, { on := 4, ground := Go.Ground.phase }, { on := 5, ground := Go.Ground.phase }, { on := 6, ground := Go.Ground.phase }, { on := 7, ground := Go.Ground.phase }, { on := 8, ground := Go.Ground.phase }, { on := 9, ground := Go.Ground.phase }, { on := 10, ground := Go.Ground.phase }, { on := 11, ground := Go.Ground.phase }, { on := 12, ground := Go.Ground.phase }, { on := 13, ground := Go.Ground.phase }, { on := 14, ground := Go.Ground.phase }], guard := none }) rfl (fun K hK => ?_) AllReadyH.nil
                  have XS8 := XB.set (o := 1) (u := .slice ad2 (dropL (I : Int) (ls.take (k + 1))).length cd2) (show bo ≠ wr.heap.size by omega)
                  go_simp
                  refine hK.out _ _ ?_ (fun hHeld => ?_)
                  · exact ⟨XS8.c0, XS8.c1, XS8.c2⟩
                  clear hK K
                  try simp only [Act.put, List.setIfInBounds_toArray, List.set_cons_zero, List.set_cons_succ]
                  refine wpAnyH_done (by kernel_rfl) ?_ _
                  go_wp2
                  go_roundw
                  case rel => exact ⟨k + 1, _, by omega, by go_num, NB8.set HR.out (show w.heap.size < bo by omega), VB.set (show bo ≠ w.heap.size + 1 by omega) ⟨_, j6⟩, OB.put1, tB.setFar (fun e => HNE.out _ e rfl), o2.setFar (fun e => by have := (o2.lt _ e).1; omega)⟩
                  case measure => simp [intOf]; omega
            · obtain rfl : k = m := by omega
              have HQ : Hid (DL = dropL (I : Int) ls) := Lib.hid (by rw [← HDLk.out, HM.out, List.take_length])
              have r0 := VK.c0
              have r1 := VK.c1
              have s0 := VK.f0
              have s1 := VK.f1
              have sz := VK.lt
              go_wp2
              refine bodyPost_ret (v := .tuple #[.agg #[.slice ad0 tt.length cd0, .slice avc DL.length cvc], .bool true]) (by simp [results, Try.results41, go_sem, r0, r1, s0, s1, j0, j1, sz]) rfl ⟨_, _, by rw [HF.out.1], ?_, ?_⟩
              · rw [HF.out.2.1, HF.out.2.2, HTT.out, ← HQ.out]
                have u0 := ((qT.setFar (b := w.heap.size + 1) (o := 0) (x := .slice ad0 tt.length cd0) (fun e => by have := (qT.lt _ e).1; omega)).setFar (b := w.heap.size + 1) (o := 1) (x := .slice avc DL.length cvc) (fun e => by have := (qT.lt _ e).1; omega)).base (B' := w.heap.size) (by omega)
                have u1 := ((qL.setFar (b := w.heap.size + 1) (o := 0) (x := .slice ad0 tt.length cd0) (fun e => by have := (qL.lt _ e).1; omega)).setFar (b := w.heap.size + 1) (o := 1) (x := .slice avc DL.length cvc) (fun e => by have := (qL.lt _ e).1; omega)).base (B' := w.heap.size) (by omega)
                exact ⟨⟨u0, fun k hk => (u0.lt k hk).2⟩, ⟨u1, fun k hk => (u1.lt k hk).2⟩⟩
              · exact (NK.below.setCell (p := ⟨w.heap.size + 1, 0, none⟩) (by show w.heap.size ≤ w.heap.size + 1; omega) _).setCell (p := ⟨w.heap.size + 1, 1, none⟩) (by show w.heap.size ≤ w.heap.size + 1; omega) _
        refine AllReadyH.cons (o := { dst := some 6, op := Go.Op.alloc 31, type := 0, pos := "l6_tower.go:166", after := #[], guard := none }) rfl (fun K hK => ?_) AllReadyH.nil
        go_simp
        refine hK.out _ _ ?_ (fun hHeld => ?_)
        · exact KB.out _ (hB0.alloc hB0.size _)
        clear hK K
        try simp only [Act.put, List.setIfInBounds_toArray, List.set_cons_zero, List.set_cons_succ]
        refine wpAnyH_name ?_
        intro w11 hw11
        rw [← hw11] at hHeld
        have hb11 := below_alloc hw11
        have z11 := lt_named hw11
        have OB : Var2 w11 wS.heap.size (.slice none 0 0) (.slice none 0 0) := by rw [hw11]; exact Var2.new _ _ _ _
        have hbl := hB0.size
        have hzb := z11
        clear hw11
        have hB12 := hB0.trans (hb11.mono hB0.size)
        refine wpAnyH_ready (rs := [9]) (by kernel_rfl) (by simp) ?_
        refine AllReadyH.cons (o := { dst := some 34, op := Go.Op.buildSlice 96 2 #[(0, Go.Operand.tmp 28), (1, Go.Operand.tmp 33)], type := 96, pos := "l6_tower.go:166", after := #[{ on := 3, ground := Go.Ground.data }, { on := 8, ground := Go.Ground.data }], guard := none }) rfl (fun K hK => ?_) AllReadyH.nil
        go_simp
        refine hK.out _ _ ?_ (fun hHeld => ?_)
        · exact KB.out _ (hB12.alloc hB12.size _)
        clear hK K
        try simp only [Act.put, List.setIfInBounds_toArray, List.set_cons_zero, List.set_cons_succ]
        refine wpAnyH_name ?_
        intro w13 hw13
        rw [← hw13] at hHeld
        have hb13 := below_alloc hw13
        have z13 := lt_named hw13
        have d0 : w13.cell? ⟨w11.heap.size, 0, none⟩ = some (.slice a5 I p0) := by rw [hw13]; simp [go_sem]
        have d3 : w13.cell? ⟨w11.heap.size, 1, none⟩ = some (.slice a6 (n - I1) c6) := by rw [hw13]; simp [go_sem]
        clear hw13
        have hzb := Nat.lt_of_lt_of_le hzb hb13.size
        have OB := OB.next hb13
        have hB14 := hB12.trans (hb13.mono hB12.size)
        have hP := fun (y : World) (hy : Below w13.heap.size w13 y) => pk2_parts (bcell hy d0) (bcell hy d3) (HT.out.later ((hB12.trans (hb13.mono hB12.size)).trans (hy.mono (Nat.le_trans hB12.size hb13.size)))) (HD.out.later ((hB12.trans (hb13.mono hB12.size)).trans (hy.mono (Nat.le_trans hB12.size hb13.size)))) (Nat.le_trans HLT.out.1 (by decide)) (Nat.le_trans HLT.out.2 (by decide))
        have hpl := z13
        clear d0 d3
        have hPB := Below.refl w13.heap.size w13
        refine wpAnyH_ready (rs := [10]) (by kernel_rfl) (by simp) ?_
        refine AllReadyH.cons (o := { dst := some 35, op := Go.Op.call { callee := Go.Callee.value (Go.Operand.func 74), args := #[Go.Operand.tmp 34], argTypes := #[96] }, type := 28, pos := "l6_tower.go:166", after := #[{ on := 9, ground := Go.Ground.data }], guard := none }) rfl (fun K hK => ?_) AllReadyH.nil
        go_simp
        refine (concatTower_any _ 2 _ _ _ (by decide) (Nat.lt_of_lt_of_le hpl hPB.size) (hP _ hPB)).mono ?_
        rintro e w15 ⟨v, rfl, oT, hb15⟩
        rw [catRTower_two, HT2.out] at oT
        obtain ⟨ad0, cd0, rfl, -⟩ := oT.rd.len
        have o1 := oT.base (B' := wS.heap.size) hB14.size
        try go_simp
        refine hK.out _ _ ?_ (fun hHeld => ?_)
        · exact KB.out _ (hB14.trans (hb15.mono hB14.size))
        clear hK K
        try simp only [Act.put, List.setIfInBounds_toArray, List.set_cons_zero, List.set_cons_succ]
        have hPB := hPB.trans (hb15.mono hPB.size)
        have hzb := Nat.lt_of_lt_of_le hzb hb15.size
        have OB := OB.next hb15
        have hB16 := hB14.trans (hb15.mono hB14.size)
        have ne0 : ∀ k, (Value.slice ad0 tt.length cd0).ownBlock = some k → k ≠ wS.heap.size := fun k hk => by have := (oT.lt k hk).1; have := hzb; omega
        clear oT hP hPB hpl
        refine wpAnyH_take (i := 11) (oi := { dst := some 36, op := Go.Op.build 31 #[(0, Go.Operand.tmp 35)], type := 31, pos := "l6_tower.go:166", after := #[{ on := 10, ground := Go.Ground.data }], guard := none }) (v := ?_) rfl (by kernel_rfl) (by kernel_rfl) (by kernel_rfl) (fun _ _ _ h => h) (Or.inl ⟨by rfl, ?_⟩) (by assumption) ?_
        rotate_left
        · intro w hSw; (try dsimp only at hSw); go_simp; try with_reducible rfl
        try simp only [Act.put, List.setIfInBounds_toArray, List.set_cons_zero, List.set_cons_succ]
        refine wpAnyH_ready (rs := [13]) (by kernel_rfl) (by simp) ?_
        refine AllReadyH.cons (o := { dst := none, op := Go.Op.store 31 (Go.Operand.tmp 6) (Go.Operand.tmp 36), type := 0, pos := "l6_tower.go:166", after := #[{ on := 12, ground := Go.Ground.data }, { on := 11, ground := Go.Ground.data }, { on := 10, ground := Go.Ground.chain }, { on := 0, ground := Go.Ground.phase }, { on := 1, ground := Go.Ground.phase }, { on := 2, ground := Go.Ground.phase }, { on := 3, ground := Go.Ground.phase }, { on := 4, ground := Go.Ground.phase }, { on := 5, ground := Go.Ground.phase }, { on := 6, ground := Go.Ground.phase }, { on := 7, ground := Go.Ground.phase }, { on := 8, ground := Go.Ground.phase }, { on := 9, ground := Go.Ground.phase }, { on := 10, ground := Go.Ground.phase }, { on := 11, ground := Go.Ground.phase }, { on := 12, ground := Go.Ground.phase }], guard := none }) rfl (fun K hK => ?_) AllReadyH.nil
        have j0 := OB.c0
        have j1 := OB.c1
        have j2 := OB.f0
        have j3 := OB.f1
        have hbl3 : w.heap.size + 2 ≤ wS.heap.size := by omega
        have NT := ((NS.next hB16).set (o := 0) (u := .slice ad0 tt.length cd0) HR.out (show w.heap.size < wS.heap.size by omega)).set (o := 1) (u := .slice none 0 0) HR.out (show w.heap.size < wS.heap.size by omega)
        go_simp
        refine hK.out _ _ ?_ (fun hHeld => ?_)
        · exact ⟨NT.b0, NT.b1⟩
        clear hK K
        try simp only [Act.put, List.setIfInBounds_toArray, List.set_cons_zero, List.set_cons_succ]
        refine wpAnyH_done (by kernel_rfl) ?_ _
        have VL := ((VS.next hB16).set (o := 0) (u := .slice ad0 tt.length cd0) (show wS.heap.size ≠ w.heap.size + 1 by omega) ⟨_, OB.c0⟩).set (o := 1) (u := .slice none 0 0) (show wS.heap.size ≠ w.heap.size + 1 by omega) ⟨_, (OB.put0).c1⟩
        have OM := (OB.put0 (u := .slice ad0 tt.length cd0)).put1 (u := .slice none 0 0)
        have q0 := ((o1.setFar (b := wS.heap.size) (o := 0) (x := .slice ad0 tt.length cd0) (fun e => ne0 _ e rfl)).setFar (b := wS.heap.size) (o := 1) (x := .slice none 0 0) (fun e => ne0 _ e rfl)).base (B' := w.heap.size + 2) hzS
        have HNE := Lib.hid ne0
        clear j0 j1 j2 j3 OB hHeld NS VS HT HD KB ne0 hzb o1
        generalize (w15.setCell ⟨wS.heap.size, 0, none⟩ (.slice ad0 tt.length cd0)).setCell ⟨wS.heap.size, 1, none⟩ (.slice none 0 0) = WL at *
        generalize wS.heap.size = bo at *
        have h0 := NT.b0
        have h1 := NT.b1
        go_wp2
        go_loopw [40] (fun c wr => ∃ (k : Nat) (vc : Value), k ≤ m ∧ c = .int .i64 k ∧ NB w wr a0 n p0 a1 m p1 ts ls ∧ Var2 wr (w.heap.size + 1) (.slice none 0 0) (.slice none 0 0) ∧ Var2 wr bo (.slice ad0 tt.length cd0) vc ∧ OwnR 62 c3 3 wr (w.heap.size + 2) (.slice ad0 tt.length cd0) tt ∧ OwnR 53 c3 3 wr (bo + 1) vc (dropL (I : Int) (ls.take k))) (fun c wr => m - (intOf c).toNat)
        case atStart => exact ⟨0, _, Nat.zero_le _, rfl, NT, VL, OM, q0, OwnR.nil _ _⟩
        case round =>
          clear h0 h1 NT VL OM q0 
          obtain ⟨k, vc, hk, rfl, NK, VK, OK, qT, qL⟩ := hrel
          obtain ⟨avc, cvc, rfl, -⟩ := qL.rd.len
          obtain ⟨DL, hDL⟩ : ∃ DL, dropL (I : Int) (ls.take k) = DL := ⟨_, rfl⟩
          rw [hDL] at OK qL
          have HDLk := Lib.hid hDL
          clear hDL
          have h0 := NK.b0
          have h1 := NK.b1
          have j0 := OK.c0
          have j1 := OK.c1
          have hob := OK.lt
          by_cases hlt : k < m
          · obtain ⟨g, off, rfl, hg, e0, e1, e2⟩ := NK.rd.2.at3 HM.out k hlt
            have HDL : Hid (dropL (I : Int) (ls.take (k + 1)) = DL ++ dropOne (I : Int) (rAt ls k)) := Lib.hid (by rw [← HDLk.out]; exact dropL_take (by rw [← HM.out]; exact hlt))
            have HKL : Hid (DL.length ≤ 40) := Lib.hid (by rw [← HDLk.out]; have := dropL_len (I : Int) (ls.take k); simp at this; omega)
            have hln := HOK.out.lnk k (by rw [← HM.out]; exact hlt)
            rw [← HN.out] at hln
            have hl0 : 0 ≤ (rAt ls k).x0 ∧ (rAt ls k).x0 ≤ 16 := by omega
            have hl1 : 0 ≤ (rAt ls k).x1 ∧ (rAt ls k).x1 ≤ 16 := by omega
            have HD1 : Hid (dropOne (I : Int) (rAt ls k) = dropOne (I : Int) ⟨(rAt ls k).x0, (rAt ls k).x1, (rAt ls k).x2⟩) := Lib.hid rfl
            clear hln
            generalize (rAt ls k).x0 = x0 at *
            generalize (rAt ls k).x1 = x1 at *
            generalize (rAt ls k).x2 = x2 at *
            by_cases d0 : x0 = (I : Int)
            · have b0 : (x0 != (I : Int)) = false := by simpa using d0
              have E1 : Hid (dropL (I : Int) (ls.take (k + 1)) = DL) := Lib.hid (by rw [HDL.out, HD1.out]; simp [dropOne, d0])
              clear d0
              go_wp2
              go_roundw
              case rel => exact ⟨k + 1, _, by omega, by go_num, NK.next ((Below.refl wr.heap.size wr).alloc (Nat.le_refl _) (.cells #[.int .i64 x0, .int .i64 x1, .int .i64 x2] 53)), VK.next ((Below.refl wr.heap.size wr).alloc (Nat.le_refl _) (.cells #[.int .i64 x0, .int .i64 x1, .int .i64 x2] 53)), OK.next ((Below.refl wr.heap.size wr).alloc (Nat.le_refl _) (.cells #[.int .i64 x0, .int .i64 x1, .int .i64 x2] 53)), qT.later ((Below.refl wr.heap.size wr).alloc (Nat.le_refl _) (.cells #[.int .i64 x0, .int .i64 x1, .int .i64 x2] 53)), by rw [E1.out]; exact qL.later ((Below.refl wr.heap.size wr).alloc (Nat.le_refl _) (.cells #[.int .i64 x0, .int .i64 x1, .int .i64 x2] 53))⟩
              case measure => simp [intOf]; omega
            · have b0 : (x0 != (I : Int)) = true := by simpa using d0
              by_cases d1 : x1 = (I : Int)
              · have b1 : (x1 != (I : Int)) = false := by simpa using d1
                have E1 : Hid (dropL (I : Int) (ls.take (k + 1)) = DL) := Lib.hid (by rw [HDL.out, HD1.out]; simp [dropOne, d1])
                clear d0 d1
                go_wp2
                go_roundw
                case rel => exact ⟨k + 1, _, by omega, by go_num, NK.next ((Below.refl wr.heap.size wr).alloc (Nat.le_refl _) (.cells #[.int .i64 x0, .int .i64 x1, .int .i64 x2] 53)), VK.next ((Below.refl wr.heap.size wr).alloc (Nat.le_refl _) (.cells #[.int .i64 x0, .int .i64 x1, .int .i64 x2] 53)), OK.next ((Below.refl wr.heap.size wr).alloc (Nat.le_refl _) (.cells #[.int .i64 x0, .int .i64 x1, .int .i64 x2] 53)), qT.later ((Below.refl wr.heap.size wr).alloc (Nat.le_refl _) (.cells #[.int .i64 x0, .int .i64 x1, .int .i64 x2] 53)), by rw [E1.out]; exact qL.later ((Below.refl wr.heap.size wr).alloc (Nat.le_refl _) (.cells #[.int .i64 x0, .int .i64 x1, .int .i64 x2] 53))⟩
                case measure => simp [intOf]; omega
              · have b1 : (x1 != (I : Int)) = true := by simpa using d1
                have E1 : Hid (dropL (I : Int) (ls.take (k + 1)) = DL ++ [⟨dwx (I : Int) x0, dwx (I : Int) x1, x2⟩]) := Lib.hid (by rw [HDL.out, HD1.out]; simp [dropOne, d0, d1])
                have HL2 : Hid (DL.length + ([⟨dwx (I : Int) x0, dwx (I : Int) x1, x2⟩] : List T3).length ≤ 4194304) := Lib.hid (by have := HKL.out; simp; omega)
                have alA := ((Below.refl wr.heap.size wr).alloc (Nat.le_refl _) (.cells #[.int .i64 x0, .int .i64 x1, .int .i64 x2] 53))
                have NA := NK.next alA
                have VA := VK.next alA
                have OA := OK.next alA
                have XA := Box3.new wr (.int .i64 x0) (.int .i64 x1) (.int .i64 x2) 53
                have tA := qT.later alA
                have lA := qL.later alA
                have hXL : ∀ j, (Value.slice avc DL.length cvc).ownBlock = some j → j ≠ wr.heap.size := fun j hj => by have := (qL.lt j hj).2; omega
                have hwb : w.heap.size + 2 ≤ bo := hbl3
                clear d0 d1 alA
                go_wp2
                clear h0 h1 j0 j1 e0 e1 e2 b0 b1 NK VK OK qT qL
                generalize wr.alloc (.cells #[.int .i64 x0, .int .i64 x1, .int .i64 x2] 53) = WX at *
                refine wp_region_held_drew (S := (fun w' => w'.cell? ⟨wr.heap.size, 0, none⟩ = some (.int .i64 x0) ∧ w'.cell? ⟨wr.heap.size, 1, none⟩ = some (.int .i64 x1) ∧ w'.cell? ⟨wr.heap.size, 2, none⟩ = some (.int .i64 x2))) (by kernel_rfl) ?_ (fun hHeld => ?_)
                · exact ⟨(XA.next (Below.refl _ _).drew).c0, (XA.next (Below.refl _ _).drew).c1, (XA.next (Below.refl _ _).drew).c2⟩
                refine wpAnyH_name ?_
                intro wS hwS
                rw [← hwS] at hHeld
                have hbS := below_named hwS
                clear hwS
                have hB0 := Below.refl wS.heap.size wS
                have XB := XA.next hbS
                have OB := OA.next hbS
                have VB := VA.next hbS
                have NB8 := NA.next hbS
                have tB := tA.later hbS
                have lB := lA.later hbS
                have j0 := OB.c0
                have j1 := OB.c1
                have hzS8 : bo + 1 ≤ wS.heap.size := OB.lt
                have hzX : wr.heap.size + 1 ≤ wS.heap.size := XB.lt
                have KB : Hid (∀ y : World, Below wS.heap.size wS y → y.cell? ⟨wr.heap.size, 0, none⟩ = some (.int .i64 x0) ∧ y.cell? ⟨wr.heap.size, 1, none⟩ = some (.int .i64 x1) ∧ y.cell? ⟨wr.heap.size, 2, none⟩ = some (.int .i64 x2)) := Lib.hid fun y h => ⟨(XB.next h).c0, (XB.next h).c1, (XB.next h).c2⟩
                refine wpAnyH_take (i := 0) (oi := { dst := some 54, op := Go.Op.fieldAddr 31 (Go.Operand.tmp 6) 1, type := 0, pos := "l6_tower.go:169", after := #[], guard := none }) (v := ?_) rfl (by kernel_rfl) (by kernel_rfl) (by kernel_rfl) (fun _ _ _ h => h) (Or.inl ⟨by rfl, ?_⟩) (by assumption) ?_
                rotate_left
                · intro w hSw; (try dsimp only at hSw); go_simp; try with_reducible rfl
                try simp only [Act.put, List.setIfInBounds_toArray, List.set_cons_zero, List.set_cons_succ]
                refine wpAnyH_take (i := 2) (oi := { dst := some 56, op := Go.Op.fieldAddr 53 (Go.Operand.tmp 8) 0, type := 0, pos := "l6_tower.go:169", after := #[], guard := none }) (v := ?_) rfl (by kernel_rfl) (by kernel_rfl) (by kernel_rfl) (fun _ _ _ h => h) (Or.inl ⟨by rfl, ?_⟩) (by assumption) ?_
                rotate_left
                · intro w hSw; (try dsimp only at hSw); go_simp; try with_reducible rfl
                try simp only [Act.put, List.setIfInBounds_toArray, List.set_cons_zero, List.set_cons_succ]
                refine wpAnyH_take (i := 3) (oi := { dst := some 57, op := Go.Op.load 3 (Go.Operand.tmp 56), type := 3, pos := "l6_tower.go:169", after := #[{ on := 2, ground := Go.Ground.data }], guard := none }) (v := ?_) rfl (by kernel_rfl) (by kernel_rfl) (by kernel_rfl) (fun _ _ _ h => h) (Or.inl ⟨by rfl, ?_⟩) (by assumption) ?_
                rotate_left
                · intro w hSw; (try dsimp only at hSw); go_simp; try with_reducible rfl
                try simp only [Act.put, List.setIfInBounds_toArray, List.set_cons_zero, List.set_cons_succ]
                refine wpAnyH_take (i := 4) (oi := { dst := some 58, op := Go.Op.move (Go.Operand.tmp 1), type := 3, pos := "l6_tower.go:169", after := #[], guard := none }) (v := ?_) rfl (by kernel_rfl) (by kernel_rfl) (by kernel_rfl) (fun _ _ _ h => h) (Or.inl ⟨by rfl, ?_⟩) (by assumption) ?_
                rotate_left
                · intro w hSw; (try dsimp only at hSw); go_simp; try with_reducible rfl
                try simp only [Act.put, List.setIfInBounds_toArray, List.set_cons_zero, List.set_cons_succ]
                refine wpAnyH_take (i := 6) (oi := { dst := some 60, op := Go.Op.fieldAddr 53 (Go.Operand.tmp 8) 1, type := 0, pos := "l6_tower.go:169", after := #[], guard := none }) (v := ?_) rfl (by kernel_rfl) (by kernel_rfl) (by kernel_rfl) (fun _ _ _ h => h) (Or.inl ⟨by rfl, ?_⟩) (by assumption) ?_
                rotate_left
                · intro w hSw; (try dsimp only at hSw); go_simp; try with_reducible rfl
                try simp only [Act.put, List.setIfInBounds_toArray, List.set_cons_zero, List.set_cons_succ]
                refine wpAnyH_take (i := 7) (oi := { dst := some 61, op := Go.Op.load 3 (Go.Operand.tmp 60), type := 3, pos := "l6_tower.go:169", after := #[{ on := 6, ground := Go.Ground.data }], guard := none }) (v := ?_) rfl (by kernel_rfl) (by kernel_rfl) (by kernel_rfl) (fun _ _ _ h => h) (Or.inl ⟨by rfl, ?_⟩) (by assumption) ?_
                rotate_left
                · intro w hSw; (try dsimp only at hSw); go_simp; try with_reducible rfl
                try simp only [Act.put, List.setIfInBounds_toArray, List.set_cons_zero, List.set_cons_succ]
                refine wpAnyH_take (i := 8) (oi := { dst := some 62, op := Go.Op.move (Go.Operand.tmp 1), type := 3, pos := "l6_tower.go:169", after := #[], guard := none }) (v := ?_) rfl (by kernel_rfl) (by kernel_rfl) (by kernel_rfl) (fun _ _ _ h => h) (Or.inl ⟨by rfl, ?_⟩) (by assumption) ?_
                rotate_left
                · intro w hSw; (try dsimp only at hSw); go_simp; try with_reducible rfl
                try simp only [Act.put, List.setIfInBounds_toArray, List.set_cons_zero, List.set_cons_succ]
                refine wpAnyH_take (i := 10) (oi := { dst := some 64, op := Go.Op.fieldAddr 53 (Go.Operand.tmp 8) 2, type := 0, pos := "l6_tower.go:169", after := #[], guard := none }) (v := ?_) rfl (by kernel_rfl) (by kernel_rfl) (by kernel_rfl) (fun _ _ _ h => h) (Or.inl ⟨by rfl, ?_⟩) (by assumption) ?_
                rotate_left
                · intro w hSw; (try dsimp only at hSw); go_simp; try with_reducible rfl
                try simp only [Act.put, List.setIfInBounds_toArray, List.set_cons_zero, List.set_cons_succ]
                refine wpAnyH_take (i := 11) (oi := { dst := some 65, op := Go.Op.load 3 (Go.Operand.tmp 64), type := 3, pos := "l6_tower.go:169", after := #[{ on := 10, ground := Go.Ground.data }], guard := none }) (v := ?_) rfl (by kernel_rfl) (by kernel_rfl) (by kernel_rfl) (fun _ _ _ h => h) (Or.inl ⟨by rfl, ?_⟩) (by assumption) ?_
                rotate_left
                · intro w hSw; (try dsimp only at hSw); go_simp; try with_reducible rfl
                try simp only [Act.put, List.setIfInBounds_toArray, List.set_cons_zero, List.set_cons_succ]
                refine wpAnyH_ready (rs := [1, 5]) (by kernel_rfl) (by simp) ?_
                refine AllReadyH.cons (o := { dst := some 55, op := Go.Op.load 29 (Go.Operand.tmp 54), type := 29, pos := "l6_tower.go:169", after := #[{ on := 0, ground := Go.Ground.data }], guard := none }) rfl (fun K hK => ?_) ?_
                · go_simp
                  refine hK.out _ _ ?_ (fun hHeld => ?_)
                  · exact hHeld
                  clear hK K
                  try simp only [Act.put, List.setIfInBounds_toArray, List.set_cons_zero, List.set_cons_succ]
                  refine wpAnyH_ready (rs := [5]) (by kernel_rfl) (by simp) ?_
                  refine AllReadyH.cons (o := { dst := some 59, op := Go.Op.call { callee := Go.Callee.value (Go.Operand.func 75), args := #[Go.Operand.tmp 57, Go.Operand.tmp 58], argTypes := #[3, 3] }, type := 3, pos := "l6_tower.go:169", after := #[{ on := 3, ground := Go.Ground.data }, { on := 4, ground := Go.Ground.data }], guard := none }) rfl (fun K hK => ?_) AllReadyH.nil
                  go_simp
                  refine (numberWithout_any x0 (I : Int) _ (by omega)).mono ?_
                  rintro e w' ⟨rfl, rfl⟩
                  try go_simp
                  refine hK.out _ _ ?_ (fun hHeld => ?_)
                  · exact hHeld
                  clear hK K
                  try simp only [Act.put, List.setIfInBounds_toArray, List.set_cons_zero, List.set_cons_succ]
                  refine wpAnyH_ready (rs := [9]) (by kernel_rfl) (by simp) ?_
                  refine AllReadyH.cons (o := { dst := some 63, op := Go.Op.call { callee := Go.Callee.value (Go.Operand.func 75), args := #[Go.Operand.tmp 61, Go.Operand.tmp 62], argTypes := #[3, 3] }, type := 3, pos := "l6_tower.go:169", after := #[{ on := 7, ground := Go.Ground.data }, { on := 8, ground := Go.Ground.data }, { on := 5, ground := Go.Ground.chain }], guard := none }) rfl (fun K hK => ?_) AllReadyH.nil
                  go_simp
                  refine (numberWithout_any x1 (I : Int) _ (by omega)).mono ?_
                  rintro e w' ⟨rfl, rfl⟩
                  try go_simp
                  refine hK.out _ _ ?_ (fun hHeld => ?_)
                  · exact hHeld
                  clear hK K
                  try simp only [Act.put, List.setIfInBounds_toArray, List.set_cons_zero, List.set_cons_succ]
                  refine wpAnyH_take (i := 12) (oi := { dst := some 66, op := Go.Op.build 53 #[(0, Go.Operand.tmp 59), (1, Go.Operand.tmp 63), (2, Go.Operand.tmp 65)], type := 53, pos := "l6_tower.go:169", after := #[{ on := 5, ground := Go.Ground.data }, { on := 9, ground := Go.Ground.data }, { on := 11, ground := Go.Ground.data }], guard := none }) (v := ?_) rfl (by kernel_rfl) (by kernel_rfl) (by kernel_rfl) (fun _ _ _ h => h) (Or.inl ⟨by rfl, ?_⟩) (by assumption) ?_
                  rotate_left
                  · intro w hSw; (try dsimp only at hSw); go_simp; try with_reducible rfl
                  try simp only [Act.put, List.setIfInBounds_toArray, List.set_cons_zero, List.set_cons_succ]
                  refine wpAnyH_ready (rs := [13]) (by kernel_rfl) (by simp) ?_
                  refine AllReadyH.cons (o := { dst := some 67, op := Go.Op.buildSlice 29 1 #[(0, Go.Operand.tmp 66)], type := 29, pos := "l6_tower.go:169", after := #[{ on := 12, ground := Go.Ground.data }], guard := none }) rfl (fun K hK => ?_) AllReadyH.nil
                  go_simp
                  refine hK.out _ _ ?_ (fun hHeld => ?_)
                  · exact KB.out _ (hB0.alloc hB0.size _)
                  clear hK K
                  try simp only [Act.put, List.setIfInBounds_toArray, List.set_cons_zero, List.set_cons_succ]
                  refine wpAnyH_name ?_
                  intro w1 hw1
                  rw [← hw1] at hHeld
                  have hb1 := below_alloc hw1
                  have z1 := lt_named hw1
                  have b0 : w1.cell? ⟨wS.heap.size, 0, none⟩ = some (.int .i64 (dwx (I : Int) x0)) := by rw [hw1]; simp [go_sem]
                  have b1 : w1.cell? ⟨wS.heap.size, 1, none⟩ = some (.int .i64 (dwx (I : Int) x1)) := by rw [hw1]; simp [go_sem]
                  have b2 : w1.cell? ⟨wS.heap.size, 2, none⟩ = some (.int .i64 x2) := by rw [hw1]; simp [go_sem]
                  clear hw1
                  have tB := tB.later hb1
                  have lB := lB.later hb1
                  have j1 := bcell hb1 j1
                  have OB := OB.next hb1
                  have VB := VB.next hb1
                  have XB := XB.next hb1
                  have NB8 := NB8.next hb1
                  have hB2 := hB0.trans (hb1.mono hB0.size)
                  refine wpAnyH_ready (rs := [14]) (by kernel_rfl) (by simp) ?_
                  refine AllReadyH.cons (o := { dst := some 68, op := Go.Op.call { callee := Go.Callee.builtin Go.Builtin.append, args := #[Go.Operand.tmp 55, Go.Operand.tmp 67], argTypes := #[29, 29] }, type := 29, pos := "l6_tower.go:169", after := #[{ on := 1, ground := Go.Ground.data }, { on := 13, ground := Go.Ground.data }, { on := 9, ground := Go.Ground.chain }], guard := none }) rfl (fun K hK => ?_) AllReadyH.nil
                  have hzB : bo + 1 ≤ w1.heap.size := OB.lt
                  refine step_append_LinkS (by rfl) _ _ (by rfl) (bo + 1) _ _ DL [⟨dwx (I : Int) x0, dwx (I : Int) x1, x2⟩] (by rfl) (by rfl) lB (RdR.one3 (c := 1) ⟨dwx (I : Int) x0, dwx (I : Int) x1, x2⟩ (World.block_lt_of_cell? _ _ b0) (Nat.le_refl _) (by unfold maxLen; decide) b0 b1 b2) HL2.out hzB ?_
                  intro v3 w3 o2 hg2 hat3
                  rw [← E1.out] at o2
                  obtain ⟨ad2, cd2, rfl, -⟩ := o2.rd.len
                  have hB2 := (Below.refl (bo + 1) _).grown hg2 hzB (fun i hi => (lB.lt i hi).1)
                  have NB8 := NB8.grown HR.out hg2 (fun i hi => by have := (lB.lt i hi).1; omega)
                  have VB := VB.below hB2 (by omega) hzB
                  have OB := OB.below hB2 (by omega) hzB
                  have tB := tB.kept hg2 (row_apart tB lB (by decide))
                  have XB := XB.grownN hg2 (fun e => hXL _ e rfl)
                  clear j1 b0 b1 b2
                  have j5 := OB.c0
                  have j6 := OB.c1
                  have j7 := OB.f1
                  try go_simp
                  refine hK.out _ _ ?_ (fun hHeld => ?_)
                  · exact ⟨XB.c0, XB.c1, XB.c2⟩
                  clear hK K
                  try simp only [Act.put, List.setIfInBounds_toArray, List.set_cons_zero, List.set_cons_succ]
                  refine wpAnyH_take (i := 15) (oi := { dst := some 69, op := Go.Op.fieldAddr 31 (Go.Operand.tmp 6) 1, type := 0, pos := "l6_tower.go:169", after := #[{ on := 0, ground := Go.Ground.phase }, { on := 1, ground := Go.Ground.phase }, { on := 2, ground := Go.Ground.phase }, { on := 3, ground := Go.Ground.phase }, { on := 4, ground := Go.Ground.phase }, { on := 5, ground := Go.Ground.phase }, { on := 6, ground := Go.Ground.phase }, { on := 7, ground := Go.Ground.phase }, { on := 8, ground := Go.Ground.phase }, { on := 9, ground := Go.Ground.phase }, { on := 10, ground := Go.Ground.phase }, { on := 11, ground := Go.Ground.phase }, { on := 12, ground := Go.Ground.phase }, { on := 13, ground := Go.Ground.phase }, { on := 14, ground := Go.Ground.phase }], guard := none }) (v := ?_) rfl (by kernel_rfl) (by kernel_rfl) (by kernel_rfl) (fun _ _ _ h => h) (Or.inl ⟨by rfl, ?_⟩) (by assumption) ?_
                  rotate_left
                  · intro w hSw; (try dsimp only at hSw); go_simp; try with_reducible rfl
                  try simp only [Act.put, List.setIfInBounds_toArray, List.set_cons_zero, List.set_cons_succ]
                  refine wpAnyH_ready (rs := [16]) (by kernel_rfl) (by simp) ?_
                  refine AllReadyH.cons (o := { dst := none, op := Go.Op.store 29 (Go.Operand.tmp 69) (Go.Operand.tmp 68), type := 0, pos := "l6_tower.go:169", after := #[{ on := 15, ground := Go.Ground.data }, { on := 14, ground := Go.Ground.data }, { on := 14, ground := Go.Ground.chain }, { on := 0, ground := Go.Ground.phase }, { on := 1, ground := Go.Ground.phase }, { on := 2, ground := Go.Ground.phase }, { on := 3, ground := Go.Ground.phase }, { on := 4, ground := Go.Ground.phase }, { on := 5, ground := Go.Ground.phase }, { on := 6, ground := Go.Ground.phase }, { on := 7, ground := Go.Ground.phase }, { on := 8, ground := Go.Ground.phase }, { on := 9, ground := Go.Ground.phase }, { on := 10, ground := Go.Ground.phase }, { on := 11, ground := Go.Ground.phase }, { on := 12, ground := Go.Ground.phase }, { on := 13, ground := Go.Ground.phase }, { on := 14, ground := Go.Ground.phase }], guard := none }) rfl (fun K hK => ?_) AllReadyH.nil
                  have XS8 := XB.set (o := 1) (u := .slice ad2 (dropL (I : Int) (ls.take (k + 1))).length cd2) (show bo ≠ wr.heap.size by omega)
                  go_simp
                  refine hK.out _ _ ?_ (fun hHeld => ?_)
                  · exact ⟨XS8.c0, XS8.c1, XS8.c2⟩
                  clear hK K
                  try simp only [Act.put, List.setIfInBounds_toArray, List.set_cons_zero, List.set_cons_succ]
                  refine wpAnyH_done (by kernel_rfl) ?_ _
                  go_wp2
                  go_roundw
                  case rel => exact ⟨k + 1, _, by omega, by go_num, NB8.set HR.out (show w.heap.size < bo by omega), VB.set (show bo ≠ w.heap.size + 1 by omega) ⟨_, j6⟩, OB.put1, tB.setFar (fun e => HNE.out _ e rfl), o2.setFar (fun e => by have := (o2.lt _ e).1; omega)⟩
                  case measure => simp [intOf]; omega
                refine AllReadyH.cons (o := { dst := some 59, op := Go.Op.call { callee := Go.Callee.value (Go.Operand.func 75), args := #[Go.Operand.tmp 57, Go.Operand.tmp 58], argTypes := #[3, 3] }, type := 3, pos := "l6_tower.go:169", after := #[{ on := 3, ground := Go.Ground.data }, { on := 4, ground := Go.Ground.data }], guard := none }) rfl (fun K hK => ?_) AllReadyH.nil
                go_simp
                refine (numberWithout_any x0 (I : Int) _ (by omega)).mono ?_
                rintro e w' ⟨rfl, rfl⟩
                try go_simp
                refine hK.out _ _ ?_ (fun hHeld => ?_)
                · exact hHeld
                clear hK K
                try simp only [Act.put, List.setIfInBounds_toArray, List.set_cons_zero, List.set_cons_succ]
                refine wpAnyH_ready (rs := [1, 9]) (by kernel_rfl) (by simp) ?_
                refine AllReadyH.cons (o := { dst := some 55, op := Go.Op.load 29 (Go.Operand.tmp 54), type := 29, pos := "l6_tower.go:169", after := #[{ on := 0, ground := Go.Ground.data }], guard := none }) rfl (fun K hK => ?_) ?_
                · go_simp
                  refine hK.out _ _ ?_ (fun hHeld => ?_)
                  · exact hHeld
                  clear hK K
                  try simp only [Act.put, List.setIfInBounds_toArray, List.set_cons_zero, List.set_cons_succ]
                  refine wpAnyH_ready (rs := [9]) (by kernel_rfl) (by simp) ?_
                  refine AllReadyH.cons (o := { dst := some 63, op := Go.Op.call { callee := Go.Callee.value (Go.Operand.func 75), args := #[Go.Operand.tmp 61, Go.Operand.tmp 62], argTypes := #[3, 3] }, type := 3, pos := "l6_tower.go:169", after := #[{ on := 7, ground := Go.Ground.data }, { on := 8, ground := Go.Ground.data }, { on := 5, ground := Go.Ground.chain }], guard := none }) rfl (fun K hK => ?_) AllReadyH.nil
                  go_simp
                  refine (numberWithout_any x1 (I : Int) _ (by omega)).mono ?_
                  rintro e w' ⟨rfl, rfl⟩
                  try go_simp
                  refine hK.out _ _ ?_ (fun hHeld => ?_)
                  · exact hHeld
                  clear hK K
                  try simp only [Act.put, List.setIfInBounds_toArray, List.set_cons_zero, List.set_cons_succ]
                  refine wpAnyH_take (i := 12) (oi := { dst := some 66, op := Go.Op.build 53 #[(0, Go.Operand.tmp 59), (1, Go.Operand.tmp 63), (2, Go.Operand.tmp 65)], type := 53, pos := "l6_tower.go:169", after := #[{ on := 5, ground := Go.Ground.data }, { on := 9, ground := Go.Ground.data }, { on := 11, ground := Go.Ground.data }], guard := none }) (v := ?_) rfl (by kernel_rfl) (by kernel_rfl) (by kernel_rfl) (fun _ _ _ h => h) (Or.inl ⟨by rfl, ?_⟩) (by assumption) ?_
                  rotate_left
                  · intro w hSw; (try dsimp only at hSw); go_simp; try with_reducible rfl
                  try simp only [Act.put, List.setIfInBounds_toArray, List.set_cons_zero, List.set_cons_succ]
                  refine wpAnyH_ready (rs := [13]) (by kernel_rfl) (by simp) ?_
                  refine AllReadyH.cons (o := { dst := some 67, op := Go.Op.buildSlice 29 1 #[(0, Go.Operand.tmp 66)], type := 29, pos := "l6_tower.go:169", after := #[{ on := 12, ground := Go.Ground.data }], guard := none }) rfl (fun K hK => ?_) AllReadyH.nil
                  go_simp
                  refine hK.out _ _ ?_ (fun hHeld => ?_)
                  · exact KB.out _ (hB0.alloc hB0.size _)
                  clear hK K
                  try simp only [Act.put, List.setIfInBounds_toArray, List.set_cons_zero, List.set_cons_succ]
                  refine wpAnyH_name ?_
                  intro w4 hw4
                  rw [← hw4] at hHeld
                  have hb4 := below_alloc hw4
                  have z4 := lt_named hw4
                  have b0 : w4.cell? ⟨wS.heap.size, 0, none⟩ = some (.int .i64 (dwx (I : Int) x0)) := by rw [hw4]; simp [go_sem]
                  have b1 : w4.cell? ⟨wS.heap.size, 1, none⟩ = some (.int .i64 (dwx (I : Int) x1)) := by rw [hw4]; simp [go_sem]
                  have b2 : w4.cell? ⟨wS.heap.size, 2, none⟩ = some (.int .i64 x2) := by rw [hw4]; simp [go_sem]
                  clear hw4
                  have tB := tB.later hb4
                  have lB := lB.later hb4
                  have j1 := bcell hb4 j1
                  have OB := OB.next hb4
                  have VB := VB.next hb4
                  have XB := XB.next hb4
                  have NB8 := NB8.next hb4
                  have hB5 := hB0.trans (hb4.mono hB0.size)
                  refine wpAnyH_ready (rs := [14]) (by kernel_rfl) (by simp) ?_
                  refine AllReadyH.cons (o := { dst := some 68, op := Go.Op.call { callee := Go.Callee.builtin Go.Builtin.append, args := #[Go.Operand.tmp 55, Go.Operand.tmp 67], argTypes := #[29, 29] }, type := 29, pos := "l6_tower.go:169", after := #[{ on := 1, ground := Go.Ground.data }, { on := 13, ground := Go.Ground.data }, { on := 9, ground := Go.Ground.chain }], guard := none }) rfl (fun K hK => ?_) AllReadyH.nil
                  have hzB : bo + 1 ≤ w4.heap.size := OB.lt
                  refine step_append_LinkS (by rfl) _ _ (by rfl) (bo + 1) _ _ DL [⟨dwx (I : Int) x0, dwx (I : Int) x1, x2⟩] (by rfl) (by rfl) lB (RdR.one3 (c := 1) ⟨dwx (I : Int) x0, dwx (I : Int) x1, x2⟩ (World.block_lt_of_cell? _ _ b0) (Nat.le_refl _) (by unfold maxLen; decide) b0 b1 b2) HL2.out hzB ?_
                  intro v6 w6 o2 hg2 hat6
                  rw [← E1.out] at o2
                  obtain ⟨ad2, cd2, rfl, -⟩ := o2.rd.len
                  have hB2 := (Below.refl (bo + 1) _).grown hg2 hzB (fun i hi => (lB.lt i hi).1)
                  have NB8 := NB8.grown HR.out hg2 (fun i hi => by have := (lB.lt i hi).1; omega)
                  have VB := VB.below hB2 (by omega) hzB
                  have OB := OB.below hB2 (by omega) hzB
                  have tB := tB.kept hg2 (row_apart tB lB (by decide))
                  have XB := XB.grownN hg2 (fun e => hXL _ e rfl)
                  clear j1 b0 b1 b2
                  have j5 := OB.c0
                  have j6 := OB.c1
                  have j7 := OB.f1
                  try go_simp
                  refine hK.out _ _ ?_ (fun hHeld => ?_)
                  · exact ⟨XB.c0, XB.c1, XB.c2⟩
                  clear hK K
                  try simp only [Act.put, List.setIfInBounds_toArray, List.set_cons_zero, List.set_cons_succ]
                  refine wpAnyH_take (i := 15) (oi := { dst := some 69, op := Go.Op.fieldAddr 31 (Go.Operand.tmp 6) 1, type := 0, pos := "l6_tower.go:169", after := #[{ on := 0, ground := Go.Ground.phase }, { on := 1, ground := Go.Ground.phase }, { on := 2, ground := Go.Ground.phase }, { on := 3, ground := Go.Ground.phase }, { on := 4, ground := Go.Ground.phase }, { on := 5, ground := Go.Ground.phase }, { on := 6, ground := Go.Ground.phase }, { on := 7, ground := Go.Ground.phase }, { on := 8, ground := Go.Ground.phase }, { on := 9, ground := Go.Ground.phase }, { on := 10, ground := Go.Ground.phase }, { on := 11, ground := Go.Ground.phase }, { on := 12, ground := Go.Ground.phase }, { on := 13, ground := Go.Ground.phase }, { on := 14, ground := Go.Ground.phase }], guard := none }) (v := ?_) rfl (by kernel_rfl) (by kernel_rfl) (by kernel_rfl) (fun _ _ _ h => h) (Or.inl ⟨by rfl, ?_⟩) (by assumption) ?_
                  rotate_left
                  · intro w hSw; (try dsimp only at hSw); go_simp; try with_reducible rfl
                  try simp only [Act.put, List.setIfInBounds_toArray, List.set_cons_zero, List.set_cons_succ]
                  refine wpAnyH_ready (rs := [16]) (by kernel_rfl) (by simp) ?_
                  refine AllReadyH.cons (o := { dst := none, op := Go.Op.store 29 (Go.Operand.tmp 69) (Go.Operand.tmp 68), type := 0, pos := "l6_tower.go:169", after := #[{ on := 15, ground := Go.Ground.data }, { on := 14, ground := Go.Ground.data }, { on := 14, ground := Go.Ground.chain }, { on := 0, ground := Go.Ground.phase }, { on := 1, ground := Go.Ground.phase }, { on := 2, ground := Go.Ground.phase }, { on := 3, ground := Go.Ground.phase }, { on := 4, ground := Go.Ground.phase }, { on := 5, ground := Go.Ground.phase }, { on := 6, ground := Go.Ground.phase }, { on := 7, ground := Go.Ground.phase }, { on := 8, ground := Go.Ground.phase }, { on := 9, ground := Go.Ground.phase }, { on := 10, ground := Go.Ground.phase }, { on := 11, ground := Go.Ground.phase }, { on := 12, ground := Go.Ground.phase }, { on := 13, ground := Go.Ground.phase }, { on := 14, ground := Go.Ground.phase }], guard := none }) rfl (fun K hK => ?_) AllReadyH.nil
                  have XS8 := XB.set (o := 1) (u := .slice ad2 (dropL (I : Int) (ls.take (k + 1))).length cd2) (show bo ≠ wr.heap.size by omega)
                  go_simp
                  refine hK.out _ _ ?_ (fun hHeld => ?_)
                  · exact ⟨XS8.c0, XS8.c1, XS8.c2⟩
                  clear hK K
                  try simp only [Act.put, List.setIfInBounds_toArray, List.set_cons_zero, List.set_cons_succ]
                  refine wpAnyH_done (by kernel_rfl) ?_ _
                  go_wp2
                  go_roundw
                  case rel => exact ⟨k + 1, _, by omega, by go_num, NB8.set HR.out (show w.heap.size < bo by omega), VB.set (show bo ≠ w.heap.size + 1 by omega) ⟨_, j6⟩, OB.put1, tB.setFar (fun e => HNE.out _ e rfl), o2.setFar (fun e => by have := (o2.lt _ e).1; omega)⟩
                  case measure => simp [intOf]; omega
                refine AllReadyH.cons (o := { dst := some 63, op := Go.Op.call { callee := Go.Callee.value (Go.Operand.func 75), args := #[Go.Operand.tmp 61, Go.Operand.tmp 62], argTypes := #[3, 3] }, type := 3, pos := "l6_tower.go:169", after := #[{ on := 7, ground := Go.Ground.data }, { on := 8, ground := Go.Ground.data }, { on := 5, ground := Go.Ground.chain }], guard := none }) rfl (fun K hK => ?_) AllReadyH.nil
                go_simp
                refine (numberWithout_any x1 (I : Int) _ (by omega)).mono ?_
                rintro e w' ⟨rfl, rfl⟩
                try go_simp
                refine hK.out _ _ ?_ (fun hHeld => ?_)
                · exact hHeld
                clear hK K
                try simp only [Act.put, List.setIfInBounds_toArray, List.set_cons_zero, List.set_cons_succ]
                refine wpAnyH_take (i := 12) (oi := { dst := some 66, op := Go.Op.build 53 #[(0, Go.Operand.tmp 59), (1, Go.Operand.tmp 63), (2, Go.Operand.tmp 65)], type := 53, pos := "l6_tower.go:169", after := #[{ on := 5, ground := Go.Ground.data }, { on := 9, ground := Go.Ground.data }, { on := 11, ground := Go.Ground.data }], guard := none }) (v := ?_) rfl (by kernel_rfl) (by kernel_rfl) (by kernel_rfl) (fun _ _ _ h => h) (Or.inl ⟨by rfl, ?_⟩) (by assumption) ?_
                rotate_left
                · intro w hSw; (try dsimp only at hSw); go_simp; try with_reducible rfl
                try simp only [Act.put, List.setIfInBounds_toArray, List.set_cons_zero, List.set_cons_succ]
                refine wpAnyH_ready (rs := [1, 13]) (by kernel_rfl) (by simp) ?_
                refine AllReadyH.cons (o := { dst := some 55, op := Go.Op.load 29 (Go.Operand.tmp 54), type := 29, pos := "l6_tower.go:169", after := #[{ on := 0, ground := Go.Ground.data }], guard := none }) rfl (fun K hK => ?_) ?_
                · go_simp
                  refine hK.out _ _ ?_ (fun hHeld => ?_)
                  · exact hHeld
                  clear hK K
                  try simp only [Act.put, List.setIfInBounds_toArray, List.set_cons_zero, List.set_cons_succ]
                  refine wpAnyH_ready (rs := [13]) (by kernel_rfl) (by simp) ?_
                  refine AllReadyH.cons (o := { dst := some 67, op := Go.Op.buildSlice 29 1 #[(0, Go.Operand.tmp 66)], type := 29, pos := "l6_tower.go:169", after := #[{ on := 12, ground := Go.Ground.data }], guard := none }) rfl (fun K hK => ?_) AllReadyH.nil
                  go_simp
                  refine hK.out _ _ ?_ (fun hHeld => ?_)
                  · exact KB.out _ (hB0.alloc hB0.size _)
                  clear hK K
                  try simp only [Act.put, List.setIfInBounds_toArray, List.set_cons_zero, List.set_cons_succ]
                  refine wpAnyH_name ?_
                  intro w7 hw7
                  rw [← hw7] at hHeld
                  have hb7 := below_alloc hw7
                  have z7 := lt_named hw7
                  have b0 : w7.cell? ⟨wS.heap.size, 0, none⟩ = some (.int .i64 (dwx (I : Int) x0)) := by rw [hw7]; simp [go_sem]
                  have b1 : w7.cell? ⟨wS.heap.size, 1, none⟩ = some (.int .i64 (dwx (I : Int) x1)) := by rw [hw7]; simp [go_sem]
                  have b2 : w7.cell? ⟨wS.heap.size, 2, none⟩ = some (.int .i64 x2) := by rw [hw7]; simp [go_sem]
                  clear hw7
                  have tB := tB.later hb7
                  have lB := lB.later hb7
                  have j1 := bcell hb7 j1
                  have OB := OB.next hb7
                  have VB := VB.next hb7
                  have XB := XB.next hb7
                  have NB8 := NB8.next hb7
                  have hB8 := hB0.trans (hb7.mono hB0.size)
                  refine wpAnyH_ready (rs := [14]) (by kernel_rfl) (by simp) ?_
                  refine AllReadyH.cons (o := { dst := some 68, op := Go.Op.call { callee := Go.Callee.builtin Go.Builtin.append, args := #[Go.Operand.tmp 55, Go.Operand.tmp 67], argTypes := #[29, 29] }, type := 29, pos := "l6_tower.go:169", after := #[{ on := 1, ground := Go.Ground.data }, { on := 13, ground := Go.Ground.data }, { on := 9, ground := Go.Ground.chain }], guard := none }) rfl (fun K hK => ?_) AllReadyH.nil
                  have hzB : bo + 1 ≤ w7.heap.size := OB.lt
                  refine step_append_LinkS (by rfl) _ _ (by rfl) (bo + 1) _ _ DL [⟨dwx (I : Int) x0, dwx (I : Int) x1, x2⟩] (by rfl) (by rfl) lB (RdR.one3 (c := 1) ⟨dwx (I : Int) x0, dwx (I : Int) x1, x2⟩ (World.block_lt_of_cell? _ _ b0) (Nat.le_refl _) (by unfold maxLen; decide) b0 b1 b2) HL2.out hzB ?_
                  intro v9 w9 o2 hg2 hat9
                  rw [← E1.out] at o2
                  obtain ⟨ad2, cd2, rfl, -⟩ := o2.rd.len
                  have hB2 := (Below.refl (bo + 1) _).grown hg2 hzB (fun i hi => (lB.lt i hi).1)
                  have NB8 := NB8.grown HR.out hg2 (fun i hi => by have := (lB.lt i hi).1; omega)
                  have VB := VB.below hB2 (by omega) hzB
                  have OB := OB.below hB2 (by omega) hzB
                  have tB := tB.kept hg2 (row_apart tB lB (by decide))
                  have XB := XB.grownN hg2 (fun e => hXL _ e rfl)
                  clear j1 b0 b1 b2
                  have j5 := OB.c0
                  have j6 := OB.c1
                  have j7 := OB.f1
                  try go_simp
                  refine hK.out _ _ ?_ (fun hHeld => ?_)
                  · exact ⟨XB.c0, XB.c1, XB.c2⟩
                  clear hK K
                  try simp only [Act.put, List.setIfInBounds_toArray, List.set_cons_zero, List.set_cons_succ]
                  refine wpAnyH_take (i := 15) (oi := { dst := some 69, op := Go.Op.fieldAddr 31 (Go.Operand.tmp 6) 1, type := 0, pos := "l6_tower.go:169", after := #[{ on := 0, ground := Go.Ground.phase }, { on := 1, ground := Go.Ground.phase }, { on := 2, ground := Go.Ground.phase }, { on := 3, ground := Go.Ground.phase }, { on := 4, ground := Go.Ground.phase }, { on := 5, ground := Go.Ground.phase }, { on := 6, ground := Go.Ground.phase }, { on := 7, ground := Go.Ground.phase }, { on := 8, ground := Go.Ground.phase }, { on := 9, ground := Go.Ground.phase }, { on := 10, ground := Go.Ground.phase }, { on := 11, ground := Go.Ground.phase }, { on := 12, ground := Go.Ground.phase }, { on := 13, ground := Go.Ground.phase }, { on := 14, ground := Go.Ground.phase }], guard := none }) (v := ?_) rfl (by kernel_rfl) (by kernel_rfl) (by kernel_rfl) (fun _ _ _ h => h) (Or.inl ⟨by rfl, ?_⟩) (by assumption) ?_
                  rotate_left
                  · intro w hSw; (try dsimp only at hSw); go_simp; try with_reducible rfl
                  try simp only [Act.put, List.setIfInBounds_toArray, List.set_cons_zero, List.set_cons_succ]
                  refine wpAnyH_ready (rs := [16]) (by kernel_rfl) (by simp) ?_
                  refine AllReadyH.cons (o := { dst := none, op := Go.Op.store 29 (Go.Operand.tmp 69) (Go.Operand.tmp 68), type := 0, pos := "l6_tower.go:169", after := #[{ on := 15, ground := Go.Ground.data }, { on := 14, ground := Go.Ground.data }, { on := 14, ground := Go.Ground.chain }, { on := 0, ground := Go.Ground.phase }, { on := 1, ground := Go.Ground.phase }, { on := 2, ground := Go.Ground.phase }, { on := 3, ground := Go.Ground.phase }, { on := 4, ground := Go.Ground.phase }, { on := 5, ground := Go.Ground.phase }, { on := 6, ground := Go.Ground.phase }, { on := 7, ground := Go.Ground.phase }, { on := 8, ground := Go.Ground.phase }, { on := 9, ground := Go.Ground.phase }, { on := 10, ground := Go.Ground.phase }, { on := 11, ground := Go.Ground.phase }, { on := 12, ground := Go.Ground.phase }, { on := 13, ground := Go.Ground.phase }, { on := 14, ground := Go.Ground.phase }], guard := none }) rfl (fun K hK => ?_) AllReadyH.nil
                  have XS8 := XB.set (o := 1) (u := .slice ad2 (dropL (I : Int) (ls.take (k + 1))).length cd2) (show bo ≠ wr.heap.size by omega)
                  go_simp
                  refine hK.out _ _ ?_ (fun hHeld => ?_)
                  · exact ⟨XS8.c0, XS8.c1, XS8.c2⟩
                  clear hK K
                  try simp only [Act.put, List.setIfInBounds_toArray, List.set_cons_zero, List.set_cons_succ]
                  refine wpAnyH_done (by kernel_rfl) ?_ _
                  go_wp2
                  go_roundw
                  case rel => exact ⟨k + 1, _, by omega, by go_num, NB8.set HR.out (show w.heap.size < bo by omega), VB.set (show bo ≠ w.heap.size + 1 by omega) ⟨_, j6⟩, OB.put1, tB.setFar (fun e => HNE.out _ e rfl), o2.setFar (fun e => by have := (o2.lt _ e).1; omega)⟩
                  case measure => simp [intOf]; omega
                refine AllReadyH.cons (o := { dst := some 67, op := Go.Op.buildSlice 29 1 #[(0, Go.Operand.tmp 66)], type := 29, pos := "l6_tower.go:169", after := #[{ on := 12, ground := Go.Ground.data }], guard := none }) rfl (fun K hK => ?_) AllReadyH.nil
                go_simp
                refine hK.out _ _ ?_ (fun hHeld => ?_)
                · exact KB.out _ (hB0.alloc hB0.size _)
                clear hK K
                try simp only [Act.put, List.setIfInBounds_toArray, List.set_cons_zero, List.set_cons_succ]
                refine wpAnyH_name ?_
                intro w10 hw10
                rw [← hw10] at hHeld
                have hb10 := below_alloc hw10
                have z10 := lt_named hw10
                have b0 : w10.cell? ⟨wS.heap.size, 0, none⟩ = some (.int .i64 (dwx (I : Int) x0)) := by rw [hw10]; simp [go_sem]
                have b1 : w10.cell? ⟨wS.heap.size, 1, none⟩ = some (.int .i64 (dwx (I : Int) x1)) := by rw [hw10]; simp [go_sem]
                have b2 : w10.cell? ⟨wS.heap.size, 2, none⟩ = some (.int .i64 x2) := by rw [hw10]; simp [go_sem]
                clear hw10
                have tB := tB.later hb10
                have lB := lB.later hb10
                have j1 := bcell hb10 j1
                have OB := OB.next hb10
                have VB := VB.next hb10
                have XB := XB.next hb10
                have NB8 := NB8.next hb10
                have hB11 := hB0.trans (hb10.mono hB0.size)
                refine wpAnyH_ready (rs := [1]) (by kernel_rfl) (by simp) ?_
                refine AllReadyH.cons (o := { dst := some 55, op := Go.Op.load 29 (Go.Operand.tmp 54), type := 29, pos := "l6_tower.go:169", after := #[{ on := 0, ground := Go.Ground.data }], guard := none }) rfl (fun K hK => ?_) AllReadyH.nil
                go_simp
                refine hK.out _ _ ?_ (fun hHeld => ?_)
                · exact hHeld
                clear hK K
                try simp only [Act.put, List.setIfInBounds_toArray, List.set_cons_zero, List.set_cons_succ]
                refine wpAnyH_ready (rs := [14]) (by kernel_rfl) (by simp) ?_
                refine AllReadyH.cons (o := { dst := some 68, op := Go.Op.call { callee := Go.Callee.builtin Go.Builtin.append, args := #[Go.Operand.tmp 55, Go.Operand.tmp 67], argTypes := #[29, 29] }, type := 29, pos := "l6_tower.go:169", after := #[{ on := 1, ground := Go.Ground.data }, { on := 13, ground := Go.Ground.data }, { on := 9, ground := Go.Ground.chain }], guard := none }) rfl (fun K hK => ?_) AllReadyH.nil
                have hzB : bo + 1 ≤ w10.heap.size := OB.lt
                refine step_append_LinkS (by rfl) _ _ (by rfl) (bo + 1) _ _ DL [⟨dwx (I : Int) x0, dwx (I : Int) x1, x2⟩] (by rfl) (by rfl) lB (RdR.one3 (c := 1) ⟨dwx (I : Int) x0, dwx (I : Int) x1, x2⟩ (World.block_lt_of_cell? _ _ b0) (Nat.le_refl _) (by unfold maxLen; decide) b0 b1 b2) HL2.out hzB ?_
                intro v12 w12 o2 hg2 hat12
                rw [← E1.out] at o2
                obtain ⟨ad2, cd2, rfl, -⟩ := o2.rd.len
                have hB2 := (Below.refl (bo + 1) _).grown hg2 hzB (fun i hi => (lB.lt i hi).1)
                have NB8 := NB8.grown HR.out hg2 (fun i hi => by have := (lB.lt i hi).1; omega)
                have VB := VB.below hB2 (by omega) hzB
                have OB := OB.below hB2 (by omega) hzB
                have tB := tB.kept hg2 (row_apart tB lB (by decide))
                have XB := XB.grownN hg2 (fun e => hXL _ e rfl)
                clear j1 b0 b1 b2
                have j5 := OB.c0
                have j6 := OB.c1
                have j7 := OB.f1
                try go_simp
                refine hK.out _ _ ?_ (fun hHeld => ?_)
                · exact ⟨XB.c0, XB.c1, XB.c2⟩
                clear hK K
                try simp only [Act.put, List.setIfInBounds_toArray, List.set_cons_zero, List.set_cons_succ]
                refine wpAnyH_take (i := 15) (oi := { dst := some 69, op := Go.Op.fieldAddr 31 (Go.Operand.tmp 6) 1, type := 0, pos := "l6_tower.go:169", after := #[{ on := 0, ground := Go.Ground.phase }, { on := 1, ground := Go.Ground.phase }, { on := 2, ground := Go.Ground.phase }, { on := 3, ground := Go.Ground.phase }, { on := 4, ground := Go.Ground.phase }, { on := 5, ground := Go.Ground.phase }, { on := 6, ground := Go.Ground.phase }, { on := 7, ground := Go.Ground.phase }, { on := 8, ground := Go.Ground.phase }, { on := 9, ground := Go.Ground.phase }, { on := 10, ground := Go.Ground.phase }, { on := 11, ground := Go.Ground.phase }, { on := 12, ground := Go.Ground.phase }, { on := 13, ground := Go.Ground.phase }, { on := 14, ground := Go.Ground.phase }], guard := none }) (v := ?_) rfl (by kernel_rfl) (by kernel_rfl) (by kernel_rfl) (fun _ _ _ h => h) (Or.inl ⟨by rfl, ?_⟩) (by assumption) ?_
                rotate_left
                · intro w hSw; (try dsimp only at hSw); go_simp; try with_reducible rfl
                try simp only [Act.put, List.setIfInBounds_toArray, List.set_cons_zero, List.set_cons_succ]
                refine wpAnyH_ready (rs := [16]) (by kernel_rfl) (by simp) ?_
                refine AllReadyH.cons (o := { dst := none, op := Go.Op.store 29 (Go.Operand.tmp 69) (Go.Operand.tmp 68), type := 0, pos := "l6_tower.go:169", after := #[{ on := 15, ground := Go.Ground.data }, { on := 14, ground := Go.Ground.data }, { on := 14, ground := Go.Ground.chain }, { on := 0, ground := Go.Ground.phase }, { on := 1, ground := Go.Ground.phase }, { on := 2, ground := Go.Ground.phase }, { on := 3, ground := Go.Ground.phase }, { on := 4, ground := Go.Ground.phase }, { on := 5, ground := Go.Ground.phase }, { on := 6, ground := Go.Ground.phase }, { on := 7, ground := Go.Ground.phase }, { on := 8, ground := Go.Ground.phase }, { on := 9, ground := Go.Ground.phase }, { on := 10, ground := Go.Ground.phase }, { on := 11, ground := Go.Ground.phase }, { on := 12, ground := Go.Ground.phase }, { on := 13, ground := Go.Ground.phase }, { on := 14, ground := Go.Ground.phase }], guard := none }) rfl (fun K hK => ?_) AllReadyH.nil
                have XS8 := XB.set (o := 1) (u := .slice ad2 (dropL (I : Int) (ls.take (k + 1))).length cd2) (show bo ≠ wr.heap.size by omega)
                go_simp
                refine hK.out _ _ ?_ (fun hHeld => ?_)
                · exact ⟨XS8.c0, XS8.c1, XS8.c2⟩
                clear hK K
                try simp only [Act.put, List.setIfInBounds_toArray, List.set_cons_zero, List.set_cons_succ]
                refine wpAnyH_done (by kernel_rfl) ?_ _
                go_wp2
                go_roundw
                case rel => exact ⟨k + 1, _, by omega, by go_num, NB8.set HR.out (show w.heap.size < bo by omega), VB.set (show bo ≠ w.heap.size + 1 by omega) ⟨_, j6⟩, OB.put1, tB.setFar (fun e => HNE.out _ e rfl), o2.setFar (fun e => by have := (o2.lt _ e).1; omega)⟩
                case measure => simp [intOf]; omega
          · obtain rfl : k = m := by omega
            have HQ : Hid (DL = dropL (I : Int) ls) := Lib.hid (by rw [← HDLk.out, HM.out, List.take_length])
            have r0 := VK.c0
            have r1 := VK.c1
            have s0 := VK.f0
            have s1 := VK.f1
            have sz := VK.lt
            go_wp2
            refine bodyPost_ret (v := .tuple #[.agg #[.slice ad0 tt.length cd0, .slice avc DL.length cvc], .bool true]) (by simp [results, Try.results41, go_sem, r0, r1, s0, s1, j0, j1, sz]) rfl ⟨_, _, by rw [HF.out.1], ?_, ?_⟩
            · rw [HF.out.2.1, HF.out.2.2, HTT.out, ← HQ.out]
              have u0 := ((qT.setFar (b := w.heap.size + 1) (o := 0) (x := .slice ad0 tt.length cd0) (fun e => by have := (qT.lt _ e).1; omega)).setFar (b := w.heap.size + 1) (o := 1) (x := .slice avc DL.length cvc) (fun e => by have := (qT.lt _ e).1; omega)).base (B' := w.heap.size) (by omega)
              have u1 := ((qL.setFar (b := w.heap.size + 1) (o := 0) (x := .slice ad0 tt.length cd0) (fun e => by have := (qL.lt _ e).1; omega)).setFar (b := w.heap.size + 1) (o := 1) (x := .slice avc DL.length cvc) (fun e => by have := (qL.lt _ e).1; omega)).base (B' := w.heap.size) (by omega)
              exact ⟨⟨u0, fun k hk => (u0.lt k hk).2⟩, ⟨u1, fun k hk => (u1.lt k hk).2⟩⟩
            · exact (NK.below.setCell (p := ⟨w.heap.size + 1, 0, none⟩) (by show w.heap.size ≤ w.heap.size + 1; omega) _).setCell (p := ⟨w.heap.size + 1, 1, none⟩) (by show w.heap.size ≤ w.heap.size + 1; omega) _
end Go.Proofs.Yteickcpmicifgaa
