/- Chapter 6: DropTower of the model. Written by a generator of this claim's author. -/
import Derived.Test.YteickcpmicifgaaNeJ
namespace Go.Proofs.Yteickcpmicifgaa
open Go.RowKit Go.Sort
set_option linter.unusedSimpArgs false
set_option linter.unusedVariables false

theorem Var2.below {W W' : World} {C b : Nat} {q0 q1 : Value} (h : Var2 W b q0 q1) (hb : Below C W W') (hC : b < C) (hz : C ≤ W.heap.size) : Var2 W' b q0 q1 :=
  ⟨Nat.lt_of_lt_of_le h.lt hb.size, by rw [hb.cell (p := ⟨b, 0, none⟩) hC]; exact h.c0, by rw [hb.cell (p := ⟨b, 1, none⟩) hC]; exact h.c1, by rw [hb.frozen (p := ⟨b, 0, none⟩) hC]; exact h.f0, by rw [hb.frozen (p := ⟨b, 1, none⟩) hC]; exact h.f1⟩
/-- The number of a tower when another one is left out. -/
def dwx (i a : Int) : Int := if a > i then a - 1 else a
def dropOne (i : Int) (x : T3) : List T3 := if x.x0 = i ∨ x.x1 = i then [] else [⟨dwx i x.x0, dwx i x.x1, x.x2⟩]
def dropL (i : Int) (ls : List T3) : List T3 := ls.flatMap (dropOne i)
theorem dropL_len (i : Int) (ls : List T3) : (dropL i ls).length ≤ ls.length := by
  induction ls with
  | nil => simp [dropL]
  | cons x xs ih =>
    have : (dropOne i x).length ≤ 1 := by unfold dropOne; split <;> simp
    unfold dropL at *
    rw [List.flatMap_cons, List.length_append, List.length_cons]
    omega
theorem dropL_take {i : Int} {ls : List T3} {k : Nat} (hk : k < ls.length) : dropL i (ls.take (k + 1)) = dropL i (ls.take k) ++ dropOne i (rAt ls k) := by
  unfold dropL
  rw [List.take_succ_eq_append_getElem hk, List.flatMap_append]
  simp [rAt, hk]
def dpC (ts ls : List T3) (i : Int) : Bool := hasB ts ls i && decide (ts.length ≠ 1)
def dpT (ts ls : List T3) (i : Int) : List T3 := if dpC ts ls i then ts.take i.toNat ++ ts.drop (i.toNat + 1) else []
def dpR (ts ls : List T3) (i : Int) : List T3 := if dpC ts ls i then dropL i ls else []
theorem dp_f {ts ls : List T3} {i : Int} (h : dpC ts ls i = false) : dpC ts ls i = false ∧ dpT ts ls i = [] ∧ dpR ts ls i = [] := by simp [dpT, dpR, h]
theorem dp_f0 {ts ls : List T3} {i : Int} (h : hasB ts ls i = false) : dpC ts ls i = false ∧ dpT ts ls i = [] ∧ dpR ts ls i = [] := dp_f (by unfold dpC; rw [h]; rfl)
theorem dp_f1 {ts ls : List T3} {i : Int} (h : ts.length = 1) : dpC ts ls i = false ∧ dpT ts ls i = [] ∧ dpR ts ls i = [] := dp_f (by unfold dpC; simp [h])
theorem dp_t {ts ls : List T3} {I : Nat} (h : hasB ts ls (I : Int) = true) (h' : ts.length ≠ 1) : dpC ts ls (I : Int) = true ∧ dpT ts ls (I : Int) = ts.take I ++ ts.drop (I + 1) ∧ dpR ts ls (I : Int) = dropL (I : Int) ls := by
  have h1 : dpC ts ls (I : Int) = true := by unfold dpC; rw [h]; simp [h']
  refine ⟨h1, ?_, ?_⟩ <;> simp [dpT, dpR, h1]
theorem dp_small (ts ls : List T3) (i : Int) : (dpT ts ls i).length ≤ 16 ∧ (dpR ts ls i).length ≤ 40 := by
  unfold dpT dpR
  split
  · rename_i h
    unfold dpC at h
    rw [Bool.and_eq_true] at h
    have hok := (hasB_ok h.1).1
    have h1 := hok.t16
    have h2 := hok.l40
    have := dropL_len i ls
    constructor
    · simp; omega
    · omega
  · simp

theorem Var2.grownN {W W' : World} {b : Nat} {q0 q1 : Value} {row : Option Nat} (h : Var2 W b q0 q1) (hg : W.grownBy W' row) (hne : row ≠ some b) : Var2 W' b q0 q1 := by
  have hb : W'.heap[b]? = W.heap[b]? := hg.block b h.lt (fun e => hne e.symm)
  have hc : ∀ o, W'.cell? ⟨b, o, none⟩ = W.cell? ⟨b, o, none⟩ := fun o => by unfold World.cell?; rw [show W'.heap[(⟨b, o, none⟩ : Addr).block]? = W.heap[(⟨b, o, none⟩ : Addr).block]? from hb]
  have hf : ∀ o, W'.frozen? ⟨b, o, none⟩ = W.frozen? ⟨b, o, none⟩ := fun o => by unfold World.frozen?; rw [show W'.heap[(⟨b, o, none⟩ : Addr).block]? = W.heap[(⟨b, o, none⟩ : Addr).block]? from hb]
  exact ⟨Nat.lt_of_lt_of_le h.lt hg.size, by rw [hc]; exact h.c0, by rw [hc]; exact h.c1, by rw [hf]; exact h.f0, by rw [hf]; exact h.f1⟩
set_option maxRecDepth 100000 in
set_option maxHeartbeats 16000000 in
theorem specDropTower_any (c0 c1 : Value) (ts ls : List T3) (i : Int) (w : World) (hr : RdN w c0 c1 ts ls) :
    Calls Try.prog 40 #[.agg #[c0, c1], .int .i64 i] w fun e w' => ∃ v0 v1, e = .returned (.tuple #[.agg #[v0, v1], .bool (dpC ts ls i)]) ∧ OwnN w' w.heap.size w'.heap.size v0 v1 (dpT ts ls i) (dpR ts ls i) ∧ Below w.heap.size w w' := by
  obtain ⟨a0, p0, rfl, hp0⟩ := hr.1.len
  obtain ⟨a1, p1, rfl, hp1⟩ := hr.2.len
  obtain ⟨n, hn⟩ : ∃ n, n = ts.length := ⟨_, rfl⟩
  obtain ⟨m, hm⟩ : ∃ m, m = ls.length := ⟨_, rfl⟩
  have hm0 : (ts.length : Int) ≤ 9223372036854775807 := by have := hr.1.max; unfold maxLen at this; omega
  have hm1 : (ls.length : Int) ≤ 9223372036854775807 := by have := hr.2.max; unfold maxLen at this; omega
  rw [← hn] at hr hp0 hm0
  rw [← hm] at hr hp1 hm1
  rw [← hn, ← hm]
  have HN := Lib.hid hn
  have HM := Lib.hid hm
  clear hn hm
  have N0 := (NB.start hr 31).alloc (.cells #[.slice none 0 0, .slice none 0 0] 31)
  have V0 := Var2.new (w.alloc (.cells #[.slice a0 n p0, .slice a1 m p1] 31)) (.slice none 0 0) (.slice none 0 0) 31
  have hsz : ((w.alloc (.cells #[.slice a0 n p0, .slice a1 m p1] 31)).alloc (.cells #[.slice none 0 0, .slice none 0 0] 31)).heap.size = w.heap.size + 2 := by simp
  simp only [World.size_alloc] at V0
  have HR := Lib.hid hr
  clear hr
  cases c0 : hasB ts ls i with
  | false =>
    have H0 := Lib.hid c0
    have HF := Lib.hid (dp_f0 c0)
    clear c0
    have h0 := N0.b0
    have h1 := N0.b1
    have r0 := V0.c0
    have r1 := V0.c1
    have s0 := V0.f0
    have s1 := V0.f1
    go_enter Try.func40, Try.ntmps40
    go_wp2_with fail
    generalize (w.alloc (.cells #[.slice a0 n p0, .slice a1 m p1] 31)).alloc (.cells #[.slice none 0 0, .slice none 0 0] 31) = W at *
    refine (neHas_b _ _ ts ls _ _ N0.rd H0.out).mono ?_
    rintro e w1 ⟨rfl, hb1⟩
    have N1 := N0.next hb1
    have V1 := V0.next hb1
    have hz1 : w.heap.size + 2 ≤ w1.heap.size := by have := hb1.size; omega
    clear h0 h1 r0 r1 s0 s1
    have h0 := N1.b0
    have h1 := N1.b1
    have r0 := V1.c0
    have r1 := V1.c1
    have s0 := V1.f0
    have s1 := V1.f1
    go_wp2
    refine bodyPost_ret (v := .tuple #[.agg #[.slice none 0 0, .slice none 0 0], .bool false]) (by simp [results, Try.results40, go_sem, r0, r1, s0, s1, *]) rfl ⟨.slice none 0 0, .slice none 0 0, by rw [HF.out.1], by rw [HF.out.2.1, HF.out.2.2]; exact OwnN.nil _ _ _, ?_⟩
    exact (N1.below.setCell (p := ⟨w.heap.size + 1, 0, none⟩) (by show w.heap.size ≤ w.heap.size + 1; omega) _).setCell (p := ⟨w.heap.size + 1, 1, none⟩) (by show w.heap.size ≤ w.heap.size + 1; omega) _
  | true =>
    obtain ⟨I, hIe⟩ : ∃ I : Nat, i = (I : Int) := ⟨i.toNat, by have := (hasB_ok c0).2; omega⟩
    subst hIe
    have H0 := Lib.hid c0
    have HOK := Lib.hid (hasB_ok c0).1
    have hIn : I < n := by have := (hasB_ok c0).2; rw [HN.out]; omega
    have hn16 : n ≤ 16 := by have := HOK.out.t16; rw [HN.out]; exact this
    have hm40 : m ≤ 40 := by have := HOK.out.l40; rw [HM.out]; exact this
    clear c0
    by_cases hn1 : n = 1
    · have HF := Lib.hid (dp_f1 (ts := ts) (ls := ls) (i := (I : Int)) (by rw [← HN.out]; exact hn1))
      have d1 : ((n : Int) == 1) = true := by rw [beq_iff_eq]; omega
      clear hn1
      have h0 := N0.b0
      have h1 := N0.b1
      have r0 := V0.c0
      have r1 := V0.c1
      have s0 := V0.f0
      have s1 := V0.f1
      go_enter Try.func40, Try.ntmps40
      go_wp2_with fail
      generalize (w.alloc (.cells #[.slice a0 n p0, .slice a1 m p1] 31)).alloc (.cells #[.slice none 0 0, .slice none 0 0] 31) = W at *
      refine (neHas_b _ _ ts ls _ _ N0.rd H0.out).mono ?_
      rintro e w1 ⟨rfl, hb1⟩
      have N1 := N0.next hb1
      have V1 := V0.next hb1
      have hz1 : w.heap.size + 2 ≤ w1.heap.size := by have := hb1.size; omega
      clear h0 h1 r0 r1 s0 s1
      have h0 := N1.b0
      have h1 := N1.b1
      have r0 := V1.c0
      have r1 := V1.c1
      have s0 := V1.f0
      have s1 := V1.f1
      go_wp2
      refine bodyPost_ret (v := .tuple #[.agg #[.slice none 0 0, .slice none 0 0], .bool false]) (by simp [results, Try.results40, go_sem, r0, r1, s0, s1, *]) rfl ⟨.slice none 0 0, .slice none 0 0, by rw [HF.out.1], by rw [HF.out.2.1, HF.out.2.2]; exact OwnN.nil _ _ _, ?_⟩
      exact (N1.below.setCell (p := ⟨w.heap.size + 1, 0, none⟩) (by show w.heap.size ≤ w.heap.size + 1; omega) _).setCell (p := ⟨w.heap.size + 1, 1, none⟩) (by show w.heap.size ≤ w.heap.size + 1; omega) _
    · have HF := Lib.hid (dp_t (ts := ts) (ls := ls) H0.out (by rw [← HN.out]; exact hn1))
      have d1 : ((n : Int) == 1) = false := by rw [beq_eq_false_iff_ne]; omega
      clear hn1
      have h0 := N0.b0
      have h1 := N0.b1
      have r0 := V0.c0
      have r1 := V0.c1
      have s0 := V0.f0
      have s1 := V0.f1
      go_enter Try.func40, Try.ntmps40
      go_wp2_with fail
      generalize (w.alloc (.cells #[.slice a0 n p0, .slice a1 m p1] 31)).alloc (.cells #[.slice none 0 0, .slice none 0 0] 31) = W at *
      refine (neHas_b _ _ ts ls _ _ N0.rd H0.out).mono ?_
      rintro e w1 ⟨rfl, hb1⟩
      have N1 := N0.next hb1
      have V1 := V0.next hb1
      have hz1 : w.heap.size + 2 ≤ w1.heap.size := by have := hb1.size; omega
      clear h0 h1 r0 r1 s0 s1
      have h0 := N1.b0
      have h1 := N1.b1
      have r0 := V1.c0
      have r1 := V1.c1
      have s0 := V1.f0
      have s1 := V1.f1
      obtain ⟨I1, hI1⟩ : ∃ I1, I1 = I + 1 := ⟨_, rfl⟩
      have I1e : Hid (I1 = I + 1) := Lib.hid hI1
      have hw1 : IntKind.i64.wrap ((I : Int) + 1) = (I1 : Int) := by rw [IntWalk.i64_in _ (by omega)]; omega
      have hI00 : (0 : Int) ≤ (I : Int) := by omega
      have hI10 : (0 : Int) ≤ (I1 : Int) := by omega
      obtain ⟨a5, hs1, hs2, hs3⟩ := sliceHiTower N1.rd.1 HN.out hp0 I (by omega)
      obtain ⟨a6, c6, ht1, ht2, ht3⟩ := sliceLoTower N1.rd.1 HN.out hp0 I1 (by omega)
      obtain ⟨tt, htt⟩ : ∃ tt, ts.take I ++ ts.drop I1 = tt := ⟨_, rfl⟩
      have HT2 := Lib.hid htt
      have HTT : Hid (ts.take I ++ ts.drop (I + 1) = tt) := Lib.hid (by rw [← hI1]; exact htt)
      have HLT : Hid ((ts.take I).length ≤ 100 ∧ (ts.drop I1).length ≤ 100) := Lib.hid (by have := HN.out; simp; omega)
      clear hI1 htt
      go_wp2
      clear h0 h1 r0 r1 s0 s1
      have HL1 : Hid (([] : List T3).length + (ts.take I).length ≤ 4194304) := Lib.hid (by have := HLT.out; simp; omega)
      have HL2 : Hid ((ts.take I).length + (ts.drop I1).length ≤ 4194304) := Lib.hid (by have := HLT.out; omega)
      refine wp_region_held_drew (S := (fun w' => w'.cell? ⟨w.heap.size, 0, none⟩ = some (.slice a0 n p0) ∧ w'.cell? ⟨w.heap.size, 1, none⟩ = some (.slice a1 m p1))) (by kernel_rfl) ?_ (fun hHeld => ?_)
      · exact ⟨N1.drew.b0, N1.drew.b1⟩
      refine wpAnyH_name ?_
      intro wS hwS
      rw [← hwS] at hHeld
      have hbS := below_named hwS
      clear hwS
      have hB0 := Below.refl wS.heap.size wS
      have NS := N1.next hbS
      have VS := V1.next hbS
      have HT := Lib.hid (hs3.later hbS)
      have HD := Lib.hid (ht3.later hbS)
      have hzS : w.heap.size + 2 ≤ wS.heap.size := by have := hbS.size; omega
      have KB : Hid (∀ y : World, Below wS.heap.size wS y → y.cell? ⟨w.heap.size, 0, none⟩ = some (.slice a0 n p0) ∧ y.cell? ⟨w.heap.size, 1, none⟩ = some (.slice a1 m p1)) := Lib.hid fun y h => ⟨(NS.next h).b0, (NS.next h).b1⟩
      clear N1 V1 hs3 ht3
      refine wpAnyH_take (i := 1) (oi := { dst := some 21, op := Go.Op.fieldAddr 31 (Go.Operand.tmp 2) 0, type := 0, pos := "l6_tower.go:163", after := #[], guard := none }) (v := ?_) rfl (by kernel_rfl) (by kernel_rfl) (by kernel_rfl) (fun _ _ _ h => h) (Or.inl ⟨by rfl, ?_⟩) (by assumption) ?_
      rotate_left
      · intro w hSw; (try dsimp only at hSw); go_simp; try with_reducible rfl
      try simp only [Act.put, List.setIfInBounds_toArray, List.set_cons_zero, List.set_cons_succ]
      refine wpAnyH_take (i := 2) (oi := { dst := some 22, op := Go.Op.load 28 (Go.Operand.tmp 21), type := 28, pos := "l6_tower.go:163", after := #[{ on := 1, ground := Go.Ground.data }], guard := none }) (v := ?_) rfl (by kernel_rfl) (by kernel_rfl) (by kernel_rfl) (fun _ _ _ h => h) (Or.inl ⟨by rfl, ?_⟩) (by assumption) ?_
      rotate_left
      · intro w hSw; (try dsimp only at hSw); go_simp; try with_reducible rfl
      try simp only [Act.put, List.setIfInBounds_toArray, List.set_cons_zero, List.set_cons_succ]
      refine wpAnyH_take (i := 3) (oi := { dst := some 23, op := Go.Op.move (Go.Operand.tmp 1), type := 3, pos := "l6_tower.go:163", after := #[], guard := none }) (v := ?_) rfl (by kernel_rfl) (by kernel_rfl) (by kernel_rfl) (fun _ _ _ h => h) (Or.inl ⟨by rfl, ?_⟩) (by assumption) ?_
      rotate_left
      · intro w hSw; (try dsimp only at hSw); go_simp; try with_reducible rfl
      try simp only [Act.put, List.setIfInBounds_toArray, List.set_cons_zero, List.set_cons_succ]
      refine wpAnyH_take (i := 4) (oi := { dst := some 24, op := Go.Op.slice 28 (Go.Operand.tmp 22) none (some (Go.Operand.tmp 23)) none, type := 28, pos := "l6_tower.go:163", after := #[{ on := 2, ground := Go.Ground.data }, { on := 3, ground := Go.Ground.data }], guard := none }) (v := ?_) rfl (by kernel_rfl) (by kernel_rfl) (by kernel_rfl) (fun _ _ _ h => h) (Or.inl ⟨by rfl, ?_⟩) (by assumption) ?_
      rotate_left
      · intro w hSw; (try dsimp only at hSw); go_simp; try with_reducible rfl
      try simp only [Act.put, List.setIfInBounds_toArray, List.set_cons_zero, List.set_cons_succ]
      refine wpAnyH_take (i := 6) (oi := { dst := some 26, op := Go.Op.fieldAddr 31 (Go.Operand.tmp 2) 0, type := 0, pos := "l6_tower.go:163", after := #[], guard := none }) (v := ?_) rfl (by kernel_rfl) (by kernel_rfl) (by kernel_rfl) (fun _ _ _ h => h) (Or.inl ⟨by rfl, ?_⟩) (by assumption) ?_
      rotate_left
      · intro w hSw; (try dsimp only at hSw); go_simp; try with_reducible rfl
      try simp only [Act.put, List.setIfInBounds_toArray, List.set_cons_zero, List.set_cons_succ]
      refine wpAnyH_take (i := 7) (oi := { dst := some 27, op := Go.Op.load 28 (Go.Operand.tmp 26), type := 28, pos := "l6_tower.go:163", after := #[{ on := 6, ground := Go.Ground.data }], guard := none }) (v := ?_) rfl (by kernel_rfl) (by kernel_rfl) (by kernel_rfl) (fun _ _ _ h => h) (Or.inl ⟨by rfl, ?_⟩) (by assumption) ?_
      rotate_left
      · intro w hSw; (try dsimp only at hSw); go_simp; try with_reducible rfl
      try simp only [Act.put, List.setIfInBounds_toArray, List.set_cons_zero, List.set_cons_succ]
      refine wpAnyH_take (i := 8) (oi := { dst := some 28, op := Go.Op.move (Go.Operand.tmp 1), type := 3, pos := "l6_tower.go:163", after := #[], guard := none }) (v := ?_) rfl (by kernel_rfl) (by kernel_rfl) (by kernel_rfl) (fun _ _ _ h => h) (Or.inl ⟨by rfl, ?_⟩) (by assumption) ?_
      rotate_left
      · intro w hSw; (try dsimp only at hSw); go_simp; try with_reducible rfl
      try simp only [Act.put, List.setIfInBounds_toArray, List.set_cons_zero, List.set_cons_succ]
      refine wpAnyH_take (i := 9) (oi := { dst := some 29, op := Go.Op.binOp Go.BinOp.add 3 (Go.Operand.tmp 28) (Go.Operand.const (Go.Value.int Go.IntKind.i64 1)) 3, type := 3, pos := "l6_tower.go:163", after := #[{ on := 8, ground := Go.Ground.data }], guard := none }) (v := ?_) rfl (by kernel_rfl) (by kernel_rfl) (by kernel_rfl) (fun _ _ _ h => h) (Or.inl ⟨by rfl, ?_⟩) (by assumption) ?_
      rotate_left
      · intro w hSw; (try dsimp only at hSw); go_simp; try with_reducible rfl
      try simp only [Act.put, List.setIfInBounds_toArray, List.set_cons_zero, List.set_cons_succ]
      refine wpAnyH_take (i := 10) (oi := { dst := some 30, op := Go.Op.slice 28 (Go.Operand.tmp 27) (some (Go.Operand.tmp 29)) none none, type := 28, pos := "l6_tower.go:163", after := #[{ on := 7, ground := Go.Ground.data }, { on := 9, ground := Go.Ground.data }], guard := none }) (v := ?_) rfl (by kernel_rfl) (by kernel_rfl) (by kernel_rfl) (fun _ _ _ h => h) (Or.inl ⟨by rfl, ?_⟩) (by assumption) ?_
      rotate_left
      · intro w hSw; (try dsimp only at hSw); go_simp; try with_reducible rfl
      try simp only [Act.put, List.setIfInBounds_toArray, List.set_cons_zero, List.set_cons_succ]
      refine wpAnyH_ready (rs := [0, 13]) (by kernel_rfl) (by simp) ?_
      refine AllReadyH.cons (o := { dst := some 20, op := Go.Op.buildSlice 28 0 #[], type := 28, pos := "l6_tower.go:163", after := #[], guard := none }) rfl (fun K hK => ?_) ?_
      · go_simp
        refine hK.out _ _ ?_ (fun hHeld => ?_)
        · exact KB.out _ (hB0.alloc hB0.size _)
        clear hK K
        try simp only [Act.put, List.setIfInBounds_toArray, List.set_cons_zero, List.set_cons_succ]
        refine wpAnyH_name ?_
        intro w1 hw1
        rw [← hw1] at hHeld
        have hb1 := below_alloc hw1
        have z1 := lt_named hw1
        have e0 : OwnR 62 c3 3 w1 wS.heap.size (.slice (some ⟨wS.heap.size, 0, none⟩) 0 0) ([] : List T3) := by rw [hw1]; exact OwnR.emptyTower _ _ hB0.size
        clear hw1
        have hB2 := hB0.trans (hb1.mono hB0.size)
        refine wpAnyH_ready (rs := [5, 13]) (by kernel_rfl) (by simp) ?_
        refine AllReadyH.cons (o := { dst := some 25, op := Go.Op.call { callee := Go.Callee.builtin Go.Builtin.append, args := #[Go.Operand.tmp 20, Go.Operand.tmp 24], argTypes := #[28, 28] }, type := 28, pos := "l6_tower.go:163", after := #[{ on := 0, ground := Go.Ground.data }, { on := 4, ground := Go.Ground.data }], guard := none }) rfl (fun K hK => ?_) ?_
        · refine step_append_TowerS (by rfl) _ _ (by rfl) wS.heap.size _ _ [] (ts.take I) (by rfl) (by rfl) e0 (HT.out.later hB2) HL1.out (hB2.size) ?_
          intro v3 w3 o0 hg3 hat3
          have hBn3 := hB2.grown hg3 hB2.size (fun k hk => (e0.lt k hk).1)
          rw [List.nil_append] at o0
          try go_simp
          refine hK.out _ _ ?_ (fun hHeld => ?_)
          · exact KB.out _ hBn3
          clear hK K
          try simp only [Act.put, List.setIfInBounds_toArray, List.set_cons_zero, List.set_cons_succ]
          refine wpAnyH_ready (rs := [11, 13]) (by kernel_rfl) (by simp) ?_
          refine AllReadyH.cons (o := { dst := some 31, op := Go.Op.call { callee := Go.Callee.builtin Go.Builtin.append, args := #[Go.Operand.tmp 25, Go.Operand.tmp 30], argTypes := #[28, 28] }, type := 28, pos := "l6_tower.go:163", after := #[{ on := 5, ground := Go.Ground.data }, { on := 10, ground := Go.Ground.data }, { on := 5, ground := Go.Ground.chain }], guard := none }) rfl (fun K hK => ?_) ?_
          · refine step_append_TowerS (by rfl) _ _ (by rfl) wS.heap.size _ _ (ts.take I) (ts.drop I1) (by rfl) (by rfl) o0 (HD.out.later hBn3) HL2.out (hBn3.size) ?_
            intro v4 w4 o1 hg4 hat4
            have hBn4 := hBn3.grown hg4 hBn3.size (fun k hk => (o0.lt k hk).1)
            have o1 := o1
            rw [HT2.out] at o1
            obtain ⟨ad0, cd0, rfl, -⟩ := o1.rd.len
            try go_simp
            refine hK.out _ _ ?_ (fun hHeld => ?_)
            · exact KB.out _ hBn4
            clear hK K
            try simp only [Act.put, List.setIfInBounds_toArray, List.set_cons_zero, List.set_cons_succ]
            refine wpAnyH_take (i := 12) (oi := { dst := some 32, op := Go.Op.build 31 #[(0, Go.Operand.tmp 31)], type := 31, pos := "l6_tower.go:163", after := #[{ on := 11, ground := Go.Ground.data }], guard := none }) (v := ?_) rfl (by kernel_rfl) (by kernel_rfl) (by kernel_rfl) (fun _ _ _ h => h) (Or.inl ⟨by rfl, ?_⟩) (by assumption) ?_
            rotate_left
            · intro w hSw; (try dsimp only at hSw); go_simp; try with_reducible rfl
            try simp only [Act.put, List.setIfInBounds_toArray, List.set_cons_zero, List.set_cons_succ]
            refine wpAnyH_ready (rs := [13]) (by kernel_rfl) (by simp) ?_
            refine AllReadyH.cons (o := { dst := some 6, op := Go.Op.alloc 31, type := 0, pos := "l6_tower.go:163", after := #[], guard := none }) rfl (fun K hK => ?_) AllReadyH.nil
            have ne0 := fun k hk => Nat.ne_of_lt (o1.lt k hk).2
            go_simp
            refine hK.out _ _ ?_ (fun hHeld => ?_)
            · exact KB.out _ (hBn4.alloc hBn4.size _)
            clear hK K
            try simp only [Act.put, List.setIfInBounds_toArray, List.set_cons_zero, List.set_cons_succ]
            refine wpAnyH_name ?_
            intro w5 hw5
            rw [← hw5] at hHeld
            have hb5 := below_alloc hw5
            have z5 := lt_named hw5
            have OB : Var2 w5 w4.heap.size (.slice none 0 0) (.slice none 0 0) := by rw [hw5]; exact Var2.new _ _ _ _
            have hbl := hBn4.size
            have hzb := z5
            clear hw5
            have o1 := o1.later hb5
            have hB6 := hBn4.trans (hb5.mono hBn4.size)
            refine wpAnyH_ready (rs := [14]) (by kernel_rfl) (by simp) ?_
            refine AllReadyH.cons (o := { dst := none, op := Go.Op.store 31 (Go.Operand.tmp 6) (Go.Operand.tmp 32), type := 0, pos := "l6_tower.go:163", after := #[{ on := 13, ground := Go.Ground.data }, { on := 12, ground := Go.Ground.data }, { on := 11, ground := Go.Ground.chain }, { on := 0, ground := Go.Ground.phase }, { on := 1, ground := Go.Ground.phase }, { on := 2, ground := Go.Ground.phase }, { on := 3, ground := Go.Ground.phase }, { on := 4, ground := Go.Ground.phase }, { on := 5, ground := Go.Ground.phase }, { on := 6, ground := Go.Ground.phase }, { on := 7, ground := Go.Ground.phase }, { on := 8, ground := Go.Ground.phase }, { on := 9, ground := Go.Ground.phase }, { on := 10, ground := Go.Ground.phase }, { on := 11, ground := Go.Ground.phase }, { on := 12, ground := Go.Ground.phase }, { on := 13, ground := Go.Ground.phase }], guard := none }) rfl (fun K hK => ?_) AllReadyH.nil
            have j0 := OB.c0
            have j1 := OB.c1
            have j2 := OB.f0
            have j3 := OB.f1
            have hbl3 : w.heap.size + 2 ≤ w4.heap.size := by omega
            have NT := ((NS.next hB6).set (o := 0) (u := .slice ad0 tt.length cd0) HR.out (show w.heap.size < w4.heap.size by omega)).set (o := 1) (u := .slice none 0 0) HR.out (show w.heap.size < w4.heap.size by omega)
            go_simp
            refine hK.out _ _ ?_ (fun hHeld => ?_)
            · exact ⟨NT.b0, NT.b1⟩
            clear hK K
            try simp only [Act.put, List.setIfInBounds_toArray, List.set_cons_zero, List.set_cons_succ]
            refine wpAnyH_done (by kernel_rfl) ?_ _
            have VL := ((VS.next hB6).set (o := 0) (u := .slice ad0 tt.length cd0) (show w4.heap.size ≠ w.heap.size + 1 by omega) ⟨_, OB.c0⟩).set (o := 1) (u := .slice none 0 0) (show w4.heap.size ≠ w.heap.size + 1 by omega) ⟨_, (OB.put0).c1⟩
            have OM := (OB.put0 (u := .slice ad0 tt.length cd0)).put1 (u := .slice none 0 0)
            have q0 := ((o1.setFar (b := w4.heap.size) (o := 0) (x := .slice ad0 tt.length cd0) (fun e => ne0 _ e rfl)).setFar (b := w4.heap.size) (o := 1) (x := .slice none 0 0) (fun e => ne0 _ e rfl)).base (B' := w.heap.size + 2) hzS
            have HNE := Lib.hid ne0
            clear j0 j1 j2 j3 OB hHeld NS VS HT HD KB ne0 hzb o1
            generalize (w5.setCell ⟨w4.heap.size, 0, none⟩ (.slice ad0 tt.length cd0)).setCell ⟨w4.heap.size, 1, none⟩ (.slice none 0 0) = WL at *
            generalize w4.heap.size = bo at *
            have h0 := NT.b0
            have h1 := NT.b1
            go_wp2
            go_loopw [36] (fun c wr => ∃ (k : Nat) (vc : Value), k ≤ m ∧ c = .int .i64 k ∧ NB w wr a0 n p0 a1 m p1 ts ls ∧ Var2 wr (w.heap.size + 1) (.slice none 0 0) (.slice none 0 0) ∧ Var2 wr bo (.slice ad0 tt.length cd0) vc ∧ OwnR 62 c3 3 wr (w.heap.size + 2) (.slice ad0 tt.length cd0) tt ∧ OwnR 53 c3 3 wr (bo + 1) vc (dropL (I : Int) (ls.take k))) (fun c wr => m - (intOf c).toNat)
            case atStart => exact ⟨0, _, Nat.zero_le _, rfl, NT, VL, OM, q0, OwnR.nil _ _⟩
            case round =>
              clear h0 h1 NT VL OM q0 
              obtain ⟨k, vc, hk, rfl, NK, VK, OK, qT, qL⟩ := hrel
              obtain ⟨avc, cvc, rfl, -⟩ := qL.rd.len
              obtain ⟨DL, hDL⟩ : ∃ DL, dropL (I : Int) (ls.take k) = DL := ⟨_, rfl⟩
              rw [hDL] at OK qL
              have HDLk := Lib.hid hDL
              clear hDL
              have h0 := NK.b0
              have h1 := NK.b1
              have j0 := OK.c0
              have j1 := OK.c1
              have hob := OK.lt
              by_cases hlt : k < m
              · obtain ⟨g, off, rfl, hg, e0, e1, e2⟩ := NK.rd.2.at3 HM.out k hlt
                have HDL : Hid (dropL (I : Int) (ls.take (k + 1)) = DL ++ dropOne (I : Int) (rAt ls k)) := Lib.hid (by rw [← HDLk.out]; exact dropL_take (by rw [← HM.out]; exact hlt))
                have HKL : Hid (DL.length ≤ 40) := Lib.hid (by rw [← HDLk.out]; have := dropL_len (I : Int) (ls.take k); simp at this; omega)
                have hln := HOK.out.lnk k (by rw [← HM.out]; exact hlt)
                rw [← HN.out] at hln
                have hl0 : 0 ≤ (rAt ls k).x0 ∧ (rAt ls k).x0 ≤ 16 := by omega
                have hl1 : 0 ≤ (rAt ls k).x1 ∧ (rAt ls k).x1 ≤ 16 := by omega
                have HD1 : Hid (dropOne (I : Int) (rAt ls k) = dropOne (I : Int) ⟨(rAt ls k).x0, (rAt ls k).x1, (rAt ls k).x2⟩) := Lib.hid rfl
                clear hln
                generalize (rAt ls k).x0 = x0 at *
                generalize (rAt ls k).x1 = x1 at *
                generalize (rAt ls k).x2 = x2 at *
                by_cases d0 : x0 = (I : Int)
                · have b0 : (x0 == (I : Int)) = true := by simpa using d0
                  have E1 : Hid (dropL (I : Int) (ls.take (k + 1)) = DL) := Lib.hid (by rw [HDL.out, HD1.out]; simp [dropOne, d0])
                  clear d0
                  go_wp2
                  go_roundw
                  case rel => exact ⟨k + 1, _, by omega, by go_num, NK.next ((Below.refl wr.heap.size wr).alloc (Nat.le_refl _) (.cells #[.int .i64 x0, .int .i64 x1, .int .i64 x2] 53)), VK.next ((Below.refl wr.heap.size wr).alloc (Nat.le_refl _) (.cells #[.int .i64 x0, .int .i64 x1, .int .i64 x2] 53)), OK.next ((Below.refl wr.heap.size wr).alloc (Nat.le_refl _) (.cells #[.int .i64 x0, .int .i64 x1, .int .i64 x2] 53)), qT.later ((Below.refl wr.heap.size wr).alloc (Nat.le_refl _) (.cells #[.int .i64 x0, .int .i64 x1, .int .i64 x2] 53)), by rw [E1.out]; exact qL.later ((Below.refl wr.heap.size wr).alloc (Nat.le_refl _) (.cells #[.int .i64 x0, .int .i64 x1, .int .i64 x2] 53))⟩
                  case measure => simp [intOf]; omega
                · have b0 : (x0 == (I : Int)) = false := by simpa using d0
                  by_cases d1 : x1 = (I : Int)
                  · have b1 : (x1 == (I : Int)) = true := by simpa using d1
                    have E1 : Hid (dropL (I : Int) (ls.take (k + 1)) = DL) := Lib.hid (by rw [HDL.out, HD1.out]; simp [dropOne, d1])
                    clear d0 d1
                    go_wp2
                    go_roundw
                    case rel => exact ⟨k + 1, _, by omega, by go_num, NK.next ((Below.refl wr.heap.size wr).alloc (Nat.le_refl _) (.cells #[.int .i64 x0, .int .i64 x1, .int .i64 x2] 53)), VK.next ((Below.refl wr.heap.size wr).alloc (Nat.le_refl _) (.cells #[.int .i64 x0, .int .i64 x1, .int .i64 x2] 53)), OK.next ((Below.refl wr.heap.size wr).alloc (Nat.le_refl _) (.cells #[.int .i64 x0, .int .i64 x1, .int .i64 x2] 53)), qT.later ((Below.refl wr.heap.size wr).alloc (Nat.le_refl _) (.cells #[.int .i64 x0, .int .i64 x1, .int .i64 x2] 53)), by rw [E1.out]; exact qL.later ((Below.refl wr.heap.size wr).alloc (Nat.le_refl _) (.cells #[.int .i64 x0, .int .i64 x1, .int .i64 x2] 53))⟩
                    case measure => simp [intOf]; omega
                  · have b1 : (x1 == (I : Int)) = false := by simpa using d1
                    by_cases g0 : (I : Int) < x0
                    · by_cases g1 : (I : Int) < x1
                      · have E1 : Hid (dropL (I : Int) (ls.take (k + 1)) = DL ++ [⟨x0 - 1, x1 - 1, x2⟩]) := Lib.hid (by rw [HDL.out, HD1.out]; simp [dropOne, dwx, d0, d1, g0, g1])
                        have hwa : IntKind.i64.wrap (x0 - 1) = x0 - 1 := IntWalk.i64_in _ (by omega)
                        have hwc : IntKind.i64.wrap (x1 - 1) = x1 - 1 := IntWalk.i64_in _ (by omega)
                        have alA := ((Below.refl wr.heap.size wr).alloc (Nat.le_refl _) (.cells #[.int .i64 (x0 - 1), .int .i64 (x1 - 1), .int .i64 x2] 53))
                        have alB := ((Below.refl (wr.alloc (.cells #[.int .i64 (x0 - 1), .int .i64 (x1 - 1), .int .i64 x2] 53)).heap.size (wr.alloc (.cells #[.int .i64 (x0 - 1), .int .i64 (x1 - 1), .int .i64 x2] 53))).alloc (Nat.le_refl _) (.cells #[.int .i64 (x0 - 1), .int .i64 (x1 - 1), .int .i64 x2] 53))
                        have NA := (NK.next alA).next alB
                        have VA := (VK.next alA).next alB
                        have OA := (OK.next alA).next alB
                        have tA := (qT.later alA).later alB
                        have lA := (qL.later alA).later alB
                        have hzB : bo + 1 ≤ ((wr.alloc (.cells #[.int .i64 (x0 - 1), .int .i64 (x1 - 1), .int .i64 x2] 53)).alloc (.cells #[.int .i64 (x0 - 1), .int .i64 (x1 - 1), .int .i64 x2] 53)).heap.size := by simp; omega
                        have n0 : ((wr.alloc (.cells #[.int .i64 (x0 - 1), .int .i64 (x1 - 1), .int .i64 x2] 53)).alloc (.cells #[.int .i64 (x0 - 1), .int .i64 (x1 - 1), .int .i64 x2] 53)).cell? ⟨wr.heap.size + 1, 0, none⟩ = some (.int .i64 (x0 - 1)) := by simp [go_sem]
                        have n1 : ((wr.alloc (.cells #[.int .i64 (x0 - 1), .int .i64 (x1 - 1), .int .i64 x2] 53)).alloc (.cells #[.int .i64 (x0 - 1), .int .i64 (x1 - 1), .int .i64 x2] 53)).cell? ⟨wr.heap.size + 1, 1, none⟩ = some (.int .i64 (x1 - 1)) := by simp [go_sem]
                        have n2 : ((wr.alloc (.cells #[.int .i64 (x0 - 1), .int .i64 (x1 - 1), .int .i64 x2] 53)).alloc (.cells #[.int .i64 (x0 - 1), .int .i64 (x1 - 1), .int .i64 x2] 53)).cell? ⟨wr.heap.size + 1, 2, none⟩ = some (.int .i64 x2) := by simp [go_sem]
                        have hone := RdR.one3 (c := 1) ⟨x0 - 1, x1 - 1, x2⟩ (World.block_lt_of_cell? _ _ n0) (Nat.le_refl _) (by unfold maxLen; decide) n0 n1 n2
                        have HL2 : Hid (DL.length + ([⟨x0 - 1, x1 - 1, x2⟩] : List T3).length ≤ 4194304) := Lib.hid (by have := HKL.out; simp; omega)
                        clear d0 d1 n0 n1 n2 alA alB
                        go_wp2_with (at_builtin; refine append_LinkS rfl _ _ rfl (bo + 1) _ _ DL [⟨x0 - 1, x1 - 1, x2⟩] rfl rfl lA hone HL2.out hzB ?_; intro v2 w2 o2 hg2 hat2; rw [← E1.out] at o2; obtain ⟨ad2, cd2, rfl, -⟩ := o2.rd.len; have hB2 := (Below.refl (bo + 1) _).grown hg2 hzB (fun i hi => (lA.lt i hi).1); have OB := OA.below hB2 (by omega) hzB; have j5 := OB.c0; have j6 := OB.c1; have j7 := OB.f1)
                        go_roundw
                        case rel => exact ⟨k + 1, _, by omega, by go_num, (NA.grown HR.out hg2 (fun i hi => by have := (lA.lt i hi).1; omega)).set HR.out (show w.heap.size < bo by omega), (VA.below hB2 (by omega) hzB).set (show bo ≠ w.heap.size + 1 by omega) ⟨_, j6⟩, OB.put1, (tA.kept hg2 (row_apart tA lA (by decide))).setFar (fun e => HNE.out _ e rfl), o2.setFar (fun e => by have := (o2.lt _ e).1; omega)⟩
                        case measure => simp [intOf]; omega
                      · have E1 : Hid (dropL (I : Int) (ls.take (k + 1)) = DL ++ [⟨x0 - 1, x1, x2⟩]) := Lib.hid (by rw [HDL.out, HD1.out]; simp [dropOne, dwx, d0, d1, g0, g1])
                        have hwa : IntKind.i64.wrap (x0 - 1) = x0 - 1 := IntWalk.i64_in _ (by omega)
                        have alA := ((Below.refl wr.heap.size wr).alloc (Nat.le_refl _) (.cells #[.int .i64 (x0 - 1), .int .i64 x1, .int .i64 x2] 53))
                        have alB := ((Below.refl (wr.alloc (.cells #[.int .i64 (x0 - 1), .int .i64 x1, .int .i64 x2] 53)).heap.size (wr.alloc (.cells #[.int .i64 (x0 - 1), .int .i64 x1, .int .i64 x2] 53))).alloc (Nat.le_refl _) (.cells #[.int .i64 (x0 - 1), .int .i64 x1, .int .i64 x2] 53))
                        have NA := (NK.next alA).next alB
                        have VA := (VK.next alA).next alB
                        have OA := (OK.next alA).next alB
                        have tA := (qT.later alA).later alB
                        have lA := (qL.later alA).later alB
                        have hzB : bo + 1 ≤ ((wr.alloc (.cells #[.int .i64 (x0 - 1), .int .i64 x1, .int .i64 x2] 53)).alloc (.cells #[.int .i64 (x0 - 1), .int .i64 x1, .int .i64 x2] 53)).heap.size := by simp; omega
                        have n0 : ((wr.alloc (.cells #[.int .i64 (x0 - 1), .int .i64 x1, .int .i64 x2] 53)).alloc (.cells #[.int .i64 (x0 - 1), .int .i64 x1, .int .i64 x2] 53)).cell? ⟨wr.heap.size + 1, 0, none⟩ = some (.int .i64 (x0 - 1)) := by simp [go_sem]
                        have n1 : ((wr.alloc (.cells #[.int .i64 (x0 - 1), .int .i64 x1, .int .i64 x2] 53)).alloc (.cells #[.int .i64 (x0 - 1), .int .i64 x1, .int .i64 x2] 53)).cell? ⟨wr.heap.size + 1, 1, none⟩ = some (.int .i64 (x1)) := by simp [go_sem]
                        have n2 : ((wr.alloc (.cells #[.int .i64 (x0 - 1), .int .i64 x1, .int .i64 x2] 53)).alloc (.cells #[.int .i64 (x0 - 1), .int .i64 x1, .int .i64 x2] 53)).cell? ⟨wr.heap.size + 1, 2, none⟩ = some (.int .i64 x2) := by simp [go_sem]
                        have hone := RdR.one3 (c := 1) ⟨x0 - 1, x1, x2⟩ (World.block_lt_of_cell? _ _ n0) (Nat.le_refl _) (by unfold maxLen; decide) n0 n1 n2
                        have HL2 : Hid (DL.length + ([⟨x0 - 1, x1, x2⟩] : List T3).length ≤ 4194304) := Lib.hid (by have := HKL.out; simp; omega)
                        clear d0 d1 n0 n1 n2 alA alB
                        go_wp2_with (at_builtin; refine append_LinkS rfl _ _ rfl (bo + 1) _ _ DL [⟨x0 - 1, x1, x2⟩] rfl rfl lA hone HL2.out hzB ?_; intro v2 w2 o2 hg2 hat2; rw [← E1.out] at o2; obtain ⟨ad2, cd2, rfl, -⟩ := o2.rd.len; have hB2 := (Below.refl (bo + 1) _).grown hg2 hzB (fun i hi => (lA.lt i hi).1); have OB := OA.below hB2 (by omega) hzB; have j5 := OB.c0; have j6 := OB.c1; have j7 := OB.f1)
                        go_roundw
                        case rel => exact ⟨k + 1, _, by omega, by go_num, (NA.grown HR.out hg2 (fun i hi => by have := (lA.lt i hi).1; omega)).set HR.out (show w.heap.size < bo by omega), (VA.below hB2 (by omega) hzB).set (show bo ≠ w.heap.size + 1 by omega) ⟨_, j6⟩, OB.put1, (tA.kept hg2 (row_apart tA lA (by decide))).setFar (fun e => HNE.out _ e rfl), o2.setFar (fun e => by have := (o2.lt _ e).1; omega)⟩
                        case measure => simp [intOf]; omega
                    · by_cases g1 : (I : Int) < x1
                      · have E1 : Hid (dropL (I : Int) (ls.take (k + 1)) = DL ++ [⟨x0, x1 - 1, x2⟩]) := Lib.hid (by rw [HDL.out, HD1.out]; simp [dropOne, dwx, d0, d1, g0, g1])
                        have hwc : IntKind.i64.wrap (x1 - 1) = x1 - 1 := IntWalk.i64_in _ (by omega)
                        have alA := ((Below.refl wr.heap.size wr).alloc (Nat.le_refl _) (.cells #[.int .i64 x0, .int .i64 (x1 - 1), .int .i64 x2] 53))
                        have alB := ((Below.refl (wr.alloc (.cells #[.int .i64 x0, .int .i64 (x1 - 1), .int .i64 x2] 53)).heap.size (wr.alloc (.cells #[.int .i64 x0, .int .i64 (x1 - 1), .int .i64 x2] 53))).alloc (Nat.le_refl _) (.cells #[.int .i64 x0, .int .i64 (x1 - 1), .int .i64 x2] 53))
                        have NA := (NK.next alA).next alB
                        have VA := (VK.next alA).next alB
                        have OA := (OK.next alA).next alB
                        have tA := (qT.later alA).later alB
                        have lA := (qL.later alA).later alB
                        have hzB : bo + 1 ≤ ((wr.alloc (.cells #[.int .i64 x0, .int .i64 (x1 - 1), .int .i64 x2] 53)).alloc (.cells #[.int .i64 x0, .int .i64 (x1 - 1), .int .i64 x2] 53)).heap.size := by simp; omega
                        have n0 : ((wr.alloc (.cells #[.int .i64 x0, .int .i64 (x1 - 1), .int .i64 x2] 53)).alloc (.cells #[.int .i64 x0, .int .i64 (x1 - 1), .int .i64 x2] 53)).cell? ⟨wr.heap.size + 1, 0, none⟩ = some (.int .i64 (x0)) := by simp [go_sem]
                        have n1 : ((wr.alloc (.cells #[.int .i64 x0, .int .i64 (x1 - 1), .int .i64 x2] 53)).alloc (.cells #[.int .i64 x0, .int .i64 (x1 - 1), .int .i64 x2] 53)).cell? ⟨wr.heap.size + 1, 1, none⟩ = some (.int .i64 (x1 - 1)) := by simp [go_sem]
                        have n2 : ((wr.alloc (.cells #[.int .i64 x0, .int .i64 (x1 - 1), .int .i64 x2] 53)).alloc (.cells #[.int .i64 x0, .int .i64 (x1 - 1), .int .i64 x2] 53)).cell? ⟨wr.heap.size + 1, 2, none⟩ = some (.int .i64 x2) := by simp [go_sem]
                        have hone := RdR.one3 (c := 1) ⟨x0, x1 - 1, x2⟩ (World.block_lt_of_cell? _ _ n0) (Nat.le_refl _) (by unfold maxLen; decide) n0 n1 n2
                        have HL2 : Hid (DL.length + ([⟨x0, x1 - 1, x2⟩] : List T3).length ≤ 4194304) := Lib.hid (by have := HKL.out; simp; omega)
                        clear d0 d1 n0 n1 n2 alA alB
                        go_wp2_with (at_builtin; refine append_LinkS rfl _ _ rfl (bo + 1) _ _ DL [⟨x0, x1 - 1, x2⟩] rfl rfl lA hone HL2.out hzB ?_; intro v2 w2 o2 hg2 hat2; rw [← E1.out] at o2; obtain ⟨ad2, cd2, rfl, -⟩ := o2.rd.len; have hB2 := (Below.refl (bo + 1) _).grown hg2 hzB (fun i hi => (lA.lt i hi).1); have OB := OA.below hB2 (by omega) hzB; have j5 := OB.c0; have j6 := OB.c1; have j7 := OB.f1)
                        go_roundw
                        case rel => exact ⟨k + 1, _, by omega, by go_num, (NA.grown HR.out hg2 (fun i hi => by have := (lA.lt i hi).1; omega)).set HR.out (show w.heap.size < bo by omega), (VA.below hB2 (by omega) hzB).set (show bo ≠ w.heap.size + 1 by omega) ⟨_, j6⟩, OB.put1, (tA.kept hg2 (row_apart tA lA (by decide))).setFar (fun e => HNE.out _ e rfl), o2.setFar (fun e => by have := (o2.lt _ e).1; omega)⟩
                        case measure => simp [intOf]; omega
                      · have E1 : Hid (dropL (I : Int) (ls.take (k + 1)) = DL ++ [⟨x0, x1, x2⟩]) := Lib.hid (by rw [HDL.out, HD1.out]; simp [dropOne, dwx, d0, d1, g0, g1])
                        have alA := ((Below.refl wr.heap.size wr).alloc (Nat.le_refl _) (.cells #[.int .i64 x0, .int .i64 x1, .int .i64 x2] 53))
                        have alB := ((Below.refl (wr.alloc (.cells #[.int .i64 x0, .int .i64 x1, .int .i64 x2] 53)).heap.size (wr.alloc (.cells #[.int .i64 x0, .int .i64 x1, .int .i64 x2] 53))).alloc (Nat.le_refl _) (.cells #[.int .i64 x0, .int .i64 x1, .int .i64 x2] 53))
                        have NA := (NK.next alA).next alB
                        have VA := (VK.next alA).next alB
                        have OA := (OK.next alA).next alB
                        have tA := (qT.later alA).later alB
                        have lA := (qL.later alA).later alB
                        have hzB : bo + 1 ≤ ((wr.alloc (.cells #[.int .i64 x0, .int .i64 x1, .int .i64 x2] 53)).alloc (.cells #[.int .i64 x0, .int .i64 x1, .int .i64 x2] 53)).heap.size := by simp; omega
                        have n0 : ((wr.alloc (.cells #[.int .i64 x0, .int .i64 x1, .int .i64 x2] 53)).alloc (.cells #[.int .i64 x0, .int .i64 x1, .int .i64 x2] 53)).cell? ⟨wr.heap.size + 1, 0, none⟩ = some (.int .i64 (x0)) := by simp [go_sem]
                        have n1 : ((wr.alloc (.cells #[.int .i64 x0, .int .i64 x1, .int .i64 x2] 53)).alloc (.cells #[.int .i64 x0, .int .i64 x1, .int .i64 x2] 53)).cell? ⟨wr.heap.size + 1, 1, none⟩ = some (.int .i64 (x1)) := by simp [go_sem]
                        have n2 : ((wr.alloc (.cells #[.int .i64 x0, .int .i64 x1, .int .i64 x2] 53)).alloc (.cells #[.int .i64 x0, .int .i64 x1, .int .i64 x2] 53)).cell? ⟨wr.heap.size + 1, 2, none⟩ = some (.int .i64 x2) := by simp [go_sem]
                        have hone := RdR.one3 (c := 1) ⟨x0, x1, x2⟩ (World.block_lt_of_cell? _ _ n0) (Nat.le_refl _) (by unfold maxLen; decide) n0 n1 n2
                        have HL2 : Hid (DL.length + ([⟨x0, x1, x2⟩] : List T3).length ≤ 4194304) := Lib.hid (by have := HKL.out; simp; omega)
                        clear d0 d1 n0 n1 n2 alA alB
                        go_wp2_with (at_builtin; refine append_LinkS rfl _ _ rfl (bo + 1) _ _ DL [⟨x0, x1, x2⟩] rfl rfl lA hone HL2.out hzB ?_; intro v2 w2 o2 hg2 hat2; rw [← E1.out] at o2; obtain ⟨ad2, cd2, rfl, -⟩ := o2.rd.len; have hB2 := (Below.refl (bo + 1) _).grown hg2 hzB (fun i hi => (lA.lt i hi).1); have OB := OA.below hB2 (by omega) hzB; have j5 := OB.c0; have j6 := OB.c1; have j7 := OB.f1)
                        go_roundw
                        case rel => exact ⟨k + 1, _, by omega, by go_num, (NA.grown HR.out hg2 (fun i hi => by have := (lA.lt i hi).1; omega)).set HR.out (show w.heap.size < bo by omega), (VA.below hB2 (by omega) hzB).set (show bo ≠ w.heap.size + 1 by omega) ⟨_, j6⟩, OB.put1, (tA.kept hg2 (row_apart tA lA (by decide))).setFar (fun e => HNE.out _ e rfl), o2.setFar (fun e => by have := (o2.lt _ e).1; omega)⟩
                        case measure => simp [intOf]; omega
              · obtain rfl : k = m := by omega
                have HQ : Hid (DL = dropL (I : Int) ls) := Lib.hid (by rw [← HDLk.out, HM.out, List.take_length])
                have r0 := VK.c0
                have r1 := VK.c1
                have s0 := VK.f0
                have s1 := VK.f1
                have sz := VK.lt
                go_wp2
                refine bodyPost_ret (v := .tuple #[.agg #[.slice ad0 tt.length cd0, .slice avc DL.length cvc], .bool true]) (by simp [results, Try.results40, go_sem, r0, r1, s0, s1, j0, j1, sz]) rfl ⟨_, _, by rw [HF.out.1], ?_, ?_⟩
                · rw [HF.out.2.1, HF.out.2.2, HTT.out, ← HQ.out]
                  have u0 := ((qT.setFar (b := w.heap.size + 1) (o := 0) (x := .slice ad0 tt.length cd0) (fun e => by have := (qT.lt _ e).1; omega)).setFar (b := w.heap.size + 1) (o := 1) (x := .slice avc DL.length cvc) (fun e => by have := (qT.lt _ e).1; omega)).base (B' := w.heap.size) (by omega)
                  have u1 := ((qL.setFar (b := w.heap.size + 1) (o := 0) (x := .slice ad0 tt.length cd0) (fun e => by have := (qL.lt _ e).1; omega)).setFar (b := w.heap.size + 1) (o := 1) (x := .slice avc DL.length cvc) (fun e => by have := (qL.lt _ e).1; omega)).base (B' := w.heap.size) (by omega)
                  exact ⟨⟨u0, fun k hk => (u0.lt k hk).2⟩, ⟨u1, fun k hk => (u1.lt k hk).2⟩⟩
                · exact (NK.below.setCell (p := ⟨w.heap.size + 1, 0, none⟩) (by show w.heap.size ≤ w.heap.size + 1; omega) _).setCell (p := ⟨w.heap.size + 1, 1, none⟩) (by show w.heap.size ≤ w.heap.size + 1; omega) _
          refine AllReadyH.cons (o := { dst := some 6, op := Go.Op.alloc 31, type := 0, pos := "l6_tower.go:163", after := #[], guard := none }) rfl (fun K hK => ?_) AllReadyH.nil
          have ne0 := fun k hk => Nat.ne_of_lt (o0.lt k hk).2
          go_simp
          refine hK.out _ _ ?_ (fun hHeld => ?_)
          · exact KB.out _ (hBn3.alloc hBn3.size _)
          clear hK K
          try simp only [Act.put, List.setIfInBounds_toArray, List.set_cons_zero, List.set_cons_succ]
          refine wpAnyH_name ?_
          intro w7 hw7
          rw [← hw7] at hHeld
          have hb7 := below_alloc hw7
          have z7 := lt_named hw7
          have OB : Var2 w7 w3.heap.size (.slice none 0 0) (.slice none 0 0) := by rw [hw7]; exact Var2.new _ _ _ _
          have hbl := hBn3.size
          have hzb := z7
          clear hw7
          have o0 := o0.later hb7
          have hB8 := hBn3.trans (hb7.mono hBn3.size)
          refine wpAnyH_ready (rs := [11]) (by kernel_rfl) (by simp) ?_
          refine AllReadyH.cons (o := { dst := some 31, op := Go.Op.call { callee := Go.Callee.builtin Go.Builtin.append, args := #[Go.Operand.tmp 25, Go.Operand.tmp 30], argTypes := #[28, 28] }, type := 28, pos := "l6_tower.go:163", after := #[{ on := 5, ground := Go.Ground.data }, { on := 10, ground := Go.Ground.data }, { on := 5, ground := Go.Ground.chain }], guard := none }) rfl (fun K hK => ?_) AllReadyH.nil
          refine step_append_TowerS (by rfl) _ _ (by rfl) wS.heap.size _ _ (ts.take I) (ts.drop I1) (by rfl) (by rfl) o0 (HD.out.later hB8) HL2.out (hB8.size) ?_
          intro v9 w9 o1 hg9 hat9
          have hBn9 := hB8.grown hg9 hB8.size (fun k hk => (o0.lt k hk).1)
          have ne1 : ∀ j, v9.ownBlock = some j → j ≠ w3.heap.size := fun j hj => by
            rcases hat9 with hq | hq
            · exact ne0 j (hq ▸ hj)
            · rw [hq] at hj; simp at hj; omega
          have OB := OB.grownN hg9 (fun hj => ne0 _ hj rfl)
          have hzb := Nat.lt_of_lt_of_le hzb hg9.size
          have o1 := o1
          rw [HT2.out] at o1
          obtain ⟨ad0, cd0, rfl, -⟩ := o1.rd.len
          try go_simp
          refine hK.out _ _ ?_ (fun hHeld => ?_)
          · exact KB.out _ hBn9
          clear hK K
          try simp only [Act.put, List.setIfInBounds_toArray, List.set_cons_zero, List.set_cons_succ]
          clear ne0
          have ne0 := ne1
          clear ne1
          refine wpAnyH_take (i := 12) (oi := { dst := some 32, op := Go.Op.build 31 #[(0, Go.Operand.tmp 31)], type := 31, pos := "l6_tower.go:163", after := #[{ on := 11, ground := Go.Ground.data }], guard := none }) (v := ?_) rfl (by kernel_rfl) (by kernel_rfl) (by kernel_rfl) (fun _ _ _ h => h) (Or.inl ⟨by rfl, ?_⟩) (by assumption) ?_
          rotate_left
          · intro w hSw; (try dsimp only at hSw); go_simp; try with_reducible rfl
          try simp only [Act.put, List.setIfInBounds_toArray, List.set_cons_zero, List.set_cons_succ]
          refine wpAnyH_ready (rs := [14]) (by kernel_rfl) (by simp) ?_
          refine AllReadyH.cons (o := { dst := none, op := Go.Op.store 31 (Go.Operand.tmp 6) (Go.Operand.tmp 32), type := 0, pos := "l6_tower.go:163", after := #[{ on := 13, ground := Go.Ground.data }, { on := 12, ground := Go.Ground.data }, { on := 11, ground := Go.Ground.chain }, { on := 0, ground := Go.Ground.phase }, { on := 1, ground := Go.Ground.phase }, { on := 2, ground := Go.Ground.phase }, { on := 3, ground := Go.Ground.phase }, { on := 4, ground := Go.Ground.phase }, { on := 5, ground := Go.Ground.phase }, { on := 6, ground := Go.Ground.phase }, { on := 7, ground := Go.Ground.phase }, { on := 8, ground := Go.Ground.phase }, { on := 9, ground := Go.Ground.phase }, { on := 10, ground := Go.Ground.phase }, { on := 11, ground := Go.Ground.phase }, { on := 12, ground := Go.Ground.phase }, { on := 13, ground := Go.Ground.phase }], guard := none }) rfl (fun K hK => ?_) AllReadyH.nil
          have j0 := OB.c0
          have j1 := OB.c1
          have j2 := OB.f0
          have j3 := OB.f1
          have hbl3 : w.heap.size + 2 ≤ w3.heap.size := by omega
          have NT := ((NS.next hBn9).set (o := 0) (u := .slice ad0 tt.length cd0) HR.out (show w.heap.size < w3.heap.size by omega)).set (o := 1) (u := .slice none 0 0) HR.out (show w.heap.size < w3.heap.size by omega)
          go_simp
          refine hK.out _ _ ?_ (fun hHeld => ?_)
          · exact ⟨NT.b0, NT.b1⟩
          clear hK K
          try simp only [Act.put, List.setIfInBounds_toArray, List.set_cons_zero, List.set_cons_succ]
          refine wpAnyH_done (by kernel_rfl) ?_ _
          have VL := ((VS.next hBn9).set (o := 0) (u := .slice ad0 tt.length cd0) (show w3.heap.size ≠ w.heap.size + 1 by omega) ⟨_, OB.c0⟩).set (o := 1) (u := .slice none 0 0) (show w3.heap.size ≠ w.heap.size + 1 by omega) ⟨_, (OB.put0).c1⟩
          have OM := (OB.put0 (u := .slice ad0 tt.length cd0)).put1 (u := .slice none 0 0)
          have q0 := ((o1.setFar (b := w3.heap.size) (o := 0) (x := .slice ad0 tt.length cd0) (fun e => ne0 _ e rfl)).setFar (b := w3.heap.size) (o := 1) (x := .slice none 0 0) (fun e => ne0 _ e rfl)).base (B' := w.heap.size + 2) hzS
          have HNE := Lib.hid ne0
          clear j0 j1 j2 j3 OB hHeld NS VS HT HD KB ne0 hzb o1
          generalize (w9.setCell ⟨w3.heap.size, 0, none⟩ (.slice ad0 tt.length cd0)).setCell ⟨w3.heap.size, 1, none⟩ (.slice none 0 0) = WL at *
          generalize w3.heap.size = bo at *
          have h0 := NT.b0
          have h1 := NT.b1
          go_wp2
          go_loopw [36] (fun c wr => ∃ (k : Nat) (vc : Value), k ≤ m ∧ c = .int .i64 k ∧ NB w wr a0 n p0 a1 m p1 ts ls ∧ Var2 wr (w.heap.size + 1) (.slice none 0 0) (.slice none 0 0) ∧ Var2 wr bo (.slice ad0 tt.length cd0) vc ∧ OwnR 62 c3 3 wr (w.heap.size + 2) (.slice ad0 tt.length cd0) tt ∧ OwnR 53 c3 3 wr (bo + 1) vc (dropL (I : Int) (ls.take k))) (fun c wr => m - (intOf c).toNat)
          case atStart => exact ⟨0, _, Nat.zero_le _, rfl, NT, VL, OM, q0, OwnR.nil _ _⟩
          case round =>
            clear h0 h1 NT VL OM q0 
            obtain ⟨k, vc, hk, rfl, NK, VK, OK, qT, qL⟩ := hrel
            obtain ⟨avc, cvc, rfl, -⟩ := qL.rd.len
            obtain ⟨DL, hDL⟩ : ∃ DL, dropL (I : Int) (ls.take k) = DL := ⟨_, rfl⟩
            rw [hDL] at OK qL
            have HDLk := Lib.hid hDL
            clear hDL
            have h0 := NK.b0
            have h1 := NK.b1
            have j0 := OK.c0
            have j1 := OK.c1
            have hob := OK.lt
            by_cases hlt : k < m
            · obtain ⟨g, off, rfl, hg, e0, e1, e2⟩ := NK.rd.2.at3 HM.out k hlt
              have HDL : Hid (dropL (I : Int) (ls.take (k + 1)) = DL ++ dropOne (I : Int) (rAt ls k)) := Lib.hid (by rw [← HDLk.out]; exact dropL_take (by rw [← HM.out]; exact hlt))
              have HKL : Hid (DL.length ≤ 40) := Lib.hid (by rw [← HDLk.out]; have := dropL_len (I : Int) (ls.take k); simp at this; omega)
              have hln := HOK.out.lnk k (by rw [← HM.out]; exact hlt)
              rw [← HN.out] at hln
              have hl0 : 0 ≤ (rAt ls k).x0 ∧ (rAt ls k).x0 ≤ 16 := by omega
              have hl1 : 0 ≤ (rAt ls k).x1 ∧ (rAt ls k).x1 ≤ 16 := by omega
              have HD1 : Hid (dropOne (I : Int) (rAt ls k) = dropOne (I : Int) ⟨(rAt ls k).x0, (rAt ls k).x1, (rAt ls k).x2⟩) := Lib.hid rfl
              clear hln
              generalize (rAt ls k).x0 = x0 at *
              generalize (rAt ls k).x1 = x1 at *
              generalize (rAt ls k).x2 = x2 at *
              by_cases d0 : x0 = (I : Int)
              · have b0 : (x0 == (I : Int)) = true := by simpa using d0
                have E1 : Hid (dropL (I : Int) (ls.take (k + 1)) = DL) := Lib.hid (by rw [HDL.out, HD1.out]; simp [dropOne, d0])
                clear d0
                go_wp2
                go_roundw
                case rel => exact ⟨k + 1, _, by omega, by go_num, NK.next ((Below.refl wr.heap.size wr).alloc (Nat.le_refl _) (.cells #[.int .i64 x0, .int .i64 x1, .int .i64 x2] 53)), VK.next ((Below.refl wr.heap.size wr).alloc (Nat.le_refl _) (.cells #[.int .i64 x0, .int .i64 x1, .int .i64 x2] 53)), OK.next ((Below.refl wr.heap.size wr).alloc (Nat.le_refl _) (.cells #[.int .i64 x0, .int .i64 x1, .int .i64 x2] 53)), qT.later ((Below.refl wr.heap.size wr).alloc (Nat.le_refl _) (.cells #[.int .i64 x0, .int .i64 x1, .int .i64 x2] 53)), by rw [E1.out]; exact qL.later ((Below.refl wr.heap.size wr).alloc (Nat.le_refl _) (.cells #[.int .i64 x0, .int .i64 x1, .int .i64 x2] 53))⟩
                case measure => simp [intOf]; omega
              · have b0 : (x0 == (I : Int)) = false := by simpa using d0
                by_cases d1 : x1 = (I : Int)
                · have b1 : (x1 == (I : Int)) = true := by simpa using d1
                  have E1 : Hid (dropL (I : Int) (ls.take (k + 1)) = DL) := Lib.hid (by rw [HDL.out, HD1.out]; simp [dropOne, d1])
                  clear d0 d1
                  go_wp2
                  go_roundw
                  case rel => exact ⟨k + 1, _, by omega, by go_num, NK.next ((Below.refl wr.heap.size wr).alloc (Nat.le_refl _) (.cells #[.int .i64 x0, .int .i64 x1, .int .i64 x2] 53)), VK.next ((Below.refl wr.heap.size wr).alloc (Nat.le_refl _) (.cells #[.int .i64 x0, .int .i64 x1, .int .i64 x2] 53)), OK.next ((Below.refl wr.heap.size wr).alloc (Nat.le_refl _) (.cells #[.int .i64 x0, .int .i64 x1, .int .i64 x2] 53)), qT.later ((Below.refl wr.heap.size wr).alloc (Nat.le_refl _) (.cells #[.int .i64 x0, .int .i64 x1, .int .i64 x2] 53)), by rw [E1.out]; exact qL.later ((Below.refl wr.heap.size wr).alloc (Nat.le_refl _) (.cells #[.int .i64 x0, .int .i64 x1, .int .i64 x2] 53))⟩
                  case measure => simp [intOf]; omega
                · have b1 : (x1 == (I : Int)) = false := by simpa using d1
                  by_cases g0 : (I : Int) < x0
                  · by_cases g1 : (I : Int) < x1
                    · have E1 : Hid (dropL (I : Int) (ls.take (k + 1)) = DL ++ [⟨x0 - 1, x1 - 1, x2⟩]) := Lib.hid (by rw [HDL.out, HD1.out]; simp [dropOne, dwx, d0, d1, g0, g1])
                      have hwa : IntKind.i64.wrap (x0 - 1) = x0 - 1 := IntWalk.i64_in _ (by omega)
                      have hwc : IntKind.i64.wrap (x1 - 1) = x1 - 1 := IntWalk.i64_in _ (by omega)
                      have alA := ((Below.refl wr.heap.size wr).alloc (Nat.le_refl _) (.cells #[.int .i64 (x0 - 1), .int .i64 (x1 - 1), .int .i64 x2] 53))
                      have alB := ((Below.refl (wr.alloc (.cells #[.int .i64 (x0 - 1), .int .i64 (x1 - 1), .int .i64 x2] 53)).heap.size (wr.alloc (.cells #[.int .i64 (x0 - 1), .int .i64 (x1 - 1), .int .i64 x2] 53))).alloc (Nat.le_refl _) (.cells #[.int .i64 (x0 - 1), .int .i64 (x1 - 1), .int .i64 x2] 53))
                      have NA := (NK.next alA).next alB
                      have VA := (VK.next alA).next alB
                      have OA := (OK.next alA).next alB
                      have tA := (qT.later alA).later alB
                      have lA := (qL.later alA).later alB
                      have hzB : bo + 1 ≤ ((wr.alloc (.cells #[.int .i64 (x0 - 1), .int .i64 (x1 - 1), .int .i64 x2] 53)).alloc (.cells #[.int .i64 (x0 - 1), .int .i64 (x1 - 1), .int .i64 x2] 53)).heap.size := by simp; omega
                      have n0 : ((wr.alloc (.cells #[.int .i64 (x0 - 1), .int .i64 (x1 - 1), .int .i64 x2] 53)).alloc (.cells #[.int .i64 (x0 - 1), .int .i64 (x1 - 1), .int .i64 x2] 53)).cell? ⟨wr.heap.size + 1, 0, none⟩ = some (.int .i64 (x0 - 1)) := by simp [go_sem]
                      have n1 : ((wr.alloc (.cells #[.int .i64 (x0 - 1), .int .i64 (x1 - 1), .int .i64 x2] 53)).alloc (.cells #[.int .i64 (x0 - 1), .int .i64 (x1 - 1), .int .i64 x2] 53)).cell? ⟨wr.heap.size + 1, 1, none⟩ = some (.int .i64 (x1 - 1)) := by simp [go_sem]
                      have n2 : ((wr.alloc (.cells #[.int .i64 (x0 - 1), .int .i64 (x1 - 1), .int .i64 x2] 53)).alloc (.cells #[.int .i64 (x0 - 1), .int .i64 (x1 - 1), .int .i64 x2] 53)).cell? ⟨wr.heap.size + 1, 2, none⟩ = some (.int .i64 x2) := by simp [go_sem]
                      have hone := RdR.one3 (c := 1) ⟨x0 - 1, x1 - 1, x2⟩ (World.block_lt_of_cell? _ _ n0) (Nat.le_refl _) (by unfold maxLen; decide) n0 n1 n2
                      have HL2 : Hid (DL.length + ([⟨x0 - 1, x1 - 1, x2⟩] : List T3).length ≤ 4194304) := Lib.hid (by have := HKL.out; simp; omega)
                      clear d0 d1 n0 n1 n2 alA alB
                      go_wp2_with (at_builtin; refine append_LinkS rfl _ _ rfl (bo + 1) _ _ DL [⟨x0 - 1, x1 - 1, x2⟩] rfl rfl lA hone HL2.out hzB ?_; intro v2 w2 o2 hg2 hat2; rw [← E1.out] at o2; obtain ⟨ad2, cd2, rfl, -⟩ := o2.rd.len; have hB2 := (Below.refl (bo + 1) _).grown hg2 hzB (fun i hi => (lA.lt i hi).1); have OB := OA.below hB2 (by omega) hzB; have j5 := OB.c0; have j6 := OB.c1; have j7 := OB.f1)
                      go_roundw
                      case rel => exact ⟨k + 1, _, by omega, by go_num, (NA.grown HR.out hg2 (fun i hi => by have := (lA.lt i hi).1; omega)).set HR.out (show w.heap.size < bo by omega), (VA.below hB2 (by omega) hzB).set (show bo ≠ w.heap.size + 1 by omega) ⟨_, j6⟩, OB.put1, (tA.kept hg2 (row_apart tA lA (by decide))).setFar (fun e => HNE.out _ e rfl), o2.setFar (fun e => by have := (o2.lt _ e).1; omega)⟩
                      case measure => simp [intOf]; omega
                    · have E1 : Hid (dropL (I : Int) (ls.take (k + 1)) = DL ++ [⟨x0 - 1, x1, x2⟩]) := Lib.hid (by rw [HDL.out, HD1.out]; simp [dropOne, dwx, d0, d1, g0, g1])
                      have hwa : IntKind.i64.wrap (x0 - 1) = x0 - 1 := IntWalk.i64_in _ (by omega)
                      have alA := ((Below.refl wr.heap.size wr).alloc (Nat.le_refl _) (.cells #[.int .i64 (x0 - 1), .int .i64 x1, .int .i64 x2] 53))
                      have alB := ((Below.refl (wr.alloc (.cells #[.int .i64 (x0 - 1), .int .i64 x1, .int .i64 x2] 53)).heap.size (wr.alloc (.cells #[.int .i64 (x0 - 1), .int .i64 x1, .int .i64 x2] 53))).alloc (Nat.le_refl _) (.cells #[.int .i64 (x0 - 1), .int .i64 x1, .int .i64 x2] 53))
                      have NA := (NK.next alA).next alB
                      have VA := (VK.next alA).next alB
                      have OA := (OK.next alA).next alB
                      have tA := (qT.later alA).later alB
                      have lA := (qL.later alA).later alB
                      have hzB : bo + 1 ≤ ((wr.alloc (.cells #[.int .i64 (x0 - 1), .int .i64 x1, .int .i64 x2] 53)).alloc (.cells #[.int .i64 (x0 - 1), .int .i64 x1, .int .i64 x2] 53)).heap.size := by simp; omega
                      have n0 : ((wr.alloc (.cells #[.int .i64 (x0 - 1), .int .i64 x1, .int .i64 x2] 53)).alloc (.cells #[.int .i64 (x0 - 1), .int .i64 x1, .int .i64 x2] 53)).cell? ⟨wr.heap.size + 1, 0, none⟩ = some (.int .i64 (x0 - 1)) := by simp [go_sem]
                      have n1 : ((wr.alloc (.cells #[.int .i64 (x0 - 1), .int .i64 x1, .int .i64 x2] 53)).alloc (.cells #[.int .i64 (x0 - 1), .int .i64 x1, .int .i64 x2] 53)).cell? ⟨wr.heap.size + 1, 1, none⟩ = some (.int .i64 (x1)) := by simp [go_sem]
                      have n2 : ((wr.alloc (.cells #[.int .i64 (x0 - 1), .int .i64 x1, .int .i64 x2] 53)).alloc (.cells #[.int .i64 (x0 - 1), .int .i64 x1, .int .i64 x2] 53)).cell? ⟨wr.heap.size + 1, 2, none⟩ = some (.int .i64 x2) := by simp [go_sem]
                      have hone := RdR.one3 (c := 1) ⟨x0 - 1, x1, x2⟩ (World.block_lt_of_cell? _ _ n0) (Nat.le_refl _) (by unfold maxLen; decide) n0 n1 n2
                      have HL2 : Hid (DL.length + ([⟨x0 - 1, x1, x2⟩] : List T3).length ≤ 4194304) := Lib.hid (by have := HKL.out; simp; omega)
                      clear d0 d1 n0 n1 n2 alA alB
                      go_wp2_with (at_builtin; refine append_LinkS rfl _ _ rfl (bo + 1) _ _ DL [⟨x0 - 1, x1, x2⟩] rfl rfl lA hone HL2.out hzB ?_; intro v2 w2 o2 hg2 hat2; rw [← E1.out] at o2; obtain ⟨ad2, cd2, rfl, -⟩ := o2.rd.len; have hB2 := (Below.refl (bo + 1) _).grown hg2 hzB (fun i hi => (lA.lt i hi).1); have OB := OA.below hB2 (by omega) hzB; have j5 := OB.c0; have j6 := OB.c1; have j7 := OB.f1)
                      go_roundw
                      case rel => exact ⟨k + 1, _, by omega, by go_num, (NA.grown HR.out hg2 (fun i hi => by have := (lA.lt i hi).1; omega)).set HR.out (show w.heap.size < bo by omega), (VA.below hB2 (by omega) hzB).set (show bo ≠ w.heap.size + 1 by omega) ⟨_, j6⟩, OB.put1, (tA.kept hg2 (row_apart tA lA (by decide))).setFar (fun e => HNE.out _ e rfl), o2.setFar (fun e => by have := (o2.lt _ e).1; omega)⟩
                      case measure => simp [intOf]; omega
                  · by_cases g1 : (I : Int) < x1
                    · have E1 : Hid (dropL (I : Int) (ls.take (k + 1)) = DL ++ [⟨x0, x1 - 1, x2⟩]) := Lib.hid (by rw [HDL.out, HD1.out]; simp [dropOne, dwx, d0, d1, g0, g1])
                      have hwc : IntKind.i64.wrap (x1 - 1) = x1 - 1 := IntWalk.i64_in _ (by omega)
                      have alA := ((Below.refl wr.heap.size wr).alloc (Nat.le_refl _) (.cells #[.int .i64 x0, .int .i64 (x1 - 1), .int .i64 x2] 53))
                      have alB := ((Below.refl (wr.alloc (.cells #[.int .i64 x0, .int .i64 (x1 - 1), .int .i64 x2] 53)).heap.size (wr.alloc (.cells #[.int .i64 x0, .int .i64 (x1 - 1), .int .i64 x2] 53))).alloc (Nat.le_refl _) (.cells #[.int .i64 x0, .int .i64 (x1 - 1), .int .i64 x2] 53))
                      have NA := (NK.next alA).next alB
                      have VA := (VK.next alA).next alB
                      have OA := (OK.next alA).next alB
                      have tA := (qT.later alA).later alB
                      have lA := (qL.later alA).later alB
                      have hzB : bo + 1 ≤ ((wr.alloc (.cells #[.int .i64 x0, .int .i64 (x1 - 1), .int .i64 x2] 53)).alloc (.cells #[.int .i64 x0, .int .i64 (x1 - 1), .int .i64 x2] 53)).heap.size := by simp; omega
                      have n0 : ((wr.alloc (.cells #[.int .i64 x0, .int .i64 (x1 - 1), .int .i64 x2] 53)).alloc (.cells #[.int .i64 x0, .int .i64 (x1 - 1), .int .i64 x2] 53)).cell? ⟨wr.heap.size + 1, 0, none⟩ = some (.int .i64 (x0)) := by simp [go_sem]
                      have n1 : ((wr.alloc (.cells #[.int .i64 x0, .int .i64 (x1 - 1), .int .i64 x2] 53)).alloc (.cells #[.int .i64 x0, .int .i64 (x1 - 1), .int .i64 x2] 53)).cell? ⟨wr.heap.size + 1, 1, none⟩ = some (.int .i64 (x1 - 1)) := by simp [go_sem]
                      have n2 : ((wr.alloc (.cells #[.int .i64 x0, .int .i64 (x1 - 1), .int .i64 x2] 53)).alloc (.cells #[.int .i64 x0, .int .i64 (x1 - 1), .int .i64 x2] 53)).cell? ⟨wr.heap.size + 1, 2, none⟩ = some (.int .i64 x2) := by simp [go_sem]
                      have hone := RdR.one3 (c := 1) ⟨x0, x1 - 1, x2⟩ (World.block_lt_of_cell? _ _ n0) (Nat.le_refl _) (by unfold maxLen; decide) n0 n1 n2
                      have HL2 : Hid (DL.length + ([⟨x0, x1 - 1, x2⟩] : List T3).length ≤ 4194304) := Lib.hid (by have := HKL.out; simp; omega)
                      clear d0 d1 n0 n1 n2 alA alB
                      go_wp2_with (at_builtin; refine append_LinkS rfl _ _ rfl (bo + 1) _ _ DL [⟨x0, x1 - 1, x2⟩] rfl rfl lA hone HL2.out hzB ?_; intro v2 w2 o2 hg2 hat2; rw [← E1.out] at o2; obtain ⟨ad2, cd2, rfl, -⟩ := o2.rd.len; have hB2 := (Below.refl (bo + 1) _).grown hg2 hzB (fun i hi => (lA.lt i hi).1); have OB := OA.below hB2 (by omega) hzB; have j5 := OB.c0; have j6 := OB.c1; have j7 := OB.f1)
                      go_roundw
                      case rel => exact ⟨k + 1, _, by omega, by go_num, (NA.grown HR.out hg2 (fun i hi => by have := (lA.lt i hi).1; omega)).set HR.out (show w.heap.size < bo by omega), (VA.below hB2 (by omega) hzB).set (show bo ≠ w.heap.size + 1 by omega) ⟨_, j6⟩, OB.put1, (tA.kept hg2 (row_apart tA lA (by decide))).setFar (fun e => HNE.out _ e rfl), o2.setFar (fun e => by have := (o2.lt _ e).1; omega)⟩
                      case measure => simp [intOf]; omega
                    · have E1 : Hid (dropL (I : Int) (ls.take (k + 1)) = DL ++ [⟨x0, x1, x2⟩]) := Lib.hid (by rw [HDL.out, HD1.out]; simp [dropOne, dwx, d0, d1, g0, g1])
                      have alA := ((Below.refl wr.heap.size wr).alloc (Nat.le_refl _) (.cells #[.int .i64 x0, .int .i64 x1, .int .i64 x2] 53))
                      have alB := ((Below.refl (wr.alloc (.cells #[.int .i64 x0, .int .i64 x1, .int .i64 x2] 53)).heap.size (wr.alloc (.cells #[.int .i64 x0, .int .i64 x1, .int .i64 x2] 53))).alloc (Nat.le_refl _) (.cells #[.int .i64 x0, .int .i64 x1, .int .i64 x2] 53))
                      have NA := (NK.next alA).next alB
                      have VA := (VK.next alA).next alB
                      have OA := (OK.next alA).next alB
                      have tA := (qT.later alA).later alB
                      have lA := (qL.later alA).later alB
                      have hzB : bo + 1 ≤ ((wr.alloc (.cells #[.int .i64 x0, .int .i64 x1, .int .i64 x2] 53)).alloc (.cells #[.int .i64 x0, .int .i64 x1, .int .i64 x2] 53)).heap.size := by simp; omega
                      have n0 : ((wr.alloc (.cells #[.int .i64 x0, .int .i64 x1, .int .i64 x2] 53)).alloc (.cells #[.int .i64 x0, .int .i64 x1, .int .i64 x2] 53)).cell? ⟨wr.heap.size + 1, 0, none⟩ = some (.int .i64 (x0)) := by simp [go_sem]
                      have n1 : ((wr.alloc (.cells #[.int .i64 x0, .int .i64 x1, .int .i64 x2] 53)).alloc (.cells #[.int .i64 x0, .int .i64 x1, .int .i64 x2] 53)).cell? ⟨wr.heap.size + 1, 1, none⟩ = some (.int .i64 (x1)) := by simp [go_sem]
                      have n2 : ((wr.alloc (.cells #[.int .i64 x0, .int .i64 x1, .int .i64 x2] 53)).alloc (.cells #[.int .i64 x0, .int .i64 x1, .int .i64 x2] 53)).cell? ⟨wr.heap.size + 1, 2, none⟩ = some (.int .i64 x2) := by simp [go_sem]
                      have hone := RdR.one3 (c := 1) ⟨x0, x1, x2⟩ (World.block_lt_of_cell? _ _ n0) (Nat.le_refl _) (by unfold maxLen; decide) n0 n1 n2
                      have HL2 : Hid (DL.length + ([⟨x0, x1, x2⟩] : List T3).length ≤ 4194304) := Lib.hid (by have := HKL.out; simp; omega)
                      clear d0 d1 n0 n1 n2 alA alB
                      go_wp2_with (at_builtin; refine append_LinkS rfl _ _ rfl (bo + 1) _ _ DL [⟨x0, x1, x2⟩] rfl rfl lA hone HL2.out hzB ?_; intro v2 w2 o2 hg2 hat2; rw [← E1.out] at o2; obtain ⟨ad2, cd2, rfl, -⟩ := o2.rd.len; have hB2 := (Below.refl (bo + 1) _).grown hg2 hzB (fun i hi => (lA.lt i hi).1); have OB := OA.below hB2 (by omega) hzB; have j5 := OB.c0; have j6 := OB.c1; have j7 := OB.f1)
                      go_roundw
                      case rel => exact ⟨k + 1, _, by omega, by go_num, (NA.grown HR.out hg2 (fun i hi => by have := (lA.lt i hi).1; omega)).set HR.out (show w.heap.size < bo by omega), (VA.below hB2 (by omega) hzB).set (show bo ≠ w.heap.size + 1 by omega) ⟨_, j6⟩, OB.put1, (tA.kept hg2 (row_apart tA lA (by decide))).setFar (fun e => HNE.out _ e rfl), o2.setFar (fun e => by have := (o2.lt _ e).1; omega)⟩
                      case measure => simp [intOf]; omega
            · obtain rfl : k = m := by omega
              have HQ : Hid (DL = dropL (I : Int) ls) := Lib.hid (by rw [← HDLk.out, HM.out, List.take_length])
              have r0 := VK.c0
              have r1 := VK.c1
              have s0 := VK.f0
              have s1 := VK.f1
              have sz := VK.lt
              go_wp2
              refine bodyPost_ret (v := .tuple #[.agg #[.slice ad0 tt.length cd0, .slice avc DL.length cvc], .bool true]) (by simp [results, Try.results40, go_sem, r0, r1, s0, s1, j0, j1, sz]) rfl ⟨_, _, by rw [HF.out.1], ?_, ?_⟩
              · rw [HF.out.2.1, HF.out.2.2, HTT.out, ← HQ.out]
                have u0 := ((qT.setFar (b := w.heap.size + 1) (o := 0) (x := .slice ad0 tt.length cd0) (fun e => by have := (qT.lt _ e).1; omega)).setFar (b := w.heap.size + 1) (o := 1) (x := .slice avc DL.length cvc) (fun e => by have := (qT.lt _ e).1; omega)).base (B' := w.heap.size) (by omega)
                have u1 := ((qL.setFar (b := w.heap.size + 1) (o := 0) (x := .slice ad0 tt.length cd0) (fun e => by have := (qL.lt _ e).1; omega)).setFar (b := w.heap.size + 1) (o := 1) (x := .slice avc DL.length cvc) (fun e => by have := (qL.lt _ e).1; omega)).base (B' := w.heap.size) (by omega)
                exact ⟨⟨u0, fun k hk => (u0.lt k hk).2⟩, ⟨u1, fun k hk => (u1.lt k hk).2⟩⟩
              · exact (NK.below.setCell (p := ⟨w.heap.size + 1, 0, none⟩) (by show w.heap.size ≤ w.heap.size + 1; omega) _).setCell (p := ⟨w.heap.size + 1, 1, none⟩) (by show w.heap.size ≤ w.heap.size + 1; omega) _
        refine AllReadyH.cons (o := { dst := some 6, op := Go.Op.alloc 31, type := 0, pos := "l6_tower.go:163", after := #[], guard := none }) rfl (fun K hK => ?_) AllReadyH.nil
        have ne0 := fun k hk => Nat.ne_of_lt (e0.lt k hk).2
        go_simp
        refine hK.out _ _ ?_ (fun hHeld => ?_)
        · exact KB.out _ (hB2.alloc hB2.size _)
        clear hK K
        try simp only [Act.put, List.setIfInBounds_toArray, List.set_cons_zero, List.set_cons_succ]
        refine wpAnyH_name ?_
        intro w10 hw10
        rw [← hw10] at hHeld
        have hb10 := below_alloc hw10
        have z10 := lt_named hw10
        have OB : Var2 w10 w1.heap.size (.slice none 0 0) (.slice none 0 0) := by rw [hw10]; exact Var2.new _ _ _ _
        have hbl := hB2.size
        have hzb := z10
        clear hw10
        have e0 := e0.later hb10
        have hB11 := hB2.trans (hb10.mono hB2.size)
        refine wpAnyH_ready (rs := [5]) (by kernel_rfl) (by simp) ?_
        refine AllReadyH.cons (o := { dst := some 25, op := Go.Op.call { callee := Go.Callee.builtin Go.Builtin.append, args := #[Go.Operand.tmp 20, Go.Operand.tmp 24], argTypes := #[28, 28] }, type := 28, pos := "l6_tower.go:163", after := #[{ on := 0, ground := Go.Ground.data }, { on := 4, ground := Go.Ground.data }], guard := none }) rfl (fun K hK => ?_) AllReadyH.nil
        refine step_append_TowerS (by rfl) _ _ (by rfl) wS.heap.size _ _ [] (ts.take I) (by rfl) (by rfl) e0 (HT.out.later hB11) HL1.out (hB11.size) ?_
        intro v12 w12 o0 hg12 hat12
        have hBn12 := hB11.grown hg12 hB11.size (fun k hk => (e0.lt k hk).1)
        have ne1 : ∀ j, v12.ownBlock = some j → j ≠ w1.heap.size := fun j hj => by
          rcases hat12 with hq | hq
          · exact ne0 j (hq ▸ hj)
          · rw [hq] at hj; simp at hj; omega
        have OB := OB.grownN hg12 (fun hj => ne0 _ hj rfl)
        have hzb := Nat.lt_of_lt_of_le hzb hg12.size
        rw [List.nil_append] at o0
        try go_simp
        refine hK.out _ _ ?_ (fun hHeld => ?_)
        · exact KB.out _ hBn12
        clear hK K
        try simp only [Act.put, List.setIfInBounds_toArray, List.set_cons_zero, List.set_cons_succ]
        clear ne0
        have ne0 := ne1
        clear ne1
        refine wpAnyH_ready (rs := [11]) (by kernel_rfl) (by simp) ?_
        refine AllReadyH.cons (o := { dst := some 31, op := Go.Op.call { callee := Go.Callee.builtin Go.Builtin.append, args := #[Go.Operand.tmp 25, Go.Operand.tmp 30], argTypes := #[28, 28] }, type := 28, pos := "l6_tower.go:163", after := #[{ on := 5, ground := Go.Ground.data }, { on := 10, ground := Go.Ground.data }, { on := 5, ground := Go.Ground.chain }], guard := none }) rfl (fun K hK => ?_) AllReadyH.nil
        refine step_append_TowerS (by rfl) _ _ (by rfl) wS.heap.size _ _ (ts.take I) (ts.drop I1) (by rfl) (by rfl) o0 (HD.out.later hBn12) HL2.out (hBn12.size) ?_
        intro v13 w13 o1 hg13 hat13
        have hBn13 := hBn12.grown hg13 hBn12.size (fun k hk => (o0.lt k hk).1)
        have ne1 : ∀ j, v13.ownBlock = some j → j ≠ w1.heap.size := fun j hj => by
          rcases hat13 with hq | hq
          · exact ne0 j (hq ▸ hj)
          · rw [hq] at hj; simp at hj; omega
        have OB := OB.grownN hg13 (fun hj => ne0 _ hj rfl)
        have hzb := Nat.lt_of_lt_of_le hzb hg13.size
        have o1 := o1
        rw [HT2.out] at o1
        obtain ⟨ad0, cd0, rfl, -⟩ := o1.rd.len
        try go_simp
        refine hK.out _ _ ?_ (fun hHeld => ?_)
        · exact KB.out _ hBn13
        clear hK K
        try simp only [Act.put, List.setIfInBounds_toArray, List.set_cons_zero, List.set_cons_succ]
        clear ne0
        have ne0 := ne1
        clear ne1
        refine wpAnyH_take (i := 12) (oi := { dst := some 32, op := Go.Op.build 31 #[(0, Go.Operand.tmp 31)], type := 31, pos := "l6_tower.go:163", after := #[{ on := 11, ground := Go.Ground.data }], guard := none }) (v := ?_) rfl (by kernel_rfl) (by kernel_rfl) (by kernel_rfl) (fun _ _ _ h => h) (Or.inl ⟨by rfl, ?_⟩) (by assumption) ?_
        rotate_left
        · intro w hSw; (try dsimp only at hSw); go_simp; try with_reducible rfl
        try simp only [Act.put, List.setIfInBounds_toArray, List.set_cons_zero, List.set_cons_succ]
        refine wpAnyH_ready (rs := [14]) (by kernel_rfl) (by simp) ?_
        refine AllReadyH.cons (o := { dst := none, op := Go.Op.store 31 (Go.Operand.tmp 6) (Go.Operand.tmp 32), type := 0, pos := "l6_tower.go:163", after := #[{ on := 13, ground := Go.Ground.data }, { on := 12, ground := Go.Ground.data }, { on := 11, ground := Go.Ground.chain }, { on := 0, ground := Go.Ground.phase }, { on := 1, ground := Go.Ground.phase }, { on := 2, ground := Go.Ground.phase }, { on := 3, ground := Go.Ground.phase }, { on := 4, ground := Go.Ground.phase }, { on := 5, ground := Go.Ground.phase }, { on := 6, ground := Go.Ground.phase }, { on := 7, ground := Go.Ground.phase }, { on := 8, ground := Go.Ground.phase }, { on := 9, ground := Go.Ground.phase }, { on := 10, ground := Go.Ground.phase }, { on := 11, ground := Go.Ground.phase }, { on := 12, ground := Go.Ground.phase }, { on := 13, ground := Go.Ground.phase }], guard := none }) rfl (fun K hK => ?_) AllReadyH.nil
        have j0 := OB.c0
        have j1 := OB.c1
        have j2 := OB.f0
        have j3 := OB.f1
        have hbl3 : w.heap.size + 2 ≤ w1.heap.size := by omega
        have NT := ((NS.next hBn13).set (o := 0) (u := .slice ad0 tt.length cd0) HR.out (show w.heap.size < w1.heap.size by omega)).set (o := 1) (u := .slice none 0 0) HR.out (show w.heap.size < w1.heap.size by omega)
        go_simp
        refine hK.out _ _ ?_ (fun hHeld => ?_)
        · exact ⟨NT.b0, NT.b1⟩
        clear hK K
        try simp only [Act.put, List.setIfInBounds_toArray, List.set_cons_zero, List.set_cons_succ]
        refine wpAnyH_done (by kernel_rfl) ?_ _
        have VL := ((VS.next hBn13).set (o := 0) (u := .slice ad0 tt.length cd0) (show w1.heap.size ≠ w.heap.size + 1 by omega) ⟨_, OB.c0⟩).set (o := 1) (u := .slice none 0 0) (show w1.heap.size ≠ w.heap.size + 1 by omega) ⟨_, (OB.put0).c1⟩
        have OM := (OB.put0 (u := .slice ad0 tt.length cd0)).put1 (u := .slice none 0 0)
        have q0 := ((o1.setFar (b := w1.heap.size) (o := 0) (x := .slice ad0 tt.length cd0) (fun e => ne0 _ e rfl)).setFar (b := w1.heap.size) (o := 1) (x := .slice none 0 0) (fun e => ne0 _ e rfl)).base (B' := w.heap.size + 2) hzS
        have HNE := Lib.hid ne0
        clear j0 j1 j2 j3 OB hHeld NS VS HT HD KB ne0 hzb o1
        generalize (w13.setCell ⟨w1.heap.size, 0, none⟩ (.slice ad0 tt.length cd0)).setCell ⟨w1.heap.size, 1, none⟩ (.slice none 0 0) = WL at *
        generalize w1.heap.size = bo at *
        have h0 := NT.b0
        have h1 := NT.b1
        go_wp2
        go_loopw [36] (fun c wr => ∃ (k : Nat) (vc : Value), k ≤ m ∧ c = .int .i64 k ∧ NB w wr a0 n p0 a1 m p1 ts ls ∧ Var2 wr (w.heap.size + 1) (.slice none 0 0) (.slice none 0 0) ∧ Var2 wr bo (.slice ad0 tt.length cd0) vc ∧ OwnR 62 c3 3 wr (w.heap.size + 2) (.slice ad0 tt.length cd0) tt ∧ OwnR 53 c3 3 wr (bo + 1) vc (dropL (I : Int) (ls.take k))) (fun c wr => m - (intOf c).toNat)
        case atStart => exact ⟨0, _, Nat.zero_le _, rfl, NT, VL, OM, q0, OwnR.nil _ _⟩
        case round =>
          clear h0 h1 NT VL OM q0 
          obtain ⟨k, vc, hk, rfl, NK, VK, OK, qT, qL⟩ := hrel
          obtain ⟨avc, cvc, rfl, -⟩ := qL.rd.len
          obtain ⟨DL, hDL⟩ : ∃ DL, dropL (I : Int) (ls.take k) = DL := ⟨_, rfl⟩
          rw [hDL] at OK qL
          have HDLk := Lib.hid hDL
          clear hDL
          have h0 := NK.b0
          have h1 := NK.b1
          have j0 := OK.c0
          have j1 := OK.c1
          have hob := OK.lt
          by_cases hlt : k < m
          · obtain ⟨g, off, rfl, hg, e0, e1, e2⟩ := NK.rd.2.at3 HM.out k hlt
            have HDL : Hid (dropL (I : Int) (ls.take (k + 1)) = DL ++ dropOne (I : Int) (rAt ls k)) := Lib.hid (by rw [← HDLk.out]; exact dropL_take (by rw [← HM.out]; exact hlt))
            have HKL : Hid (DL.length ≤ 40) := Lib.hid (by rw [← HDLk.out]; have := dropL_len (I : Int) (ls.take k); simp at this; omega)
            have hln := HOK.out.lnk k (by rw [← HM.out]; exact hlt)
            rw [← HN.out] at hln
            have hl0 : 0 ≤ (rAt ls k).x0 ∧ (rAt ls k).x0 ≤ 16 := by omega
            have hl1 : 0 ≤ (rAt ls k).x1 ∧ (rAt ls k).x1 ≤ 16 := by omega
            have HD1 : Hid (dropOne (I : Int) (rAt ls k) = dropOne (I : Int) ⟨(rAt ls k).x0, (rAt ls k).x1, (rAt ls k).x2⟩) := Lib.hid rfl
            clear hln
            generalize (rAt ls k).x0 = x0 at *
            generalize (rAt ls k).x1 = x1 at *
            generalize (rAt ls k).x2 = x2 at *
            by_cases d0 : x0 = (I : Int)
            · have b0 : (x0 == (I : Int)) = true := by simpa using d0
              have E1 : Hid (dropL (I : Int) (ls.take (k + 1)) = DL) := Lib.hid (by rw [HDL.out, HD1.out]; simp [dropOne, d0])
              clear d0
              go_wp2
              go_roundw
              case rel => exact ⟨k + 1, _, by omega, by go_num, NK.next ((Below.refl wr.heap.size wr).alloc (Nat.le_refl _) (.cells #[.int .i64 x0, .int .i64 x1, .int .i64 x2] 53)), VK.next ((Below.refl wr.heap.size wr).alloc (Nat.le_refl _) (.cells #[.int .i64 x0, .int .i64 x1, .int .i64 x2] 53)), OK.next ((Below.refl wr.heap.size wr).alloc (Nat.le_refl _) (.cells #[.int .i64 x0, .int .i64 x1, .int .i64 x2] 53)), qT.later ((Below.refl wr.heap.size wr).alloc (Nat.le_refl _) (.cells #[.int .i64 x0, .int .i64 x1, .int .i64 x2] 53)), by rw [E1.out]; exact qL.later ((Below.refl wr.heap.size wr).alloc (Nat.le_refl _) (.cells #[.int .i64 x0, .int .i64 x1, .int .i64 x2] 53))⟩
              case measure => simp [intOf]; omega
            · have b0 : (x0 == (I : Int)) = false := by simpa using d0
              by_cases d1 : x1 = (I : Int)
              · have b1 : (x1 == (I : Int)) = true := by simpa using d1
                have E1 : Hid (dropL (I : Int) (ls.take (k + 1)) = DL) := Lib.hid (by rw [HDL.out, HD1.out]; simp [dropOne, d1])
                clear d0 d1
                go_wp2
                go_roundw
                case rel => exact ⟨k + 1, _, by omega, by go_num, NK.next ((Below.refl wr.heap.size wr).alloc (Nat.le_refl _) (.cells #[.int .i64 x0, .int .i64 x1, .int .i64 x2] 53)), VK.next ((Below.refl wr.heap.size wr).alloc (Nat.le_refl _) (.cells #[.int .i64 x0, .int .i64 x1, .int .i64 x2] 53)), OK.next ((Below.refl wr.heap.size wr).alloc (Nat.le_refl _) (.cells #[.int .i64 x0, .int .i64 x1, .int .i64 x2] 53)), qT.later ((Below.refl wr.heap.size wr).alloc (Nat.le_refl _) (.cells #[.int .i64 x0, .int .i64 x1, .int .i64 x2] 53)), by rw [E1.out]; exact qL.later ((Below.refl wr.heap.size wr).alloc (Nat.le_refl _) (.cells #[.int .i64 x0, .int .i64 x1, .int .i64 x2] 53))⟩
                case measure => simp [intOf]; omega
              · have b1 : (x1 == (I : Int)) = false := by simpa using d1
                by_cases g0 : (I : Int) < x0
                · by_cases g1 : (I : Int) < x1
                  · have E1 : Hid (dropL (I : Int) (ls.take (k + 1)) = DL ++ [⟨x0 - 1, x1 - 1, x2⟩]) := Lib.hid (by rw [HDL.out, HD1.out]; simp [dropOne, dwx, d0, d1, g0, g1])
                    have hwa : IntKind.i64.wrap (x0 - 1) = x0 - 1 := IntWalk.i64_in _ (by omega)
                    have hwc : IntKind.i64.wrap (x1 - 1) = x1 - 1 := IntWalk.i64_in _ (by omega)
                    have alA := ((Below.refl wr.heap.size wr).alloc (Nat.le_refl _) (.cells #[.int .i64 (x0 - 1), .int .i64 (x1 - 1), .int .i64 x2] 53))
                    have alB := ((Below.refl (wr.alloc (.cells #[.int .i64 (x0 - 1), .int .i64 (x1 - 1), .int .i64 x2] 53)).heap.size (wr.alloc (.cells #[.int .i64 (x0 - 1), .int .i64 (x1 - 1), .int .i64 x2] 53))).alloc (Nat.le_refl _) (.cells #[.int .i64 (x0 - 1), .int .i64 (x1 - 1), .int .i64 x2] 53))
                    have NA := (NK.next alA).next alB
                    have VA := (VK.next alA).next alB
                    have OA := (OK.next alA).next alB
                    have tA := (qT.later alA).later alB
                    have lA := (qL.later alA).later alB
                    have hzB : bo + 1 ≤ ((wr.alloc (.cells #[.int .i64 (x0 - 1), .int .i64 (x1 - 1), .int .i64 x2] 53)).alloc (.cells #[.int .i64 (x0 - 1), .int .i64 (x1 - 1), .int .i64 x2] 53)).heap.size := by simp; omega
                    have n0 : ((wr.alloc (.cells #[.int .i64 (x0 - 1), .int .i64 (x1 - 1), .int .i64 x2] 53)).alloc (.cells #[.int .i64 (x0 - 1), .int .i64 (x1 - 1), .int .i64 x2] 53)).cell? ⟨wr.heap.size + 1, 0, none⟩ = some (.int .i64 (x0 - 1)) := by simp [go_sem]
                    have n1 : ((wr.alloc (.cells #[.int .i64 (x0 - 1), .int .i64 (x1 - 1), .int .i64 x2] 53)).alloc (.cells #[.int .i64 (x0 - 1), .int .i64 (x1 - 1), .int .i64 x2] 53)).cell? ⟨wr.heap.size + 1, 1, none⟩ = some (.int .i64 (x1 - 1)) := by simp [go_sem]
                    have n2 : ((wr.alloc (.cells #[.int .i64 (x0 - 1), .int .i64 (x1 - 1), .int .i64 x2] 53)).alloc (.cells #[.int .i64 (x0 - 1), .int .i64 (x1 - 1), .int .i64 x2] 53)).cell? ⟨wr.heap.size + 1, 2, none⟩ = some (.int .i64 x2) := by simp [go_sem]
                    have hone := RdR.one3 (c := 1) ⟨x0 - 1, x1 - 1, x2⟩ (World.block_lt_of_cell? _ _ n0) (Nat.le_refl _) (by unfold maxLen; decide) n0 n1 n2
                    have HL2 : Hid (DL.length + ([⟨x0 - 1, x1 - 1, x2⟩] : List T3).length ≤ 4194304) := Lib.hid (by have := HKL.out; simp; omega)
                    clear d0 d1 n0 n1 n2 alA alB
                    go_wp2_with (at_builtin; refine append_LinkS rfl _ _ rfl (bo + 1) _ _ DL [⟨x0 - 1, x1 - 1, x2⟩] rfl rfl lA hone HL2.out hzB ?_; intro v2 w2 o2 hg2 hat2; rw [← E1.out] at o2; obtain ⟨ad2, cd2, rfl, -⟩ := o2.rd.len; have hB2 := (Below.refl (bo + 1) _).grown hg2 hzB (fun i hi => (lA.lt i hi).1); have OB := OA.below hB2 (by omega) hzB; have j5 := OB.c0; have j6 := OB.c1; have j7 := OB.f1)
                    go_roundw
                    case rel => exact ⟨k + 1, _, by omega, by go_num, (NA.grown HR.out hg2 (fun i hi => by have := (lA.lt i hi).1; omega)).set HR.out (show w.heap.size < bo by omega), (VA.below hB2 (by omega) hzB).set (show bo ≠ w.heap.size + 1 by omega) ⟨_, j6⟩, OB.put1, (tA.kept hg2 (row_apart tA lA (by decide))).setFar (fun e => HNE.out _ e rfl), o2.setFar (fun e => by have := (o2.lt _ e).1; omega)⟩
                    case measure => simp [intOf]; omega
                  · have E1 : Hid (dropL (I : Int) (ls.take (k + 1)) = DL ++ [⟨x0 - 1, x1, x2⟩]) := Lib.hid (by rw [HDL.out, HD1.out]; simp [dropOne, dwx, d0, d1, g0, g1])
                    have hwa : IntKind.i64.wrap (x0 - 1) = x0 - 1 := IntWalk.i64_in _ (by omega)
                    have alA := ((Below.refl wr.heap.size wr).alloc (Nat.le_refl _) (.cells #[.int .i64 (x0 - 1), .int .i64 x1, .int .i64 x2] 53))
                    have alB := ((Below.refl (wr.alloc (.cells #[.int .i64 (x0 - 1), .int .i64 x1, .int .i64 x2] 53)).heap.size (wr.alloc (.cells #[.int .i64 (x0 - 1), .int .i64 x1, .int .i64 x2] 53))).alloc (Nat.le_refl _) (.cells #[.int .i64 (x0 - 1), .int .i64 x1, .int .i64 x2] 53))
                    have NA := (NK.next alA).next alB
                    have VA := (VK.next alA).next alB
                    have OA := (OK.next alA).next alB
                    have tA := (qT.later alA).later alB
                    have lA := (qL.later alA).later alB
                    have hzB : bo + 1 ≤ ((wr.alloc (.cells #[.int .i64 (x0 - 1), .int .i64 x1, .int .i64 x2] 53)).alloc (.cells #[.int .i64 (x0 - 1), .int .i64 x1, .int .i64 x2] 53)).heap.size := by simp; omega
                    have n0 : ((wr.alloc (.cells #[.int .i64 (x0 - 1), .int .i64 x1, .int .i64 x2] 53)).alloc (.cells #[.int .i64 (x0 - 1), .int .i64 x1, .int .i64 x2] 53)).cell? ⟨wr.heap.size + 1, 0, none⟩ = some (.int .i64 (x0 - 1)) := by simp [go_sem]
                    have n1 : ((wr.alloc (.cells #[.int .i64 (x0 - 1), .int .i64 x1, .int .i64 x2] 53)).alloc (.cells #[.int .i64 (x0 - 1), .int .i64 x1, .int .i64 x2] 53)).cell? ⟨wr.heap.size + 1, 1, none⟩ = some (.int .i64 (x1)) := by simp [go_sem]
                    have n2 : ((wr.alloc (.cells #[.int .i64 (x0 - 1), .int .i64 x1, .int .i64 x2] 53)).alloc (.cells #[.int .i64 (x0 - 1), .int .i64 x1, .int .i64 x2] 53)).cell? ⟨wr.heap.size + 1, 2, none⟩ = some (.int .i64 x2) := by simp [go_sem]
                    have hone := RdR.one3 (c := 1) ⟨x0 - 1, x1, x2⟩ (World.block_lt_of_cell? _ _ n0) (Nat.le_refl _) (by unfold maxLen; decide) n0 n1 n2
                    have HL2 : Hid (DL.length + ([⟨x0 - 1, x1, x2⟩] : List T3).length ≤ 4194304) := Lib.hid (by have := HKL.out; simp; omega)
                    clear d0 d1 n0 n1 n2 alA alB
                    go_wp2_with (at_builtin; refine append_LinkS rfl _ _ rfl (bo + 1) _ _ DL [⟨x0 - 1, x1, x2⟩] rfl rfl lA hone HL2.out hzB ?_; intro v2 w2 o2 hg2 hat2; rw [← E1.out] at o2; obtain ⟨ad2, cd2, rfl, -⟩ := o2.rd.len; have hB2 := (Below.refl (bo + 1) _).grown hg2 hzB (fun i hi => (lA.lt i hi).1); have OB := OA.below hB2 (by omega) hzB; have j5 := OB.c0; have j6 := OB.c1; have j7 := OB.f1)
                    go_roundw
                    case rel => exact ⟨k + 1, _, by omega, by go_num, (NA.grown HR.out hg2 (fun i hi => by have := (lA.lt i hi).1; omega)).set HR.out (show w.heap.size < bo by omega), (VA.below hB2 (by omega) hzB).set (show bo ≠ w.heap.size + 1 by omega) ⟨_, j6⟩, OB.put1, (tA.kept hg2 (row_apart tA lA (by decide))).setFar (fun e => HNE.out _ e rfl), o2.setFar (fun e => by have := (o2.lt _ e).1; omega)⟩
                    case measure => simp [intOf]; omega
                · by_cases g1 : (I : Int) < x1
                  · have E1 : Hid (dropL (I : Int) (ls.take (k + 1)) = DL ++ [⟨x0, x1 - 1, x2⟩]) := Lib.hid (by rw [HDL.out, HD1.out]; simp [dropOne, dwx, d0, d1, g0, g1])
                    have hwc : IntKind.i64.wrap (x1 - 1) = x1 - 1 := IntWalk.i64_in _ (by omega)
                    have alA := ((Below.refl wr.heap.size wr).alloc (Nat.le_refl _) (.cells #[.int .i64 x0, .int .i64 (x1 - 1), .int .i64 x2] 53))
                    have alB := ((Below.refl (wr.alloc (.cells #[.int .i64 x0, .int .i64 (x1 - 1), .int .i64 x2] 53)).heap.size (wr.alloc (.cells #[.int .i64 x0, .int .i64 (x1 - 1), .int .i64 x2] 53))).alloc (Nat.le_refl _) (.cells #[.int .i64 x0, .int .i64 (x1 - 1), .int .i64 x2] 53))
                    have NA := (NK.next alA).next alB
                    have VA := (VK.next alA).next alB
                    have OA := (OK.next alA).next alB
                    have tA := (qT.later alA).later alB
                    have lA := (qL.later alA).later alB
                    have hzB : bo + 1 ≤ ((wr.alloc (.cells #[.int .i64 x0, .int .i64 (x1 - 1), .int .i64 x2] 53)).alloc (.cells #[.int .i64 x0, .int .i64 (x1 - 1), .int .i64 x2] 53)).heap.size := by simp; omega
                    have n0 : ((wr.alloc (.cells #[.int .i64 x0, .int .i64 (x1 - 1), .int .i64 x2] 53)).alloc (.cells #[.int .i64 x0, .int .i64 (x1 - 1), .int .i64 x2] 53)).cell? ⟨wr.heap.size + 1, 0, none⟩ = some (.int .i64 (x0)) := by simp [go_sem]
                    have n1 : ((wr.alloc (.cells #[.int .i64 x0, .int .i64 (x1 - 1), .int .i64 x2] 53)).alloc (.cells #[.int .i64 x0, .int .i64 (x1 - 1), .int .i64 x2] 53)).cell? ⟨wr.heap.size + 1, 1, none⟩ = some (.int .i64 (x1 - 1)) := by simp [go_sem]
                    have n2 : ((wr.alloc (.cells #[.int .i64 x0, .int .i64 (x1 - 1), .int .i64 x2] 53)).alloc (.cells #[.int .i64 x0, .int .i64 (x1 - 1), .int .i64 x2] 53)).cell? ⟨wr.heap.size + 1, 2, none⟩ = some (.int .i64 x2) := by simp [go_sem]
                    have hone := RdR.one3 (c := 1) ⟨x0, x1 - 1, x2⟩ (World.block_lt_of_cell? _ _ n0) (Nat.le_refl _) (by unfold maxLen; decide) n0 n1 n2
                    have HL2 : Hid (DL.length + ([⟨x0, x1 - 1, x2⟩] : List T3).length ≤ 4194304) := Lib.hid (by have := HKL.out; simp; omega)
                    clear d0 d1 n0 n1 n2 alA alB
                    go_wp2_with (at_builtin; refine append_LinkS rfl _ _ rfl (bo + 1) _ _ DL [⟨x0, x1 - 1, x2⟩] rfl rfl lA hone HL2.out hzB ?_; intro v2 w2 o2 hg2 hat2; rw [← E1.out] at o2; obtain ⟨ad2, cd2, rfl, -⟩ := o2.rd.len; have hB2 := (Below.refl (bo + 1) _).grown hg2 hzB (fun i hi => (lA.lt i hi).1); have OB := OA.below hB2 (by omega) hzB; have j5 := OB.c0; have j6 := OB.c1; have j7 := OB.f1)
                    go_roundw
                    case rel => exact ⟨k + 1, _, by omega, by go_num, (NA.grown HR.out hg2 (fun i hi => by have := (lA.lt i hi).1; omega)).set HR.out (show w.heap.size < bo by omega), (VA.below hB2 (by omega) hzB).set (show bo ≠ w.heap.size + 1 by omega) ⟨_, j6⟩, OB.put1, (tA.kept hg2 (row_apart tA lA (by decide))).setFar (fun e => HNE.out _ e rfl), o2.setFar (fun e => by have := (o2.lt _ e).1; omega)⟩
                    case measure => simp [intOf]; omega
                  · have E1 : Hid (dropL (I : Int) (ls.take (k + 1)) = DL ++ [⟨x0, x1, x2⟩]) := Lib.hid (by rw [HDL.out, HD1.out]; simp [dropOne, dwx, d0, d1, g0, g1])
                    have alA := ((Below.refl wr.heap.size wr).alloc (Nat.le_refl _) (.cells #[.int .i64 x0, .int .i64 x1, .int .i64 x2] 53))
                    have alB := ((Below.refl (wr.alloc (.cells #[.int .i64 x0, .int .i64 x1, .int .i64 x2] 53)).heap.size (wr.alloc (.cells #[.int .i64 x0, .int .i64 x1, .int .i64 x2] 53))).alloc (Nat.le_refl _) (.cells #[.int .i64 x0, .int .i64 x1, .int .i64 x2] 53))
                    have NA := (NK.next alA).next alB
                    have VA := (VK.next alA).next alB
                    have OA := (OK.next alA).next alB
                    have tA := (qT.later alA).later alB
                    have lA := (qL.later alA).later alB
                    have hzB : bo + 1 ≤ ((wr.alloc (.cells #[.int .i64 x0, .int .i64 x1, .int .i64 x2] 53)).alloc (.cells #[.int .i64 x0, .int .i64 x1, .int .i64 x2] 53)).heap.size := by simp; omega
                    have n0 : ((wr.alloc (.cells #[.int .i64 x0, .int .i64 x1, .int .i64 x2] 53)).alloc (.cells #[.int .i64 x0, .int .i64 x1, .int .i64 x2] 53)).cell? ⟨wr.heap.size + 1, 0, none⟩ = some (.int .i64 (x0)) := by simp [go_sem]
                    have n1 : ((wr.alloc (.cells #[.int .i64 x0, .int .i64 x1, .int .i64 x2] 53)).alloc (.cells #[.int .i64 x0, .int .i64 x1, .int .i64 x2] 53)).cell? ⟨wr.heap.size + 1, 1, none⟩ = some (.int .i64 (x1)) := by simp [go_sem]
                    have n2 : ((wr.alloc (.cells #[.int .i64 x0, .int .i64 x1, .int .i64 x2] 53)).alloc (.cells #[.int .i64 x0, .int .i64 x1, .int .i64 x2] 53)).cell? ⟨wr.heap.size + 1, 2, none⟩ = some (.int .i64 x2) := by simp [go_sem]
                    have hone := RdR.one3 (c := 1) ⟨x0, x1, x2⟩ (World.block_lt_of_cell? _ _ n0) (Nat.le_refl _) (by unfold maxLen; decide) n0 n1 n2
                    have HL2 : Hid (DL.length + ([⟨x0, x1, x2⟩] : List T3).length ≤ 4194304) := Lib.hid (by have := HKL.out; simp; omega)
                    clear d0 d1 n0 n1 n2 alA alB
                    go_wp2_with (at_builtin; refine append_LinkS rfl _ _ rfl (bo + 1) _ _ DL [⟨x0, x1, x2⟩] rfl rfl lA hone HL2.out hzB ?_; intro v2 w2 o2 hg2 hat2; rw [← E1.out] at o2; obtain ⟨ad2, cd2, rfl, -⟩ := o2.rd.len; have hB2 := (Below.refl (bo + 1) _).grown hg2 hzB (fun i hi => (lA.lt i hi).1); have OB := OA.below hB2 (by omega) hzB; have j5 := OB.c0; have j6 := OB.c1; have j7 := OB.f1)
                    go_roundw
                    case rel => exact ⟨k + 1, _, by omega, by go_num, (NA.grown HR.out hg2 (fun i hi => by have := (lA.lt i hi).1; omega)).set HR.out (show w.heap.size < bo by omega), (VA.below hB2 (by omega) hzB).set (show bo ≠ w.heap.size + 1 by omega) ⟨_, j6⟩, OB.put1, (tA.kept hg2 (row_apart tA lA (by decide))).setFar (fun e => HNE.out _ e rfl), o2.setFar (fun e => by have := (o2.lt _ e).1; omega)⟩
                    case measure => simp [intOf]; omega
          · obtain rfl : k = m := by omega
            have HQ : Hid (DL = dropL (I : Int) ls) := Lib.hid (by rw [← HDLk.out, HM.out, List.take_length])
            have r0 := VK.c0
            have r1 := VK.c1
            have s0 := VK.f0
            have s1 := VK.f1
            have sz := VK.lt
            go_wp2
            refine bodyPost_ret (v := .tuple #[.agg #[.slice ad0 tt.length cd0, .slice avc DL.length cvc], .bool true]) (by simp [results, Try.results40, go_sem, r0, r1, s0, s1, j0, j1, sz]) rfl ⟨_, _, by rw [HF.out.1], ?_, ?_⟩
            · rw [HF.out.2.1, HF.out.2.2, HTT.out, ← HQ.out]
              have u0 := ((qT.setFar (b := w.heap.size + 1) (o := 0) (x := .slice ad0 tt.length cd0) (fun e => by have := (qT.lt _ e).1; omega)).setFar (b := w.heap.size + 1) (o := 1) (x := .slice avc DL.length cvc) (fun e => by have := (qT.lt _ e).1; omega)).base (B' := w.heap.size) (by omega)
              have u1 := ((qL.setFar (b := w.heap.size + 1) (o := 0) (x := .slice ad0 tt.length cd0) (fun e => by have := (qL.lt _ e).1; omega)).setFar (b := w.heap.size + 1) (o := 1) (x := .slice avc DL.length cvc) (fun e => by have := (qL.lt _ e).1; omega)).base (B' := w.heap.size) (by omega)
              exact ⟨⟨u0, fun k hk => (u0.lt k hk).2⟩, ⟨u1, fun k hk => (u1.lt k hk).2⟩⟩
            · exact (NK.below.setCell (p := ⟨w.heap.size + 1, 0, none⟩) (by show w.heap.size ≤ w.heap.size + 1; omega) _).setCell (p := ⟨w.heap.size + 1, 1, none⟩) (by show w.heap.size ≤ w.heap.size + 1; omega) _
      refine AllReadyH.cons (o := { dst := some 6, op := Go.Op.alloc 31, type := 0, pos := "l6_tower.go:163", after := #[], guard := none }) rfl (fun K hK => ?_) AllReadyH.nil
      go_simp
      refine hK.out _ _ ?_ (fun hHeld => ?_)
      · exact KB.out _ (hB0.alloc hB0.size _)
      clear hK K
      try simp only [Act.put, List.setIfInBounds_toArray, List.set_cons_zero, List.set_cons_succ]
      refine wpAnyH_name ?_
      intro w14 hw14
      rw [← hw14] at hHeld
      have hb14 := below_alloc hw14
      have z14 := lt_named hw14
      have OB : Var2 w14 wS.heap.size (.slice none 0 0) (.slice none 0 0) := by rw [hw14]; exact Var2.new _ _ _ _
      have hbl := hB0.size
      have hzb := z14
      clear hw14
      have hB15 := hB0.trans (hb14.mono hB0.size)
      refine wpAnyH_ready (rs := [0]) (by kernel_rfl) (by simp) ?_
      refine AllReadyH.cons (o := { dst := some 20, op := Go.Op.buildSlice 28 0 #[], type := 28, pos := "l6_tower.go:163", after := #[], guard := none }) rfl (fun K hK => ?_) AllReadyH.nil
      go_simp
      refine hK.out _ _ ?_ (fun hHeld => ?_)
      · exact KB.out _ (hB15.alloc hB15.size _)
      clear hK K
      try simp only [Act.put, List.setIfInBounds_toArray, List.set_cons_zero, List.set_cons_succ]
      refine wpAnyH_name ?_
      intro w16 hw16
      rw [← hw16] at hHeld
      have hb16 := below_alloc hw16
      have z16 := lt_named hw16
      have e0 : OwnR 62 c3 3 w16 wS.heap.size (.slice (some ⟨w14.heap.size, 0, none⟩) 0 0) ([] : List T3) := by rw [hw16]; exact OwnR.emptyTower _ _ hB15.size
      have ne0 : ∀ k, (Value.slice (some ⟨w14.heap.size, 0, none⟩) 0 0).ownBlock = some k → k ≠ wS.heap.size := fun k hk => by simp [Value.ownBlock] at hk; omega
      clear hw16
      have hzb := Nat.lt_of_lt_of_le hzb hb16.size
      have OB := OB.next hb16
      have hB17 := hB15.trans (hb16.mono hB15.size)
      refine wpAnyH_ready (rs := [5]) (by kernel_rfl) (by simp) ?_
      refine AllReadyH.cons (o := { dst := some 25, op := Go.Op.call { callee := Go.Callee.builtin Go.Builtin.append, args := #[Go.Operand.tmp 20, Go.Operand.tmp 24], argTypes := #[28, 28] }, type := 28, pos := "l6_tower.go:163", after := #[{ on := 0, ground := Go.Ground.data }, { on := 4, ground := Go.Ground.data }], guard := none }) rfl (fun K hK => ?_) AllReadyH.nil
      refine step_append_TowerS (by rfl) _ _ (by rfl) wS.heap.size _ _ [] (ts.take I) (by rfl) (by rfl) e0 (HT.out.later hB17) HL1.out (hB17.size) ?_
      intro v18 w18 o0 hg18 hat18
      have hBn18 := hB17.grown hg18 hB17.size (fun k hk => (e0.lt k hk).1)
      have ne1 : ∀ j, v18.ownBlock = some j → j ≠ wS.heap.size := fun j hj => by
        rcases hat18 with hq | hq
        · exact ne0 j (hq ▸ hj)
        · rw [hq] at hj; simp at hj; omega
      have OB := OB.grownN hg18 (fun hj => ne0 _ hj rfl)
      have hzb := Nat.lt_of_lt_of_le hzb hg18.size
      rw [List.nil_append] at o0
      try go_simp
      refine hK.out _ _ ?_ (fun hHeld => ?_)
      · exact KB.out _ hBn18
      clear hK K
      try simp only [Act.put, List.setIfInBounds_toArray, List.set_cons_zero, List.set_cons_succ]
      clear ne0
      have ne0 := ne1
      clear ne1
      refine wpAnyH_ready (rs := [11]) (by kernel_rfl) (by simp) ?_
      refine AllReadyH.cons (o := { dst := some 31, op := Go.Op.call { callee := Go.Callee.builtin Go.Builtin.append, args := #[Go.Operand.tmp 25, Go.Operand.tmp 30], argTypes := #[28, 28] }, type := 28, pos := "l6_tower.go:163", after := #[{ on := 5, ground := Go.Ground.data }, { on := 10, ground := Go.Ground.data }, { on := 5, ground := Go.Ground.chain }], guard := none }) rfl (fun K hK => ?_) AllReadyH.nil
      refine step_append_TowerS (by rfl) _ _ (by rfl) wS.heap.size _ _ (ts.take I) (ts.drop I1) (by rfl) (by rfl) o0 (HD.out.later hBn18) HL2.out (hBn18.size) ?_
      intro v19 w19 o1 hg19 hat19
      have hBn19 := hBn18.grown hg19 hBn18.size (fun k hk => (o0.lt k hk).1)
      have ne1 : ∀ j, v19.ownBlock = some j → j ≠ wS.heap.size := fun j hj => by
        rcases hat19 with hq | hq
        · exact ne0 j (hq ▸ hj)
        · rw [hq] at hj; simp at hj; omega
      have OB := OB.grownN hg19 (fun hj => ne0 _ hj rfl)
      have hzb := Nat.lt_of_lt_of_le hzb hg19.size
      have o1 := o1
      rw [HT2.out] at o1
      obtain ⟨ad0, cd0, rfl, -⟩ := o1.rd.len
      try go_simp
      refine hK.out _ _ ?_ (fun hHeld => ?_)
      · exact KB.out _ hBn19
      clear hK K
      try simp only [Act.put, List.setIfInBounds_toArray, List.set_cons_zero, List.set_cons_succ]
      clear ne0
      have ne0 := ne1
      clear ne1
      refine wpAnyH_take (i := 12) (oi := { dst := some 32, op := Go.Op.build 31 #[(0, Go.Operand.tmp 31)], type := 31, pos := "l6_tower.go:163", after := #[{ on := 11, ground := Go.Ground.data }], guard := none }) (v := ?_) rfl (by kernel_rfl) (by kernel_rfl) (by kernel_rfl) (fun _ _ _ h => h) (Or.inl ⟨by rfl, ?_⟩) (by assumption) ?_
      rotate_left
      · intro w hSw; (try dsimp only at hSw); go_simp; try with_reducible rfl
      try simp only [Act.put, List.setIfInBounds_toArray, List.set_cons_zero, List.set_cons_succ]
      refine wpAnyH_ready (rs := [14]) (by kernel_rfl) (by simp) ?_
      refine AllReadyH.cons (o := { dst := none, op := Go.Op.store 31 (Go.Operand.tmp 6) (Go.Operand.tmp 32), type := 0, pos := "l6_tower.go:163", after := #[{ on := 13, ground := Go.Ground.data }, { on := 12, ground := Go.Ground.data }, { on := 11, ground := Go.Ground.chain }, { on := 0, ground := Go.Ground.phase }, { on := 1, ground := Go.Ground.phase }, { on := 2, ground := Go.Ground.phase }, { on := 3, ground := Go.Ground.phase }, { on := 4, ground := Go.Ground.phase }, { on := 5, ground := Go.Ground.phase }, { on := 6, ground := Go.Ground.phase }, { on := 7, ground := Go.Ground.phase }, { on := 8, ground := Go.Ground.phase }, { on := 9, ground := Go.Ground.phase }, { on := 10, ground := Go.Ground.phase }, { on := 11, ground := Go.Ground.phase }, { on := 12, ground := Go.Ground.phase }, { on := 13, ground := Go.Ground.phase }], guard := none }) rfl (fun K hK => ?_) AllReadyH.nil
      have j0 := OB.c0
      have j1 := OB.c1
      have j2 := OB.f0
      have j3 := OB.f1
      have hbl3 : w.heap.size + 2 ≤ wS.heap.size := by omega
      have NT := ((NS.next hBn19).set (o := 0) (u := .slice ad0 tt.length cd0) HR.out (show w.heap.size < wS.heap.size by omega)).set (o := 1) (u := .slice none 0 0) HR.out (show w.heap.size < wS.heap.size by omega)
      go_simp
      refine hK.out _ _ ?_ (fun hHeld => ?_)
      · exact ⟨NT.b0, NT.b1⟩
      clear hK K
      try simp only [Act.put, List.setIfInBounds_toArray, List.set_cons_zero, List.set_cons_succ]
      refine wpAnyH_done (by kernel_rfl) ?_ _
      have VL := ((VS.next hBn19).set (o := 0) (u := .slice ad0 tt.length cd0) (show wS.heap.size ≠ w.heap.size + 1 by omega) ⟨_, OB.c0⟩).set (o := 1) (u := .slice none 0 0) (show wS.heap.size ≠ w.heap.size + 1 by omega) ⟨_, (OB.put0).c1⟩
      have OM := (OB.put0 (u := .slice ad0 tt.length cd0)).put1 (u := .slice none 0 0)
      have q0 := ((o1.setFar (b := wS.heap.size) (o := 0) (x := .slice ad0 tt.length cd0) (fun e => ne0 _ e rfl)).setFar (b := wS.heap.size) (o := 1) (x := .slice none 0 0) (fun e => ne0 _ e rfl)).base (B' := w.heap.size + 2) hzS
      have HNE := Lib.hid ne0
      clear j0 j1 j2 j3 OB hHeld NS VS HT HD KB ne0 hzb o1
      generalize (w19.setCell ⟨wS.heap.size, 0, none⟩ (.slice ad0 tt.length cd0)).setCell ⟨wS.heap.size, 1, none⟩ (.slice none 0 0) = WL at *
      generalize wS.heap.size = bo at *
      have h0 := NT.b0
      have h1 := NT.b1
      go_wp2
      go_loopw [36] (fun c wr => ∃ (k : Nat) (vc : Value), k ≤ m ∧ c = .int .i64 k ∧ NB w wr a0 n p0 a1 m p1 ts ls ∧ Var2 wr (w.heap.size + 1) (.slice none 0 0) (.slice none 0 0) ∧ Var2 wr bo (.slice ad0 tt.length cd0) vc ∧ OwnR 62 c3 3 wr (w.heap.size + 2) (.slice ad0 tt.length cd0) tt ∧ OwnR 53 c3 3 wr (bo + 1) vc (dropL (I : Int) (ls.take k))) (fun c wr => m - (intOf c).toNat)
      case atStart => exact ⟨0, _, Nat.zero_le _, rfl, NT, VL, OM, q0, OwnR.nil _ _⟩
      case round =>
        clear h0 h1 NT VL OM q0 
        obtain ⟨k, vc, hk, rfl, NK, VK, OK, qT, qL⟩ := hrel
        obtain ⟨avc, cvc, rfl, -⟩ := qL.rd.len
        obtain ⟨DL, hDL⟩ : ∃ DL, dropL (I : Int) (ls.take k) = DL := ⟨_, rfl⟩
        rw [hDL] at OK qL
        have HDLk := Lib.hid hDL
        clear hDL
        have h0 := NK.b0
        have h1 := NK.b1
        have j0 := OK.c0
        have j1 := OK.c1
        have hob := OK.lt
        by_cases hlt : k < m
        · obtain ⟨g, off, rfl, hg, e0, e1, e2⟩ := NK.rd.2.at3 HM.out k hlt
          have HDL : Hid (dropL (I : Int) (ls.take (k + 1)) = DL ++ dropOne (I : Int) (rAt ls k)) := Lib.hid (by rw [← HDLk.out]; exact dropL_take (by rw [← HM.out]; exact hlt))
          have HKL : Hid (DL.length ≤ 40) := Lib.hid (by rw [← HDLk.out]; have := dropL_len (I : Int) (ls.take k); simp at this; omega)
          have hln := HOK.out.lnk k (by rw [← HM.out]; exact hlt)
          rw [← HN.out] at hln
          have hl0 : 0 ≤ (rAt ls k).x0 ∧ (rAt ls k).x0 ≤ 16 := by omega
          have hl1 : 0 ≤ (rAt ls k).x1 ∧ (rAt ls k).x1 ≤ 16 := by omega
          have HD1 : Hid (dropOne (I : Int) (rAt ls k) = dropOne (I : Int) ⟨(rAt ls k).x0, (rAt ls k).x1, (rAt ls k).x2⟩) := Lib.hid rfl
          clear hln
          generalize (rAt ls k).x0 = x0 at *
          generalize (rAt ls k).x1 = x1 at *
          generalize (rAt ls k).x2 = x2 at *
          by_cases d0 : x0 = (I : Int)
          · have b0 : (x0 == (I : Int)) = true := by simpa using d0
            have E1 : Hid (dropL (I : Int) (ls.take (k + 1)) = DL) := Lib.hid (by rw [HDL.out, HD1.out]; simp [dropOne, d0])
            clear d0
            go_wp2
            go_roundw
            case rel => exact ⟨k + 1, _, by omega, by go_num, NK.next ((Below.refl wr.heap.size wr).alloc (Nat.le_refl _) (.cells #[.int .i64 x0, .int .i64 x1, .int .i64 x2] 53)), VK.next ((Below.refl wr.heap.size wr).alloc (Nat.le_refl _) (.cells #[.int .i64 x0, .int .i64 x1, .int .i64 x2] 53)), OK.next ((Below.refl wr.heap.size wr).alloc (Nat.le_refl _) (.cells #[.int .i64 x0, .int .i64 x1, .int .i64 x2] 53)), qT.later ((Below.refl wr.heap.size wr).alloc (Nat.le_refl _) (.cells #[.int .i64 x0, .int .i64 x1, .int .i64 x2] 53)), by rw [E1.out]; exact qL.later ((Below.refl wr.heap.size wr).alloc (Nat.le_refl _) (.cells #[.int .i64 x0, .int .i64 x1, .int .i64 x2] 53))⟩
            case measure => simp [intOf]; omega
          · have b0 : (x0 == (I : Int)) = false := by simpa using d0
            by_cases d1 : x1 = (I : Int)
            · have b1 : (x1 == (I : Int)) = true := by simpa using d1
              have E1 : Hid (dropL (I : Int) (ls.take (k + 1)) = DL) := Lib.hid (by rw [HDL.out, HD1.out]; simp [dropOne, d1])
              clear d0 d1
              go_wp2
              go_roundw
              case rel => exact ⟨k + 1, _, by omega, by go_num, NK.next ((Below.refl wr.heap.size wr).alloc (Nat.le_refl _) (.cells #[.int .i64 x0, .int .i64 x1, .int .i64 x2] 53)), VK.next ((Below.refl wr.heap.size wr).alloc (Nat.le_refl _) (.cells #[.int .i64 x0, .int .i64 x1, .int .i64 x2] 53)), OK.next ((Below.refl wr.heap.size wr).alloc (Nat.le_refl _) (.cells #[.int .i64 x0, .int .i64 x1, .int .i64 x2] 53)), qT.later ((Below.refl wr.heap.size wr).alloc (Nat.le_refl _) (.cells #[.int .i64 x0, .int .i64 x1, .int .i64 x2] 53)), by rw [E1.out]; exact qL.later ((Below.refl wr.heap.size wr).alloc (Nat.le_refl _) (.cells #[.int .i64 x0, .int .i64 x1, .int .i64 x2] 53))⟩
              case measure => simp [intOf]; omega
            · have b1 : (x1 == (I : Int)) = false := by simpa using d1
              by_cases g0 : (I : Int) < x0
              · by_cases g1 : (I : Int) < x1
                · have E1 : Hid (dropL (I : Int) (ls.take (k + 1)) = DL ++ [⟨x0 - 1, x1 - 1, x2⟩]) := Lib.hid (by rw [HDL.out, HD1.out]; simp [dropOne, dwx, d0, d1, g0, g1])
                  have hwa : IntKind.i64.wrap (x0 - 1) = x0 - 1 := IntWalk.i64_in _ (by omega)
                  have hwc : IntKind.i64.wrap (x1 - 1) = x1 - 1 := IntWalk.i64_in _ (by omega)
                  have alA := ((Below.refl wr.heap.size wr).alloc (Nat.le_refl _) (.cells #[.int .i64 (x0 - 1), .int .i64 (x1 - 1), .int .i64 x2] 53))
                  have alB := ((Below.refl (wr.alloc (.cells #[.int .i64 (x0 - 1), .int .i64 (x1 - 1), .int .i64 x2] 53)).heap.size (wr.alloc (.cells #[.int .i64 (x0 - 1), .int .i64 (x1 - 1), .int .i64 x2] 53))).alloc (Nat.le_refl _) (.cells #[.int .i64 (x0 - 1), .int .i64 (x1 - 1), .int .i64 x2] 53))
                  have NA := (NK.next alA).next alB
                  have VA := (VK.next alA).next alB
                  have OA := (OK.next alA).next alB
                  have tA := (qT.later alA).later alB
                  have lA := (qL.later alA).later alB
                  have hzB : bo + 1 ≤ ((wr.alloc (.cells #[.int .i64 (x0 - 1), .int .i64 (x1 - 1), .int .i64 x2] 53)).alloc (.cells #[.int .i64 (x0 - 1), .int .i64 (x1 - 1), .int .i64 x2] 53)).heap.size := by simp; omega
                  have n0 : ((wr.alloc (.cells #[.int .i64 (x0 - 1), .int .i64 (x1 - 1), .int .i64 x2] 53)).alloc (.cells #[.int .i64 (x0 - 1), .int .i64 (x1 - 1), .int .i64 x2] 53)).cell? ⟨wr.heap.size + 1, 0, none⟩ = some (.int .i64 (x0 - 1)) := by simp [go_sem]
                  have n1 : ((wr.alloc (.cells #[.int .i64 (x0 - 1), .int .i64 (x1 - 1), .int .i64 x2] 53)).alloc (.cells #[.int .i64 (x0 - 1), .int .i64 (x1 - 1), .int .i64 x2] 53)).cell? ⟨wr.heap.size + 1, 1, none⟩ = some (.int .i64 (x1 - 1)) := by simp [go_sem]
                  have n2 : ((wr.alloc (.cells #[.int .i64 (x0 - 1), .int .i64 (x1 - 1), .int .i64 x2] 53)).alloc (.cells #[.int .i64 (x0 - 1), .int .i64 (x1 - 1), .int .i64 x2] 53)).cell? ⟨wr.heap.size + 1, 2, none⟩ = some (.int .i64 x2) := by simp [go_sem]
                  have hone := RdR.one3 (c := 1) ⟨x0 - 1, x1 - 1, x2⟩ (World.block_lt_of_cell? _ _ n0) (Nat.le_refl _) (by unfold maxLen; decide) n0 n1 n2
                  have HL2 : Hid (DL.length + ([⟨x0 - 1, x1 - 1, x2⟩] : List T3).length ≤ 4194304) := Lib.hid (by have := HKL.out; simp; omega)
                  clear d0 d1 n0 n1 n2 alA alB
                  go_wp2_with (at_builtin; refine append_LinkS rfl _ _ rfl (bo + 1) _ _ DL [⟨x0 - 1, x1 - 1, x2⟩] rfl rfl lA hone HL2.out hzB ?_; intro v2 w2 o2 hg2 hat2; rw [← E1.out] at o2; obtain ⟨ad2, cd2, rfl, -⟩ := o2.rd.len; have hB2 := (Below.refl (bo + 1) _).grown hg2 hzB (fun i hi => (lA.lt i hi).1); have OB := OA.below hB2 (by omega) hzB; have j5 := OB.c0; have j6 := OB.c1; have j7 := OB.f1)
                  go_roundw
                  case rel => exact ⟨k + 1, _, by omega, by go_num, (NA.grown HR.out hg2 (fun i hi => by have := (lA.lt i hi).1; omega)).set HR.out (show w.heap.size < bo by omega), (VA.below hB2 (by omega) hzB).set (show bo ≠ w.heap.size + 1 by omega) ⟨_, j6⟩, OB.put1, (tA.kept hg2 (row_apart tA lA (by decide))).setFar (fun e => HNE.out _ e rfl), o2.setFar (fun e => by have := (o2.lt _ e).1; omega)⟩
                  case measure => simp [intOf]; omega
                · have E1 : Hid (dropL (I : Int) (ls.take (k + 1)) = DL ++ [⟨x0 - 1, x1, x2⟩]) := Lib.hid (by rw [HDL.out, HD1.out]; simp [dropOne, dwx, d0, d1, g0, g1])
                  have hwa : IntKind.i64.wrap (x0 - 1) = x0 - 1 := IntWalk.i64_in _ (by omega)
                  have alA := ((Below.refl wr.heap.size wr).alloc (Nat.le_refl _) (.cells #[.int .i64 (x0 - 1), .int .i64 x1, .int .i64 x2] 53))
                  have alB := ((Below.refl (wr.alloc (.cells #[.int .i64 (x0 - 1), .int .i64 x1, .int .i64 x2] 53)).heap.size (wr.alloc (.cells #[.int .i64 (x0 - 1), .int .i64 x1, .int .i64 x2] 53))).alloc (Nat.le_refl _) (.cells #[.int .i64 (x0 - 1), .int .i64 x1, .int .i64 x2] 53))
                  have NA := (NK.next alA).next alB
                  have VA := (VK.next alA).next alB
                  have OA := (OK.next alA).next alB
                  have tA := (qT.later alA).later alB
                  have lA := (qL.later alA).later alB
                  have hzB : bo + 1 ≤ ((wr.alloc (.cells #[.int .i64 (x0 - 1), .int .i64 x1, .int .i64 x2] 53)).alloc (.cells #[.int .i64 (x0 - 1), .int .i64 x1, .int .i64 x2] 53)).heap.size := by simp; omega
                  have n0 : ((wr.alloc (.cells #[.int .i64 (x0 - 1), .int .i64 x1, .int .i64 x2] 53)).alloc (.cells #[.int .i64 (x0 - 1), .int .i64 x1, .int .i64 x2] 53)).cell? ⟨wr.heap.size + 1, 0, none⟩ = some (.int .i64 (x0 - 1)) := by simp [go_sem]
                  have n1 : ((wr.alloc (.cells #[.int .i64 (x0 - 1), .int .i64 x1, .int .i64 x2] 53)).alloc (.cells #[.int .i64 (x0 - 1), .int .i64 x1, .int .i64 x2] 53)).cell? ⟨wr.heap.size + 1, 1, none⟩ = some (.int .i64 (x1)) := by simp [go_sem]
                  have n2 : ((wr.alloc (.cells #[.int .i64 (x0 - 1), .int .i64 x1, .int .i64 x2] 53)).alloc (.cells #[.int .i64 (x0 - 1), .int .i64 x1, .int .i64 x2] 53)).cell? ⟨wr.heap.size + 1, 2, none⟩ = some (.int .i64 x2) := by simp [go_sem]
                  have hone := RdR.one3 (c := 1) ⟨x0 - 1, x1, x2⟩ (World.block_lt_of_cell? _ _ n0) (Nat.le_refl _) (by unfold maxLen; decide) n0 n1 n2
                  have HL2 : Hid (DL.length + ([⟨x0 - 1, x1, x2⟩] : List T3).length ≤ 4194304) := Lib.hid (by have := HKL.out; simp; omega)
                  clear d0 d1 n0 n1 n2 alA alB
                  go_wp2_with (at_builtin; refine append_LinkS rfl _ _ rfl (bo + 1) _ _ DL [⟨x0 - 1, x1, x2⟩] rfl rfl lA hone HL2.out hzB ?_; intro v2 w2 o2 hg2 hat2; rw [← E1.out] at o2; obtain ⟨ad2, cd2, rfl, -⟩ := o2.rd.len; have hB2 := (Below.refl (bo + 1) _).grown hg2 hzB (fun i hi => (lA.lt i hi).1); have OB := OA.below hB2 (by omega) hzB; have j5 := OB.c0; have j6 := OB.c1; have j7 := OB.f1)
                  go_roundw
                  case rel => exact ⟨k + 1, _, by omega, by go_num, (NA.grown HR.out hg2 (fun i hi => by have := (lA.lt i hi).1; omega)).set HR.out (show w.heap.size < bo by omega), (VA.below hB2 (by omega) hzB).set (show bo ≠ w.heap.size + 1 by omega) ⟨_, j6⟩, OB.put1, (tA.kept hg2 (row_apart tA lA (by decide))).setFar (fun e => HNE.out _ e rfl), o2.setFar (fun e => by have := (o2.lt _ e).1; omega)⟩
                  case measure => simp [intOf]; omega
              · by_cases g1 : (I : Int) < x1
                · have E1 : Hid (dropL (I : Int) (ls.take (k + 1)) = DL ++ [⟨x0, x1 - 1, x2⟩]) := Lib.hid (by rw [HDL.out, HD1.out]; simp [dropOne, dwx, d0, d1, g0, g1])
                  have hwc : IntKind.i64.wrap (x1 - 1) = x1 - 1 := IntWalk.i64_in _ (by omega)
                  have alA := ((Below.refl wr.heap.size wr).alloc (Nat.le_refl _) (.cells #[.int .i64 x0, .int .i64 (x1 - 1), .int .i64 x2] 53))
                  have alB := ((Below.refl (wr.alloc (.cells #[.int .i64 x0, .int .i64 (x1 - 1), .int .i64 x2] 53)).heap.size (wr.alloc (.cells #[.int .i64 x0, .int .i64 (x1 - 1), .int .i64 x2] 53))).alloc (Nat.le_refl _) (.cells #[.int .i64 x0, .int .i64 (x1 - 1), .int .i64 x2] 53))
                  have NA := (NK.next alA).next alB
                  have VA := (VK.next alA).next alB
                  have OA := (OK.next alA).next alB
                  have tA := (qT.later alA).later alB
                  have lA := (qL.later alA).later alB
                  have hzB : bo + 1 ≤ ((wr.alloc (.cells #[.int .i64 x0, .int .i64 (x1 - 1), .int .i64 x2] 53)).alloc (.cells #[.int .i64 x0, .int .i64 (x1 - 1), .int .i64 x2] 53)).heap.size := by simp; omega
                  have n0 : ((wr.alloc (.cells #[.int .i64 x0, .int .i64 (x1 - 1), .int .i64 x2] 53)).alloc (.cells #[.int .i64 x0, .int .i64 (x1 - 1), .int .i64 x2] 53)).cell? ⟨wr.heap.size + 1, 0, none⟩ = some (.int .i64 (x0)) := by simp [go_sem]
                  have n1 : ((wr.alloc (.cells #[.int .i64 x0, .int .i64 (x1 - 1), .int .i64 x2] 53)).alloc (.cells #[.int .i64 x0, .int .i64 (x1 - 1), .int .i64 x2] 53)).cell? ⟨wr.heap.size + 1, 1, none⟩ = some (.int .i64 (x1 - 1)) := by simp [go_sem]
                  have n2 : ((wr.alloc (.cells #[.int .i64 x0, .int .i64 (x1 - 1), .int .i64 x2] 53)).alloc (.cells #[.int .i64 x0, .int .i64 (x1 - 1), .int .i64 x2] 53)).cell? ⟨wr.heap.size + 1, 2, none⟩ = some (.int .i64 x2) := by simp [go_sem]
                  have hone := RdR.one3 (c := 1) ⟨x0, x1 - 1, x2⟩ (World.block_lt_of_cell? _ _ n0) (Nat.le_refl _) (by unfold maxLen; decide) n0 n1 n2
                  have HL2 : Hid (DL.length + ([⟨x0, x1 - 1, x2⟩] : List T3).length ≤ 4194304) := Lib.hid (by have := HKL.out; simp; omega)
                  clear d0 d1 n0 n1 n2 alA alB
                  go_wp2_with (at_builtin; refine append_LinkS rfl _ _ rfl (bo + 1) _ _ DL [⟨x0, x1 - 1, x2⟩] rfl rfl lA hone HL2.out hzB ?_; intro v2 w2 o2 hg2 hat2; rw [← E1.out] at o2; obtain ⟨ad2, cd2, rfl, -⟩ := o2.rd.len; have hB2 := (Below.refl (bo + 1) _).grown hg2 hzB (fun i hi => (lA.lt i hi).1); have OB := OA.below hB2 (by omega) hzB; have j5 := OB.c0; have j6 := OB.c1; have j7 := OB.f1)
                  go_roundw
                  case rel => exact ⟨k + 1, _, by omega, by go_num, (NA.grown HR.out hg2 (fun i hi => by have := (lA.lt i hi).1; omega)).set HR.out (show w.heap.size < bo by omega), (VA.below hB2 (by omega) hzB).set (show bo ≠ w.heap.size + 1 by omega) ⟨_, j6⟩, OB.put1, (tA.kept hg2 (row_apart tA lA (by decide))).setFar (fun e => HNE.out _ e rfl), o2.setFar (fun e => by have := (o2.lt _ e).1; omega)⟩
                  case measure => simp [intOf]; omega
                · have E1 : Hid (dropL (I : Int) (ls.take (k + 1)) = DL ++ [⟨x0, x1, x2⟩]) := Lib.hid (by rw [HDL.out, HD1.out]; simp [dropOne, dwx, d0, d1, g0, g1])
                  have alA := ((Below.refl wr.heap.size wr).alloc (Nat.le_refl _) (.cells #[.int .i64 x0, .int .i64 x1, .int .i64 x2] 53))
                  have alB := ((Below.refl (wr.alloc (.cells #[.int .i64 x0, .int .i64 x1, .int .i64 x2] 53)).heap.size (wr.alloc (.cells #[.int .i64 x0, .int .i64 x1, .int .i64 x2] 53))).alloc (Nat.le_refl _) (.cells #[.int .i64 x0, .int .i64 x1, .int .i64 x2] 53))
                  have NA := (NK.next alA).next alB
                  have VA := (VK.next alA).next alB
                  have OA := (OK.next alA).next alB
                  have tA := (qT.later alA).later alB
                  have lA := (qL.later alA).later alB
                  have hzB : bo + 1 ≤ ((wr.alloc (.cells #[.int .i64 x0, .int .i64 x1, .int .i64 x2] 53)).alloc (.cells #[.int .i64 x0, .int .i64 x1, .int .i64 x2] 53)).heap.size := by simp; omega
                  have n0 : ((wr.alloc (.cells #[.int .i64 x0, .int .i64 x1, .int .i64 x2] 53)).alloc (.cells #[.int .i64 x0, .int .i64 x1, .int .i64 x2] 53)).cell? ⟨wr.heap.size + 1, 0, none⟩ = some (.int .i64 (x0)) := by simp [go_sem]
                  have n1 : ((wr.alloc (.cells #[.int .i64 x0, .int .i64 x1, .int .i64 x2] 53)).alloc (.cells #[.int .i64 x0, .int .i64 x1, .int .i64 x2] 53)).cell? ⟨wr.heap.size + 1, 1, none⟩ = some (.int .i64 (x1)) := by simp [go_sem]
                  have n2 : ((wr.alloc (.cells #[.int .i64 x0, .int .i64 x1, .int .i64 x2] 53)).alloc (.cells #[.int .i64 x0, .int .i64 x1, .int .i64 x2] 53)).cell? ⟨wr.heap.size + 1, 2, none⟩ = some (.int .i64 x2) := by simp [go_sem]
                  have hone := RdR.one3 (c := 1) ⟨x0, x1, x2⟩ (World.block_lt_of_cell? _ _ n0) (Nat.le_refl _) (by unfold maxLen; decide) n0 n1 n2
                  have HL2 : Hid (DL.length + ([⟨x0, x1, x2⟩] : List T3).length ≤ 4194304) := Lib.hid (by have := HKL.out; simp; omega)
                  clear d0 d1 n0 n1 n2 alA alB
                  go_wp2_with (at_builtin; refine append_LinkS rfl _ _ rfl (bo + 1) _ _ DL [⟨x0, x1, x2⟩] rfl rfl lA hone HL2.out hzB ?_; intro v2 w2 o2 hg2 hat2; rw [← E1.out] at o2; obtain ⟨ad2, cd2, rfl, -⟩ := o2.rd.len; have hB2 := (Below.refl (bo + 1) _).grown hg2 hzB (fun i hi => (lA.lt i hi).1); have OB := OA.below hB2 (by omega) hzB; have j5 := OB.c0; have j6 := OB.c1; have j7 := OB.f1)
                  go_roundw
                  case rel => exact ⟨k + 1, _, by omega, by go_num, (NA.grown HR.out hg2 (fun i hi => by have := (lA.lt i hi).1; omega)).set HR.out (show w.heap.size < bo by omega), (VA.below hB2 (by omega) hzB).set (show bo ≠ w.heap.size + 1 by omega) ⟨_, j6⟩, OB.put1, (tA.kept hg2 (row_apart tA lA (by decide))).setFar (fun e => HNE.out _ e rfl), o2.setFar (fun e => by have := (o2.lt _ e).1; omega)⟩
                  case measure => simp [intOf]; omega
        · obtain rfl : k = m := by omega
          have HQ : Hid (DL = dropL (I : Int) ls) := Lib.hid (by rw [← HDLk.out, HM.out, List.take_length])
          have r0 := VK.c0
          have r1 := VK.c1
          have s0 := VK.f0
          have s1 := VK.f1
          have sz := VK.lt
          go_wp2
          refine bodyPost_ret (v := .tuple #[.agg #[.slice ad0 tt.length cd0, .slice avc DL.length cvc], .bool true]) (by simp [results, Try.results40, go_sem, r0, r1, s0, s1, j0, j1, sz]) rfl ⟨_, _, by rw [HF.out.1], ?_, ?_⟩
          · rw [HF.out.2.1, HF.out.2.2, HTT.out, ← HQ.out]
            have u0 := ((qT.setFar (b := w.heap.size + 1) (o := 0) (x := .slice ad0 tt.length cd0) (fun e => by have := (qT.lt _ e).1; omega)).setFar (b := w.heap.size + 1) (o := 1) (x := .slice avc DL.length cvc) (fun e => by have := (qT.lt _ e).1; omega)).base (B' := w.heap.size) (by omega)
            have u1 := ((qL.setFar (b := w.heap.size + 1) (o := 0) (x := .slice ad0 tt.length cd0) (fun e => by have := (qL.lt _ e).1; omega)).setFar (b := w.heap.size + 1) (o := 1) (x := .slice avc DL.length cvc) (fun e => by have := (qL.lt _ e).1; omega)).base (B' := w.heap.size) (by omega)
            exact ⟨⟨u0, fun k hk => (u0.lt k hk).2⟩, ⟨u1, fun k hk => (u1.lt k hk).2⟩⟩
          · exact (NK.below.setCell (p := ⟨w.heap.size + 1, 0, none⟩) (by show w.heap.size ≤ w.heap.size + 1; omega) _).setCell (p := ⟨w.heap.size + 1, 1, none⟩) (by show w.heap.size ≤ w.heap.size + 1; omega) _
end Go.Proofs.Yteickcpmicifgaa
