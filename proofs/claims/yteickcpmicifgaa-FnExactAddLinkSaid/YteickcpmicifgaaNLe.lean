/- Chapter 6: the exact law of AddLink. Written by a generator of this claim's author. -/
import Derived.Test.YteickcpmicifgaaNeL
import Derived.Test.YteickcpmicifgaaNeP
import Derived.Test.YteickcpmicifgaaRows
import Derived.Deep.RegionHeld3
import Derived.Deep.CutRange
namespace Go.Proofs.Yteickcpmicifgaa
open Go.RowKit
set_option linter.unusedSimpArgs false
set_option linter.unusedVariables false

theorem Var2.box {W : World} {b : Nat} {q0 q1 : Value} (h : Var2 W b q0 q1) : Box2 W b q0 q1 := ⟨h.lt, h.c0, h.c1⟩
theorem Box2.set {W : World} {b b' o : Nat} {q0 q1 u : Value} (h : Box2 W b q0 q1) (hne : b' ≠ b) : Box2 (W.setCell ⟨b', o, none⟩ u) b q0 q1 :=
  ⟨by simpa [World.setCell] using h.lt, by rw [setc_far hne]; exact h.c0, by rw [setc_far hne]; exact h.c1⟩
theorem Box3.nextB {W W' : World} {b B : Nat} {q0 q1 q2 : Value} (h : Box3 W b q0 q1 q2) (hb : Below B W W') (hB : b < B) : Box3 W' b q0 q1 q2 :=
  ⟨Nat.lt_of_lt_of_le h.lt hb.size, by rw [hb.cell (p := ⟨b, 0, none⟩) hB]; exact h.c0, by rw [hb.cell (p := ⟨b, 1, none⟩) hB]; exact h.c1, by rw [hb.cell (p := ⟨b, 2, none⟩) hB]; exact h.c2⟩
theorem OwnN.setFar {w : World} {B C : Nat} {c0 c1 : Value} {ts ls : List T3} (h : OwnN w B C c0 c1 ts ls) {b o : Nat} {x : Value} (hb : b < B ∨ C ≤ b) : OwnN (w.setCell ⟨b, o, none⟩ x) B C c0 c1 ts ls :=
  ⟨⟨h.1.1.setFar (fun e => by have := (h.1.1.lt _ e).1; have := h.1.2 _ e; omega), h.1.2⟩, ⟨h.2.1.setFar (fun e => by have := (h.2.1.lt _ e).1; have := h.2.2 _ e; omega), h.2.2⟩⟩

set_option maxRecDepth 100000 in
set_option maxHeartbeats 16000000 in
theorem walk_FnExactAddLink (c0 c1 : Value) (ts ls : List T3) (x0 x1 x2 : Int) (w : World) (hr : RdN w c0 c1 ts ls) :
    Calls Try.prog 11 #[.agg #[c0, c1], .agg #[.int .i64 x0, .int .i64 x1, .int .i64 x2]] w fun e w' => e = .returned (.bool true) ∧ Below w.heap.size w w' := by
  have hm0 : (ts.length : Int) ≤ 9223372036854775807 := by have := hr.1.max; unfold maxLen at this; omega
  have hm1 : (ls.length : Int) ≤ 9223372036854775807 := by have := hr.2.max; unfold maxLen at this; omega
  obtain ⟨a0, p0, rfl, hp0⟩ := hr.1.len
  obtain ⟨aa, pp, rfl, hpp⟩ := hr.2.len
  obtain ⟨n, hn⟩ : ∃ n, n = ts.length := ⟨_, rfl⟩
  obtain ⟨m, hm⟩ : ∃ m, m = ls.length := ⟨_, rfl⟩
  rw [← hn] at hr hp0
  rw [← hm] at hr hpp
  rw [← hn, ← hm]
  clear hn hm hp0 hpp
  have N0 := (NB.start hr 25).alloc (.cells #[.int .i64 x0, .int .i64 x1, .int .i64 x2] 50)
  have xl := Box3.new (w.alloc (.cells #[.slice a0 n p0, .slice aa m pp] 25)) (.int .i64 x0) (.int .i64 x1) (.int .i64 x2) 50
  simp only [World.size_alloc] at xl
  have hs0 : ((w.alloc (.cells #[.slice a0 n p0, .slice aa m pp] 25)).alloc (.cells #[.int .i64 x0, .int .i64 x1, .int .i64 x2] 50)).heap.size = w.heap.size + 2 := by simp
  have HR := Lib.hid hr
  clear hr
  obtain ⟨RT, hRT⟩ : ∃ RT, RT = adT ts ls ⟨x0, x1, x2⟩ := ⟨_, rfl⟩
  obtain ⟨RR, hRR⟩ : ∃ RR, RR = adR ts ls ⟨x0, x1, x2⟩ := ⟨_, rfl⟩
  obtain ⟨CC, hCC⟩ : ∃ CC, CC = adC ts ls ⟨x0, x1, x2⟩ := ⟨_, rfl⟩
  have hlT : RT.length ≤ 16 := by rw [hRT]; exact (ad_small ts ls ⟨x0, x1, x2⟩).1
  have hlR : RR.length ≤ 40 := by rw [hRR]; exact (ad_small ts ls ⟨x0, x1, x2⟩).2
  have HRT := Lib.hid hRT
  have HRR := Lib.hid hRR
  have HCC := Lib.hid hCC
  clear hRT hRR hCC
  have h0 := N0.b0
  have h1 := N0.b1
  have y0 := xl.c0
  have y1 := xl.c1
  have y2 := xl.c2
  go_enter Try.func11, Try.ntmps11
  go_wp2_with fail
  generalize (w.alloc (.cells #[.slice a0 n p0, .slice aa m pp] 25)).alloc (.cells #[.int .i64 x0, .int .i64 x1, .int .i64 x2] 50) = w0 at *
  refine (szNet_any _ _ ts ls _ _ (by omega) (by omega) N0.rd).mono ?_
  rintro e w1 ⟨hb1, r, rfl, hrr⟩
  have N1 := N0.next hb1
  clear h0 h1 y0 y1 y2
  have z1 := hb1.size
  have xl := xl.next hb1
  have h0 := N1.b0
  have h1 := N1.b1
  have y0 := xl.c0
  have y1 := xl.c1
  have y2 := xl.c2
  rcases hrr with rfl | ⟨r0, hz0, hz1⟩
  · go_wp2
    go_ret
    exact ⟨rfl, N1.below⟩
  go_upto_region 5 with fail
  go_cut [6, 7] from 21 to 28 (fun s6 s7 wx => ∃ (bo B C : Nat) (av cv au cu : _), s6 = .pointer (some ⟨bo, 0, none⟩) ∧ s7 = .bool CC ∧ Below w1.heap.size w1 wx ∧ Box2 wx bo (.slice av RT.length cv) (.slice au RR.length cu) ∧ OwnN wx B C (.slice av RT.length cv) (.slice au RR.length cu) RT RR ∧ w1.heap.size ≤ B ∧ C ≤ wx.heap.size ∧ w1.heap.size ≤ bo ∧ (bo < B ∨ C ≤ bo) ∧ B ≤ C)
  case first =>
    refine wp_region_held_drew (S := (fun w' => w'.cell? ⟨w.heap.size, 0, none⟩ = some (.slice a0 n p0) ∧ w'.cell? ⟨w.heap.size, 1, none⟩ = some (.slice aa m pp) ∧ w'.cell? ⟨w.heap.size + 1, 0, none⟩ = some (.int .i64 x0) ∧ w'.cell? ⟨w.heap.size + 1, 1, none⟩ = some (.int .i64 x1) ∧ w'.cell? ⟨w.heap.size + 1, 2, none⟩ = some (.int .i64 x2))) (by kernel_rfl) ?_ (fun hHeld => ?_)
    · exact ⟨(N1.next (Below.refl _ _).drew).b0, (N1.next (Below.refl _ _).drew).b1, (xl.next (Below.refl _ _).drew).c0, (xl.next (Below.refl _ _).drew).c1, (xl.next (Below.refl _ _).drew).c2⟩
    refine wpAnyH_name ?_
    intro wS hwS
    rw [← hwS] at hHeld
    have hbS := below_named hwS
    clear hwS
    have hB0 := Below.refl wS.heap.size wS
    have NS := N1.next hbS
    have xlS := xl.next hbS
    have hzS := hbS.size
    have KB : Hid (∀ y : World, Below wS.heap.size wS y → y.cell? ⟨w.heap.size, 0, none⟩ = some (.slice a0 n p0) ∧ y.cell? ⟨w.heap.size, 1, none⟩ = some (.slice aa m pp) ∧ y.cell? ⟨w.heap.size + 1, 0, none⟩ = some (.int .i64 x0) ∧ y.cell? ⟨w.heap.size + 1, 1, none⟩ = some (.int .i64 x1) ∧ y.cell? ⟨w.heap.size + 1, 2, none⟩ = some (.int .i64 x2)) := Lib.hid fun y h => ⟨(NS.next h).b0, (NS.next h).b1, (xlS.next h).c0, (xlS.next h).c1, (xlS.next h).c2⟩
    refine wpAnyH_take (i := 0) (oi := { dst := some 22, op := Go.Op.load 25 (Go.Operand.tmp 2), type := 25, pos := "exact.go:11881", after := #[], guard := none }) (v := ?_) rfl (by kernel_rfl) (by kernel_rfl) (by kernel_rfl) (fun _ _ _ h => h) (Or.inl ⟨by rfl, ?_⟩) (by assumption) ?_
    rotate_left
    · intro w hSw; (try dsimp only at hSw); go_simp; try with_reducible rfl
    try simp only [Act.put, List.setIfInBounds_toArray, List.set_cons_zero, List.set_cons_succ]
    refine wpAnyH_take (i := 2) (oi := { dst := some 24, op := Go.Op.load 50 (Go.Operand.tmp 3), type := 50, pos := "exact.go:11881", after := #[], guard := none }) (v := ?_) rfl (by kernel_rfl) (by kernel_rfl) (by kernel_rfl) (fun _ _ _ h => h) (Or.inl ⟨by rfl, ?_⟩) (by assumption) ?_
    rotate_left
    · intro w hSw; (try dsimp only at hSw); go_simp; try with_reducible rfl
    try simp only [Act.put, List.setIfInBounds_toArray, List.set_cons_zero, List.set_cons_succ]
    refine wpAnyH_ready (rs := [1, 8]) (by kernel_rfl) (by simp) ?_
    refine AllReadyH.cons (o := { dst := some 23, op := Go.Op.call { callee := Go.Callee.value (Go.Operand.func 15), args := #[Go.Operand.tmp 22], argTypes := #[25] }, type := 31, pos := "exact.go:11881", after := #[{ on := 0, ground := Go.Ground.data }], guard := none }) rfl (fun K hK => ?_) ?_
    · go_simp
      refine (toNet_any _ _ ts ls _ hz0 hz1 (NS.next hB0).rd).mono ?_
      rintro e w501 ⟨vq, uq, rfl, qS, hb501⟩
      try go_simp
      refine hK.out _ _ ?_ (fun hHeld => ?_)
      · exact KB.out _ (hB0.trans (hb501.mono hB0.size))
      clear hK K
      try simp only [Act.put, List.setIfInBounds_toArray, List.set_cons_zero, List.set_cons_succ]
      have hB502 := hB0.trans (hb501.mono hB0.size)
      refine wpAnyH_ready (rs := [3, 8]) (by kernel_rfl) (by simp) ?_
      refine AllReadyH.cons (o := { dst := some 25, op := Go.Op.call { callee := Go.Callee.value (Go.Operand.func 37), args := #[Go.Operand.tmp 24], argTypes := #[50] }, type := 53, pos := "exact.go:11881", after := #[{ on := 2, ground := Go.Ground.data }, { on := 1, ground := Go.Ground.chain }], guard := none }) rfl (fun K hK => ?_) ?_
      · go_simp
        refine (toLink_any x0 x1 x2 _).mono ?_
        rintro e w503 ⟨rfl, hb503⟩
        try go_simp
        refine hK.out _ _ ?_ (fun hHeld => ?_)
        · exact KB.out _ (hB502.trans (hb503.mono hB502.size))
        clear hK K
        try simp only [Act.put, List.setIfInBounds_toArray, List.set_cons_zero, List.set_cons_succ]
        have qS := qS.later hb503
        have hB504 := hB502.trans (hb503.mono hB502.size)
        refine wpAnyH_ready (rs := [4, 8]) (by kernel_rfl) (by simp) ?_
        refine AllReadyH.cons (o := { dst := some 26, op := Go.Op.call { callee := Go.Callee.value (Go.Operand.func 36), args := #[Go.Operand.tmp 23, Go.Operand.tmp 25], argTypes := #[31, 53] }, type := 51, pos := "exact.go:11881", after := #[{ on := 1, ground := Go.Ground.data }, { on := 3, ground := Go.Ground.data }, { on := 3, ground := Go.Ground.chain }], guard := none }) rfl (fun K hK => ?_) ?_
        · go_simp
          refine (specAddLink_any _ _ ts ls x0 x1 x2 _ qS.rd).mono ?_
          rintro e w505 ⟨vr, ur, rfl, rS, hb505⟩
          rw [← HRT.out, ← HRR.out] at rS
          rw [← HCC.out]
          obtain ⟨avr, cvr, rfl, -⟩ := rS.1.1.rd.len
          obtain ⟨aur, cur, rfl, -⟩ := rS.2.1.rd.len
          have hzPP := hb505.size
          have hzP := hB504.size
          try go_simp
          refine hK.out _ _ ?_ (fun hHeld => ?_)
          · exact KB.out _ (hB504.trans (hb505.mono hB504.size))
          clear hK K
          try simp only [Act.put, List.setIfInBounds_toArray, List.set_cons_zero, List.set_cons_succ]
          have qS := qS.later hb505
          have hB506 := hB504.trans (hb505.mono hB504.size)
          refine wpAnyH_take (i := 5) (oi := { dst := some 21, op := Go.Op.move (Go.Operand.tmp 26), type := 51, pos := "exact.go:11881", after := #[{ on := 4, ground := Go.Ground.data }], guard := none }) (v := ?_) rfl (by kernel_rfl) (by kernel_rfl) (by kernel_rfl) (fun _ _ _ h => h) (Or.inl ⟨by rfl, ?_⟩) (by assumption) ?_
          rotate_left
          · intro w hSw; (try dsimp only at hSw); go_simp; try with_reducible rfl
          try simp only [Act.put, List.setIfInBounds_toArray, List.set_cons_zero, List.set_cons_succ]
          refine wpAnyH_take (i := 6) (oi := { dst := some 27, op := Go.Op.extract (Go.Operand.tmp 21) 0, type := 31, pos := "exact.go:11881", after := #[{ on := 5, ground := Go.Ground.data }], guard := none }) (v := ?_) rfl (by kernel_rfl) (by kernel_rfl) (by kernel_rfl) (fun _ _ _ h => h) (Or.inl ⟨by rfl, ?_⟩) (by assumption) ?_
          rotate_left
          · intro w hSw; (try dsimp only at hSw); go_simp; try with_reducible rfl
          try simp only [Act.put, List.setIfInBounds_toArray, List.set_cons_zero, List.set_cons_succ]
          refine wpAnyH_take (i := 7) (oi := { dst := some 28, op := Go.Op.extract (Go.Operand.tmp 21) 1, type := 4, pos := "exact.go:11881", after := #[{ on := 5, ground := Go.Ground.data }, { on := 9, ground := Go.Ground.gcOnly Go.Departure.lateStores }], guard := none }) (v := ?_) rfl (by kernel_rfl) (by kernel_rfl) (by kernel_rfl) (fun _ _ _ h => h) (Or.inl ⟨by rfl, ?_⟩) (by assumption) ?_
          rotate_left
          · intro w hSw; (try dsimp only at hSw); go_simp; try with_reducible rfl
          try simp only [Act.put, List.setIfInBounds_toArray, List.set_cons_zero, List.set_cons_succ]
          refine wpAnyH_ready (rs := [8]) (by kernel_rfl) (by simp) ?_
          refine AllReadyH.cons (o := { dst := some 6, op := Go.Op.alloc 31, type := 0, pos := "exact.go:11881", after := #[], guard := none }) rfl (fun K hK => ?_) AllReadyH.nil
          have hxb : w505.heap.size < w503.heap.size ∨ w505.heap.size ≤ w505.heap.size := .inr (by first | exact Nat.le_refl _ | omega)
          have hbl := hB506.size
          go_simp
          refine hK.out _ _ ?_ (fun hHeld => ?_)
          · exact KB.out _ (hB506.alloc hB506.size _)
          clear hK K
          try simp only [Act.put, List.setIfInBounds_toArray, List.set_cons_zero, List.set_cons_succ]
          refine wpAnyH_name ?_
          intro w507 hw507
          rw [← hw507] at hHeld
          have hb507 := below_alloc hw507
          have z507 := lt_named hw507
          have OB : Var2 w507 w505.heap.size (.slice none 0 0) (.slice none 0 0) := by rw [hw507]; exact Var2.new _ _ _ _
          have hzb := z507
          clear hw507
          have qS := qS.later hb507
          have rS := rS.later hb507
          have hB508 := hB506.trans (hb507.mono hB506.size)
          refine wpAnyH_ready (rs := [9]) (by kernel_rfl) (by simp) ?_
          refine AllReadyH.cons (o := { dst := none, op := Go.Op.store 31 (Go.Operand.tmp 6) (Go.Operand.tmp 27), type := 0, pos := "exact.go:11881", after := #[{ on := 8, ground := Go.Ground.data }, { on := 6, ground := Go.Ground.data }, { on := 4, ground := Go.Ground.chain }, { on := 0, ground := Go.Ground.phase }, { on := 1, ground := Go.Ground.phase }, { on := 2, ground := Go.Ground.phase }, { on := 3, ground := Go.Ground.phase }, { on := 4, ground := Go.Ground.phase }, { on := 5, ground := Go.Ground.phase }, { on := 6, ground := Go.Ground.phase }, { on := 7, ground := Go.Ground.textOnly Go.Departure.lateStores }, { on := 8, ground := Go.Ground.phase }], guard := none }) rfl (fun K hK => ?_) AllReadyH.nil
          have j0 := OB.c0
          have j1 := OB.c1
          have j2 := OB.f0
          have j3 := OB.f1
          have hw2 : w.heap.size + 2 ≤ w505.heap.size := by have := N1.lt; omega
          have NT := ((NS.next hB508).set (o := 0) (u := .slice avr RT.length cvr) HR.out (show w.heap.size < w505.heap.size by omega)).set (o := 1) (u := .slice aur RR.length cur) HR.out (show w.heap.size < w505.heap.size by omega)
          have xlT := ((xlS.next hB508).set (o := 0) (u := .slice avr RT.length cvr) (show w505.heap.size ≠ w.heap.size + 1 by omega)).set (o := 1) (u := .slice aur RR.length cur) (show w505.heap.size ≠ w.heap.size + 1 by omega)
          go_simp
          refine hK.out _ _ ?_ (fun hHeld => ?_)
          · exact ⟨NT.b0, NT.b1, xlT.c0, xlT.c1, xlT.c2⟩
          clear hK K
          try simp only [Act.put, List.setIfInBounds_toArray, List.set_cons_zero, List.set_cons_succ]
          refine wpAnyH_take (i := 10) (oi := { dst := some 7, op := Go.Op.assign (Go.Operand.tmp 28), type := 4, pos := "exact.go:11881", after := #[{ on := 7, ground := Go.Ground.data }, { on := 9, ground := Go.Ground.chain }, { on := 0, ground := Go.Ground.phase }, { on := 1, ground := Go.Ground.phase }, { on := 2, ground := Go.Ground.phase }, { on := 3, ground := Go.Ground.phase }, { on := 4, ground := Go.Ground.phase }, { on := 5, ground := Go.Ground.phase }, { on := 6, ground := Go.Ground.phase }, { on := 7, ground := Go.Ground.phase }, { on := 8, ground := Go.Ground.phase }, { on := 9, ground := Go.Ground.phase }], guard := none }) (v := ?_) rfl (by kernel_rfl) (by kernel_rfl) (by kernel_rfl) (fun _ _ _ h => h) (Or.inl ⟨by rfl, ?_⟩) (by assumption) ?_
          rotate_left
          · intro w hSw; (try dsimp only at hSw); go_simp; try with_reducible rfl
          try simp only [Act.put, List.setIfInBounds_toArray, List.set_cons_zero, List.set_cons_succ]
          refine wpAnyH_done (by kernel_rfl) ?_ _
          have OM := (OB.put0 (u := .slice avr RT.length cvr)).put1 (u := .slice aur RR.length cur)
          have rT := (rS.setFar (b := w505.heap.size) (o := 0) (x := .slice avr RT.length cvr) hxb).setFar (b := w505.heap.size) (o := 1) (x := .slice aur RR.length cur) hxb
          have hBW := ((hB508.setCell (p := ⟨w505.heap.size, 0, none⟩) (show wS.heap.size ≤ w505.heap.size by omega) (.slice avr RT.length cvr)).setCell (p := ⟨w505.heap.size, 1, none⟩) (show wS.heap.size ≤ w505.heap.size by omega) (.slice aur RR.length cur))
          have hBX := hbS.trans (hBW.mono hzS)
          have hzM : w507.heap.size ≤ ((w507.setCell ⟨w505.heap.size, 0, none⟩ (.slice avr RT.length cvr)).setCell ⟨w505.heap.size, 1, none⟩ (.slice aur RR.length cur)).heap.size := by simp [World.setCell]
          go_wp2_with fail
          go_meet
          exact ⟨w505.heap.size, w503.heap.size, w505.heap.size, avr, cvr, aur, cur, rfl, rfl, hBX, OM.box, rT, by omega, by omega, by omega, hxb, hzPP⟩
        refine AllReadyH.cons (o := { dst := some 6, op := Go.Op.alloc 31, type := 0, pos := "exact.go:11881", after := #[], guard := none }) rfl (fun K hK => ?_) AllReadyH.nil
        have hbl := hB504.size
        go_simp
        refine hK.out _ _ ?_ (fun hHeld => ?_)
        · exact KB.out _ (hB504.alloc hB504.size _)
        clear hK K
        try simp only [Act.put, List.setIfInBounds_toArray, List.set_cons_zero, List.set_cons_succ]
        refine wpAnyH_name ?_
        intro w509 hw509
        rw [← hw509] at hHeld
        have hb509 := below_alloc hw509
        have z509 := lt_named hw509
        have OB : Var2 w509 w503.heap.size (.slice none 0 0) (.slice none 0 0) := by rw [hw509]; exact Var2.new _ _ _ _
        have hzb := z509
        clear hw509
        have qS := qS.later hb509
        have hB510 := hB504.trans (hb509.mono hB504.size)
        refine wpAnyH_ready (rs := [4]) (by kernel_rfl) (by simp) ?_
        refine AllReadyH.cons (o := { dst := some 26, op := Go.Op.call { callee := Go.Callee.value (Go.Operand.func 36), args := #[Go.Operand.tmp 23, Go.Operand.tmp 25], argTypes := #[31, 53] }, type := 51, pos := "exact.go:11881", after := #[{ on := 1, ground := Go.Ground.data }, { on := 3, ground := Go.Ground.data }, { on := 3, ground := Go.Ground.chain }], guard := none }) rfl (fun K hK => ?_) AllReadyH.nil
        have hzbo := hzb
        go_simp
        refine (specAddLink_any _ _ ts ls x0 x1 x2 _ qS.rd).mono ?_
        rintro e w511 ⟨vr, ur, rfl, rS, hb511⟩
        rw [← HRT.out, ← HRR.out] at rS
        rw [← HCC.out]
        obtain ⟨avr, cvr, rfl, -⟩ := rS.1.1.rd.len
        obtain ⟨aur, cur, rfl, -⟩ := rS.2.1.rd.len
        have hzPP := hb511.size
        have hzP := hB510.size
        try go_simp
        refine hK.out _ _ ?_ (fun hHeld => ?_)
        · exact KB.out _ (hB510.trans (hb511.mono hB510.size))
        clear hK K
        try simp only [Act.put, List.setIfInBounds_toArray, List.set_cons_zero, List.set_cons_succ]
        have hzb := Nat.lt_of_lt_of_le hzb hb511.size
        have qS := qS.later hb511
        have OB := OB.next hb511
        have hB512 := hB510.trans (hb511.mono hB510.size)
        have hxb : w503.heap.size < w509.heap.size ∨ w511.heap.size ≤ w503.heap.size := .inl hzbo
        refine wpAnyH_take (i := 5) (oi := { dst := some 21, op := Go.Op.move (Go.Operand.tmp 26), type := 51, pos := "exact.go:11881", after := #[{ on := 4, ground := Go.Ground.data }], guard := none }) (v := ?_) rfl (by kernel_rfl) (by kernel_rfl) (by kernel_rfl) (fun _ _ _ h => h) (Or.inl ⟨by rfl, ?_⟩) (by assumption) ?_
        rotate_left
        · intro w hSw; (try dsimp only at hSw); go_simp; try with_reducible rfl
        try simp only [Act.put, List.setIfInBounds_toArray, List.set_cons_zero, List.set_cons_succ]
        refine wpAnyH_take (i := 6) (oi := { dst := some 27, op := Go.Op.extract (Go.Operand.tmp 21) 0, type := 31, pos := "exact.go:11881", after := #[{ on := 5, ground := Go.Ground.data }], guard := none }) (v := ?_) rfl (by kernel_rfl) (by kernel_rfl) (by kernel_rfl) (fun _ _ _ h => h) (Or.inl ⟨by rfl, ?_⟩) (by assumption) ?_
        rotate_left
        · intro w hSw; (try dsimp only at hSw); go_simp; try with_reducible rfl
        try simp only [Act.put, List.setIfInBounds_toArray, List.set_cons_zero, List.set_cons_succ]
        refine wpAnyH_take (i := 7) (oi := { dst := some 28, op := Go.Op.extract (Go.Operand.tmp 21) 1, type := 4, pos := "exact.go:11881", after := #[{ on := 5, ground := Go.Ground.data }, { on := 9, ground := Go.Ground.gcOnly Go.Departure.lateStores }], guard := none }) (v := ?_) rfl (by kernel_rfl) (by kernel_rfl) (by kernel_rfl) (fun _ _ _ h => h) (Or.inl ⟨by rfl, ?_⟩) (by assumption) ?_
        rotate_left
        · intro w hSw; (try dsimp only at hSw); go_simp; try with_reducible rfl
        try simp only [Act.put, List.setIfInBounds_toArray, List.set_cons_zero, List.set_cons_succ]
        refine wpAnyH_ready (rs := [9]) (by kernel_rfl) (by simp) ?_
        refine AllReadyH.cons (o := { dst := none, op := Go.Op.store 31 (Go.Operand.tmp 6) (Go.Operand.tmp 27), type := 0, pos := "exact.go:11881", after := #[{ on := 8, ground := Go.Ground.data }, { on := 6, ground := Go.Ground.data }, { on := 4, ground := Go.Ground.chain }, { on := 0, ground := Go.Ground.phase }, { on := 1, ground := Go.Ground.phase }, { on := 2, ground := Go.Ground.phase }, { on := 3, ground := Go.Ground.phase }, { on := 4, ground := Go.Ground.phase }, { on := 5, ground := Go.Ground.phase }, { on := 6, ground := Go.Ground.phase }, { on := 7, ground := Go.Ground.textOnly Go.Departure.lateStores }, { on := 8, ground := Go.Ground.phase }], guard := none }) rfl (fun K hK => ?_) AllReadyH.nil
        have j0 := OB.c0
        have j1 := OB.c1
        have j2 := OB.f0
        have j3 := OB.f1
        have hw2 : w.heap.size + 2 ≤ w503.heap.size := by have := N1.lt; omega
        have NT := ((NS.next hB512).set (o := 0) (u := .slice avr RT.length cvr) HR.out (show w.heap.size < w503.heap.size by omega)).set (o := 1) (u := .slice aur RR.length cur) HR.out (show w.heap.size < w503.heap.size by omega)
        have xlT := ((xlS.next hB512).set (o := 0) (u := .slice avr RT.length cvr) (show w503.heap.size ≠ w.heap.size + 1 by omega)).set (o := 1) (u := .slice aur RR.length cur) (show w503.heap.size ≠ w.heap.size + 1 by omega)
        go_simp
        refine hK.out _ _ ?_ (fun hHeld => ?_)
        · exact ⟨NT.b0, NT.b1, xlT.c0, xlT.c1, xlT.c2⟩
        clear hK K
        try simp only [Act.put, List.setIfInBounds_toArray, List.set_cons_zero, List.set_cons_succ]
        refine wpAnyH_take (i := 10) (oi := { dst := some 7, op := Go.Op.assign (Go.Operand.tmp 28), type := 4, pos := "exact.go:11881", after := #[{ on := 7, ground := Go.Ground.data }, { on := 9, ground := Go.Ground.chain }, { on := 0, ground := Go.Ground.phase }, { on := 1, ground := Go.Ground.phase }, { on := 2, ground := Go.Ground.phase }, { on := 3, ground := Go.Ground.phase }, { on := 4, ground := Go.Ground.phase }, { on := 5, ground := Go.Ground.phase }, { on := 6, ground := Go.Ground.phase }, { on := 7, ground := Go.Ground.phase }, { on := 8, ground := Go.Ground.phase }, { on := 9, ground := Go.Ground.phase }], guard := none }) (v := ?_) rfl (by kernel_rfl) (by kernel_rfl) (by kernel_rfl) (fun _ _ _ h => h) (Or.inl ⟨by rfl, ?_⟩) (by assumption) ?_
        rotate_left
        · intro w hSw; (try dsimp only at hSw); go_simp; try with_reducible rfl
        try simp only [Act.put, List.setIfInBounds_toArray, List.set_cons_zero, List.set_cons_succ]
        refine wpAnyH_done (by kernel_rfl) ?_ _
        have OM := (OB.put0 (u := .slice avr RT.length cvr)).put1 (u := .slice aur RR.length cur)
        have rT := (rS.setFar (b := w503.heap.size) (o := 0) (x := .slice avr RT.length cvr) hxb).setFar (b := w503.heap.size) (o := 1) (x := .slice aur RR.length cur) hxb
        have hBW := ((hB512.setCell (p := ⟨w503.heap.size, 0, none⟩) (show wS.heap.size ≤ w503.heap.size by omega) (.slice avr RT.length cvr)).setCell (p := ⟨w503.heap.size, 1, none⟩) (show wS.heap.size ≤ w503.heap.size by omega) (.slice aur RR.length cur))
        have hBX := hbS.trans (hBW.mono hzS)
        have hzM : w511.heap.size ≤ ((w511.setCell ⟨w503.heap.size, 0, none⟩ (.slice avr RT.length cvr)).setCell ⟨w503.heap.size, 1, none⟩ (.slice aur RR.length cur)).heap.size := by simp [World.setCell]
        go_wp2_with fail
        go_meet
        exact ⟨w503.heap.size, w509.heap.size, w511.heap.size, avr, cvr, aur, cur, rfl, rfl, hBX, OM.box, rT, by omega, by omega, by omega, hxb, hzPP⟩
      refine AllReadyH.cons (o := { dst := some 6, op := Go.Op.alloc 31, type := 0, pos := "exact.go:11881", after := #[], guard := none }) rfl (fun K hK => ?_) AllReadyH.nil
      have hbl := hB502.size
      go_simp
      refine hK.out _ _ ?_ (fun hHeld => ?_)
      · exact KB.out _ (hB502.alloc hB502.size _)
      clear hK K
      try simp only [Act.put, List.setIfInBounds_toArray, List.set_cons_zero, List.set_cons_succ]
      refine wpAnyH_name ?_
      intro w513 hw513
      rw [← hw513] at hHeld
      have hb513 := below_alloc hw513
      have z513 := lt_named hw513
      have OB : Var2 w513 w501.heap.size (.slice none 0 0) (.slice none 0 0) := by rw [hw513]; exact Var2.new _ _ _ _
      have hzb := z513
      clear hw513
      have qS := qS.later hb513
      have hB514 := hB502.trans (hb513.mono hB502.size)
      refine wpAnyH_ready (rs := [3]) (by kernel_rfl) (by simp) ?_
      refine AllReadyH.cons (o := { dst := some 25, op := Go.Op.call { callee := Go.Callee.value (Go.Operand.func 37), args := #[Go.Operand.tmp 24], argTypes := #[50] }, type := 53, pos := "exact.go:11881", after := #[{ on := 2, ground := Go.Ground.data }, { on := 1, ground := Go.Ground.chain }], guard := none }) rfl (fun K hK => ?_) AllReadyH.nil
      go_simp
      refine (toLink_any x0 x1 x2 _).mono ?_
      rintro e w515 ⟨rfl, hb515⟩
      try go_simp
      refine hK.out _ _ ?_ (fun hHeld => ?_)
      · exact KB.out _ (hB514.trans (hb515.mono hB514.size))
      clear hK K
      try simp only [Act.put, List.setIfInBounds_toArray, List.set_cons_zero, List.set_cons_succ]
      have hzb := Nat.lt_of_lt_of_le hzb hb515.size
      have qS := qS.later hb515
      have OB := OB.next hb515
      have hB516 := hB514.trans (hb515.mono hB514.size)
      refine wpAnyH_ready (rs := [4]) (by kernel_rfl) (by simp) ?_
      refine AllReadyH.cons (o := { dst := some 26, op := Go.Op.call { callee := Go.Callee.value (Go.Operand.func 36), args := #[Go.Operand.tmp 23, Go.Operand.tmp 25], argTypes := #[31, 53] }, type := 51, pos := "exact.go:11881", after := #[{ on := 1, ground := Go.Ground.data }, { on := 3, ground := Go.Ground.data }, { on := 3, ground := Go.Ground.chain }], guard := none }) rfl (fun K hK => ?_) AllReadyH.nil
      have hzbo := hzb
      go_simp
      refine (specAddLink_any _ _ ts ls x0 x1 x2 _ qS.rd).mono ?_
      rintro e w517 ⟨vr, ur, rfl, rS, hb517⟩
      rw [← HRT.out, ← HRR.out] at rS
      rw [← HCC.out]
      obtain ⟨avr, cvr, rfl, -⟩ := rS.1.1.rd.len
      obtain ⟨aur, cur, rfl, -⟩ := rS.2.1.rd.len
      have hzPP := hb517.size
      have hzP := hB516.size
      try go_simp
      refine hK.out _ _ ?_ (fun hHeld => ?_)
      · exact KB.out _ (hB516.trans (hb517.mono hB516.size))
      clear hK K
      try simp only [Act.put, List.setIfInBounds_toArray, List.set_cons_zero, List.set_cons_succ]
      have hzb := Nat.lt_of_lt_of_le hzb hb517.size
      have qS := qS.later hb517
      have OB := OB.next hb517
      have hB518 := hB516.trans (hb517.mono hB516.size)
      have hxb : w501.heap.size < w515.heap.size ∨ w517.heap.size ≤ w501.heap.size := .inl hzbo
      refine wpAnyH_take (i := 5) (oi := { dst := some 21, op := Go.Op.move (Go.Operand.tmp 26), type := 51, pos := "exact.go:11881", after := #[{ on := 4, ground := Go.Ground.data }], guard := none }) (v := ?_) rfl (by kernel_rfl) (by kernel_rfl) (by kernel_rfl) (fun _ _ _ h => h) (Or.inl ⟨by rfl, ?_⟩) (by assumption) ?_
      rotate_left
      · intro w hSw; (try dsimp only at hSw); go_simp; try with_reducible rfl
      try simp only [Act.put, List.setIfInBounds_toArray, List.set_cons_zero, List.set_cons_succ]
      refine wpAnyH_take (i := 6) (oi := { dst := some 27, op := Go.Op.extract (Go.Operand.tmp 21) 0, type := 31, pos := "exact.go:11881", after := #[{ on := 5, ground := Go.Ground.data }], guard := none }) (v := ?_) rfl (by kernel_rfl) (by kernel_rfl) (by kernel_rfl) (fun _ _ _ h => h) (Or.inl ⟨by rfl, ?_⟩) (by assumption) ?_
      rotate_left
      · intro w hSw; (try dsimp only at hSw); go_simp; try with_reducible rfl
      try simp only [Act.put, List.setIfInBounds_toArray, List.set_cons_zero, List.set_cons_succ]
      refine wpAnyH_take (i := 7) (oi := { dst := some 28, op := Go.Op.extract (Go.Operand.tmp 21) 1, type := 4, pos := "exact.go:11881", after := #[{ on := 5, ground := Go.Ground.data }, { on := 9, ground := Go.Ground.gcOnly Go.Departure.lateStores }], guard := none }) (v := ?_) rfl (by kernel_rfl) (by kernel_rfl) (by kernel_rfl) (fun _ _ _ h => h) (Or.inl ⟨by rfl, ?_⟩) (by assumption) ?_
      rotate_left
      · intro w hSw; (try dsimp only at hSw); go_simp; try with_reducible rfl
      try simp only [Act.put, List.setIfInBounds_toArray, List.set_cons_zero, List.set_cons_succ]
      refine wpAnyH_ready (rs := [9]) (by kernel_rfl) (by simp) ?_
      refine AllReadyH.cons (o := { dst := none, op := Go.Op.store 31 (Go.Operand.tmp 6) (Go.Operand.tmp 27), type := 0, pos := "exact.go:11881", after := #[{ on := 8, ground := Go.Ground.data }, { on := 6, ground := Go.Ground.data }, { on := 4, ground := Go.Ground.chain }, { on := 0, ground := Go.Ground.phase }, { on := 1, ground := Go.Ground.phase }, { on := 2, ground := Go.Ground.phase }, { on := 3, ground := Go.Ground.phase }, { on := 4, ground := Go.Ground.phase }, { on := 5, ground := Go.Ground.phase }, { on := 6, ground := Go.Ground.phase }, { on := 7, ground := Go.Ground.textOnly Go.Departure.lateStores }, { on := 8, ground := Go.Ground.phase }], guard := none }) rfl (fun K hK => ?_) AllReadyH.nil
      have j0 := OB.c0
      have j1 := OB.c1
      have j2 := OB.f0
      have j3 := OB.f1
      have hw2 : w.heap.size + 2 ≤ w501.heap.size := by have := N1.lt; omega
      have NT := ((NS.next hB518).set (o := 0) (u := .slice avr RT.length cvr) HR.out (show w.heap.size < w501.heap.size by omega)).set (o := 1) (u := .slice aur RR.length cur) HR.out (show w.heap.size < w501.heap.size by omega)
      have xlT := ((xlS.next hB518).set (o := 0) (u := .slice avr RT.length cvr) (show w501.heap.size ≠ w.heap.size + 1 by omega)).set (o := 1) (u := .slice aur RR.length cur) (show w501.heap.size ≠ w.heap.size + 1 by omega)
      go_simp
      refine hK.out _ _ ?_ (fun hHeld => ?_)
      · exact ⟨NT.b0, NT.b1, xlT.c0, xlT.c1, xlT.c2⟩
      clear hK K
      try simp only [Act.put, List.setIfInBounds_toArray, List.set_cons_zero, List.set_cons_succ]
      refine wpAnyH_take (i := 10) (oi := { dst := some 7, op := Go.Op.assign (Go.Operand.tmp 28), type := 4, pos := "exact.go:11881", after := #[{ on := 7, ground := Go.Ground.data }, { on := 9, ground := Go.Ground.chain }, { on := 0, ground := Go.Ground.phase }, { on := 1, ground := Go.Ground.phase }, { on := 2, ground := Go.Ground.phase }, { on := 3, ground := Go.Ground.phase }, { on := 4, ground := Go.Ground.phase }, { on := 5, ground := Go.Ground.phase }, { on := 6, ground := Go.Ground.phase }, { on := 7, ground := Go.Ground.phase }, { on := 8, ground := Go.Ground.phase }, { on := 9, ground := Go.Ground.phase }], guard := none }) (v := ?_) rfl (by kernel_rfl) (by kernel_rfl) (by kernel_rfl) (fun _ _ _ h => h) (Or.inl ⟨by rfl, ?_⟩) (by assumption) ?_
      rotate_left
      · intro w hSw; (try dsimp only at hSw); go_simp; try with_reducible rfl
      try simp only [Act.put, List.setIfInBounds_toArray, List.set_cons_zero, List.set_cons_succ]
      refine wpAnyH_done (by kernel_rfl) ?_ _
      have OM := (OB.put0 (u := .slice avr RT.length cvr)).put1 (u := .slice aur RR.length cur)
      have rT := (rS.setFar (b := w501.heap.size) (o := 0) (x := .slice avr RT.length cvr) hxb).setFar (b := w501.heap.size) (o := 1) (x := .slice aur RR.length cur) hxb
      have hBW := ((hB518.setCell (p := ⟨w501.heap.size, 0, none⟩) (show wS.heap.size ≤ w501.heap.size by omega) (.slice avr RT.length cvr)).setCell (p := ⟨w501.heap.size, 1, none⟩) (show wS.heap.size ≤ w501.heap.size by omega) (.slice aur RR.length cur))
      have hBX := hbS.trans (hBW.mono hzS)
      have hzM : w517.heap.size ≤ ((w517.setCell ⟨w501.heap.size, 0, none⟩ (.slice avr RT.length cvr)).setCell ⟨w501.heap.size, 1, none⟩ (.slice aur RR.length cur)).heap.size := by simp [World.setCell]
      go_wp2_with fail
      go_meet
      exact ⟨w501.heap.size, w515.heap.size, w517.heap.size, avr, cvr, aur, cur, rfl, rfl, hBX, OM.box, rT, by omega, by omega, by omega, hxb, hzPP⟩
    refine AllReadyH.cons (o := { dst := some 6, op := Go.Op.alloc 31, type := 0, pos := "exact.go:11881", after := #[], guard := none }) rfl (fun K hK => ?_) AllReadyH.nil
    have hbl := hB0.size
    go_simp
    refine hK.out _ _ ?_ (fun hHeld => ?_)
    · exact KB.out _ (hB0.alloc hB0.size _)
    clear hK K
    try simp only [Act.put, List.setIfInBounds_toArray, List.set_cons_zero, List.set_cons_succ]
    refine wpAnyH_name ?_
    intro w519 hw519
    rw [← hw519] at hHeld
    have hb519 := below_alloc hw519
    have z519 := lt_named hw519
    have OB : Var2 w519 wS.heap.size (.slice none 0 0) (.slice none 0 0) := by rw [hw519]; exact Var2.new _ _ _ _
    have hzb := z519
    clear hw519
    have hB520 := hB0.trans (hb519.mono hB0.size)
    refine wpAnyH_ready (rs := [1]) (by kernel_rfl) (by simp) ?_
    refine AllReadyH.cons (o := { dst := some 23, op := Go.Op.call { callee := Go.Callee.value (Go.Operand.func 15), args := #[Go.Operand.tmp 22], argTypes := #[25] }, type := 31, pos := "exact.go:11881", after := #[{ on := 0, ground := Go.Ground.data }], guard := none }) rfl (fun K hK => ?_) AllReadyH.nil
    go_simp
    refine (toNet_any _ _ ts ls _ hz0 hz1 (NS.next hB520).rd).mono ?_
    rintro e w521 ⟨vq, uq, rfl, qS, hb521⟩
    try go_simp
    refine hK.out _ _ ?_ (fun hHeld => ?_)
    · exact KB.out _ (hB520.trans (hb521.mono hB520.size))
    clear hK K
    try simp only [Act.put, List.setIfInBounds_toArray, List.set_cons_zero, List.set_cons_succ]
    have hzb := Nat.lt_of_lt_of_le hzb hb521.size
    have OB := OB.next hb521
    have hB522 := hB520.trans (hb521.mono hB520.size)
    refine wpAnyH_ready (rs := [3]) (by kernel_rfl) (by simp) ?_
    refine AllReadyH.cons (o := { dst := some 25, op := Go.Op.call { callee := Go.Callee.value (Go.Operand.func 37), args := #[Go.Operand.tmp 24], argTypes := #[50] }, type := 53, pos := "exact.go:11881", after := #[{ on := 2, ground := Go.Ground.data }, { on := 1, ground := Go.Ground.chain }], guard := none }) rfl (fun K hK => ?_) AllReadyH.nil
    go_simp
    refine (toLink_any x0 x1 x2 _).mono ?_
    rintro e w523 ⟨rfl, hb523⟩
    try go_simp
    refine hK.out _ _ ?_ (fun hHeld => ?_)
    · exact KB.out _ (hB522.trans (hb523.mono hB522.size))
    clear hK K
    try simp only [Act.put, List.setIfInBounds_toArray, List.set_cons_zero, List.set_cons_succ]
    have hzb := Nat.lt_of_lt_of_le hzb hb523.size
    have qS := qS.later hb523
    have OB := OB.next hb523
    have hB524 := hB522.trans (hb523.mono hB522.size)
    refine wpAnyH_ready (rs := [4]) (by kernel_rfl) (by simp) ?_
    refine AllReadyH.cons (o := { dst := some 26, op := Go.Op.call { callee := Go.Callee.value (Go.Operand.func 36), args := #[Go.Operand.tmp 23, Go.Operand.tmp 25], argTypes := #[31, 53] }, type := 51, pos := "exact.go:11881", after := #[{ on := 1, ground := Go.Ground.data }, { on := 3, ground := Go.Ground.data }, { on := 3, ground := Go.Ground.chain }], guard := none }) rfl (fun K hK => ?_) AllReadyH.nil
    have hzbo := hzb
    go_simp
    refine (specAddLink_any _ _ ts ls x0 x1 x2 _ qS.rd).mono ?_
    rintro e w525 ⟨vr, ur, rfl, rS, hb525⟩
    rw [← HRT.out, ← HRR.out] at rS
    rw [← HCC.out]
    obtain ⟨avr, cvr, rfl, -⟩ := rS.1.1.rd.len
    obtain ⟨aur, cur, rfl, -⟩ := rS.2.1.rd.len
    have hzPP := hb525.size
    have hzP := hB524.size
    try go_simp
    refine hK.out _ _ ?_ (fun hHeld => ?_)
    · exact KB.out _ (hB524.trans (hb525.mono hB524.size))
    clear hK K
    try simp only [Act.put, List.setIfInBounds_toArray, List.set_cons_zero, List.set_cons_succ]
    have hzb := Nat.lt_of_lt_of_le hzb hb525.size
    have qS := qS.later hb525
    have OB := OB.next hb525
    have hB526 := hB524.trans (hb525.mono hB524.size)
    have hxb : wS.heap.size < w523.heap.size ∨ w525.heap.size ≤ wS.heap.size := .inl hzbo
    refine wpAnyH_take (i := 5) (oi := { dst := some 21, op := Go.Op.move (Go.Operand.tmp 26), type := 51, pos := "exact.go:11881", after := #[{ on := 4, ground := Go.Ground.data }], guard := none }) (v := ?_) rfl (by kernel_rfl) (by kernel_rfl) (by kernel_rfl) (fun _ _ _ h => h) (Or.inl ⟨by rfl, ?_⟩) (by assumption) ?_
    rotate_left
    · intro w hSw; (try dsimp only at hSw); go_simp; try with_reducible rfl
    try simp only [Act.put, List.setIfInBounds_toArray, List.set_cons_zero, List.set_cons_succ]
    refine wpAnyH_take (i := 6) (oi := { dst := some 27, op := Go.Op.extract (Go.Operand.tmp 21) 0, type := 31, pos := "exact.go:11881", after := #[{ on := 5, ground := Go.Ground.data }], guard := none }) (v := ?_) rfl (by kernel_rfl) (by kernel_rfl) (by kernel_rfl) (fun _ _ _ h => h) (Or.inl ⟨by rfl, ?_⟩) (by assumption) ?_
    rotate_left
    · intro w hSw; (try dsimp only at hSw); go_simp; try with_reducible rfl
    try simp only [Act.put, List.setIfInBounds_toArray, List.set_cons_zero, List.set_cons_succ]
    refine wpAnyH_take (i := 7) (oi := { dst := some 28, op := Go.Op.extract (Go.Operand.tmp 21) 1, type := 4, pos := "exact.go:11881", after := #[{ on := 5, ground := Go.Ground.data }, { on := 9, ground := Go.Ground.gcOnly Go.Departure.lateStores }], guard := none }) (v := ?_) rfl (by kernel_rfl) (by kernel_rfl) (by kernel_rfl) (fun _ _ _ h => h) (Or.inl ⟨by rfl, ?_⟩) (by assumption) ?_
    rotate_left
    · intro w hSw; (try dsimp only at hSw); go_simp; try with_reducible rfl
    try simp only [Act.put, List.setIfInBounds_toArray, List.set_cons_zero, List.set_cons_succ]
    refine wpAnyH_ready (rs := [9]) (by kernel_rfl) (by simp) ?_
    refine AllReadyH.cons (o := { dst := none, op := Go.Op.store 31 (Go.Operand.tmp 6) (Go.Operand.tmp 27), type := 0, pos := "exact.go:11881", after := #[{ on := 8, ground := Go.Ground.data }, { on := 6, ground := Go.Ground.data }, { on := 4, ground := Go.Ground.chain }, { on := 0, ground := Go.Ground.phase }, { on := 1, ground := Go.Ground.phase }, { on := 2, ground := Go.Ground.phase }, { on := 3, ground := Go.Ground.phase }, { on := 4, ground := Go.Ground.phase }, { on := 5, ground := Go.Ground.phase }, { on := 6, ground := Go.Ground.phase }, { on := 7, ground := Go.Ground.textOnly Go.Departure.lateStores }, { on := 8, ground := Go.Ground.phase }], guard := none }) rfl (fun K hK => ?_) AllReadyH.nil
    have j0 := OB.c0
    have j1 := OB.c1
    have j2 := OB.f0
    have j3 := OB.f1
    have hw2 : w.heap.size + 2 ≤ wS.heap.size := by have := N1.lt; omega
    have NT := ((NS.next hB526).set (o := 0) (u := .slice avr RT.length cvr) HR.out (show w.heap.size < wS.heap.size by omega)).set (o := 1) (u := .slice aur RR.length cur) HR.out (show w.heap.size < wS.heap.size by omega)
    have xlT := ((xlS.next hB526).set (o := 0) (u := .slice avr RT.length cvr) (show wS.heap.size ≠ w.heap.size + 1 by omega)).set (o := 1) (u := .slice aur RR.length cur) (show wS.heap.size ≠ w.heap.size + 1 by omega)
    go_simp
    refine hK.out _ _ ?_ (fun hHeld => ?_)
    · exact ⟨NT.b0, NT.b1, xlT.c0, xlT.c1, xlT.c2⟩
    clear hK K
    try simp only [Act.put, List.setIfInBounds_toArray, List.set_cons_zero, List.set_cons_succ]
    refine wpAnyH_take (i := 10) (oi := { dst := some 7, op := Go.Op.assign (Go.Operand.tmp 28), type := 4, pos := "exact.go:11881", after := #[{ on := 7, ground := Go.Ground.data }, { on := 9, ground := Go.Ground.chain }, { on := 0, ground := Go.Ground.phase }, { on := 1, ground := Go.Ground.phase }, { on := 2, ground := Go.Ground.phase }, { on := 3, ground := Go.Ground.phase }, { on := 4, ground := Go.Ground.phase }, { on := 5, ground := Go.Ground.phase }, { on := 6, ground := Go.Ground.phase }, { on := 7, ground := Go.Ground.phase }, { on := 8, ground := Go.Ground.phase }, { on := 9, ground := Go.Ground.phase }], guard := none }) (v := ?_) rfl (by kernel_rfl) (by kernel_rfl) (by kernel_rfl) (fun _ _ _ h => h) (Or.inl ⟨by rfl, ?_⟩) (by assumption) ?_
    rotate_left
    · intro w hSw; (try dsimp only at hSw); go_simp; try with_reducible rfl
    try simp only [Act.put, List.setIfInBounds_toArray, List.set_cons_zero, List.set_cons_succ]
    refine wpAnyH_done (by kernel_rfl) ?_ _
    have OM := (OB.put0 (u := .slice avr RT.length cvr)).put1 (u := .slice aur RR.length cur)
    have rT := (rS.setFar (b := wS.heap.size) (o := 0) (x := .slice avr RT.length cvr) hxb).setFar (b := wS.heap.size) (o := 1) (x := .slice aur RR.length cur) hxb
    have hBW := ((hB526.setCell (p := ⟨wS.heap.size, 0, none⟩) (show wS.heap.size ≤ wS.heap.size by omega) (.slice avr RT.length cvr)).setCell (p := ⟨wS.heap.size, 1, none⟩) (show wS.heap.size ≤ wS.heap.size by omega) (.slice aur RR.length cur))
    have hBX := hbS.trans (hBW.mono hzS)
    have hzM : w525.heap.size ≤ ((w525.setCell ⟨wS.heap.size, 0, none⟩ (.slice avr RT.length cvr)).setCell ⟨wS.heap.size, 1, none⟩ (.slice aur RR.length cur)).heap.size := by simp [World.setCell]
    go_wp2_with fail
    go_meet
    exact ⟨wS.heap.size, w523.heap.size, w525.heap.size, avr, cvr, aur, cur, rfl, rfl, hBX, OM.box, rT, by omega, by omega, by omega, hxb, hzPP⟩
  case rest =>
  obtain ⟨os, Bs, Cs, avs, cvs, aus, cus, rfl, rfl, hb2, bs, s, zbs, zcs, zos, zxs, zys⟩ := hcut
  have z2 := hb2.size
  have xl := xl.next hb2
  have N2 := N1.next hb2
  have zl2 := bs.lt
  clear h0 h1 y0 y1 y2
  have h0 := N2.b0
  have h1 := N2.b1
  have y0 := xl.c0
  have y1 := xl.c1
  have y2 := xl.c2
  have bs0 := bs.c0
  have bs1 := bs.c1
  generalize wc = w2 at *
  go_wp2_with fail
  refine (toNet_any _ _ ts ls _ hz0 hz1 N2.rd).mono ?_
  rintro e w3 ⟨vx, ux, rfl, x, hb3⟩
  have z3 := hb3.size
  have s := s.later hb3
  have bs := bs.next hb3
  have xl := xl.next hb3
  have N3 := N2.next hb3
  clear h0 h1 y0 y1 y2 bs0 bs1
  have h0 := N3.b0
  have h1 := N3.b1
  have y0 := xl.c0
  have y1 := xl.c1
  have y2 := xl.c2
  have bs0 := bs.c0
  have bs1 := bs.c1
  obtain ⟨avx, cvx, rfl, -⟩ := x.1.1.rd.len
  obtain ⟨aux, cux, rfl, -⟩ := x.2.1.rd.len
  have al3 := (Below.refl w3.heap.size w3).alloc (Nat.le_refl _) (.cells #[.slice avx ts.length cvx, .slice aux ls.length cux] 31)
  have s := s.later al3
  have x := x.later al3
  have bs := bs.next al3
  have xl := xl.next al3
  have bx := Box2.new w3 (.slice avx ts.length cvx) (.slice aux ls.length cux) 31
  have N4 := N3.next al3
  have zz3 := al3.size
  have zl3 := bx.lt
  clear h0 h1 y0 y1 y2 bs0 bs1
  have h0 := N4.b0
  have h1 := N4.b1
  have y0 := xl.c0
  have y1 := xl.c1
  have y2 := xl.c2
  have bs0 := bs.c0
  have bs1 := bs.c1
  have bx0 := bx.c0
  have bx1 := bx.c1
  go_wp2_with fail
  generalize w3.alloc (.cells #[.slice avx ts.length cvx, .slice aux ls.length cux] 31) = w4 at *
  go_cut [9, 10] from 31 to 37 (fun s9 s10 wx => ∃ (bo B C : Nat) (av cv au cu : _), s9 = .pointer (some ⟨bo, 0, none⟩) ∧ s10 = .bool CC ∧ Below w4.heap.size w4 wx ∧ Box2 wx bo (.slice av RT.length cv) (.slice au RR.length cu) ∧ OwnN wx B C (.slice av RT.length cv) (.slice au RR.length cu) RT RR ∧ w4.heap.size ≤ B ∧ C ≤ wx.heap.size ∧ w4.heap.size ≤ bo ∧ (bo < B ∨ C ≤ bo) ∧ B ≤ C)
  case first =>
    refine wp_region_held_drew (S := (fun w' => w'.cell? ⟨w3.heap.size, 0, none⟩ = some (.slice avx ts.length cvx) ∧ w'.cell? ⟨w3.heap.size, 1, none⟩ = some (.slice aux ls.length cux) ∧ w'.cell? ⟨w.heap.size + 1, 0, none⟩ = some (.int .i64 x0) ∧ w'.cell? ⟨w.heap.size + 1, 1, none⟩ = some (.int .i64 x1) ∧ w'.cell? ⟨w.heap.size + 1, 2, none⟩ = some (.int .i64 x2))) (by kernel_rfl) ?_ (fun hHeld => ?_)
    · exact ⟨(bx.next (Below.refl _ _).drew).c0, (bx.next (Below.refl _ _).drew).c1, (xl.next (Below.refl _ _).drew).c0, (xl.next (Below.refl _ _).drew).c1, (xl.next (Below.refl _ _).drew).c2⟩
    refine wpAnyH_name ?_
    intro wS hwS
    rw [← hwS] at hHeld
    have hbS := below_named hwS
    clear hwS
    have hB0 := Below.refl wS.heap.size wS
    have NS := N4.next hbS
    have xlS := xl.next hbS
    have hzS := hbS.size
    have bxS := bx.next hbS
    have xS := x.later hbS
    have KB : Hid (∀ y : World, Below wS.heap.size wS y → y.cell? ⟨w3.heap.size, 0, none⟩ = some (.slice avx ts.length cvx) ∧ y.cell? ⟨w3.heap.size, 1, none⟩ = some (.slice aux ls.length cux) ∧ y.cell? ⟨w.heap.size + 1, 0, none⟩ = some (.int .i64 x0) ∧ y.cell? ⟨w.heap.size + 1, 1, none⟩ = some (.int .i64 x1) ∧ y.cell? ⟨w.heap.size + 1, 2, none⟩ = some (.int .i64 x2)) := Lib.hid fun y h => ⟨(bxS.next h).c0, (bxS.next h).c1, (xlS.next h).c0, (xlS.next h).c1, (xlS.next h).c2⟩
    refine wpAnyH_take (i := 0) (oi := { dst := some 32, op := Go.Op.load 31 (Go.Operand.tmp 8), type := 31, pos := "exact.go:11883", after := #[], guard := none }) (v := ?_) rfl (by kernel_rfl) (by kernel_rfl) (by kernel_rfl) (fun _ _ _ h => h) (Or.inl ⟨by rfl, ?_⟩) (by assumption) ?_
    rotate_left
    · intro w hSw; (try dsimp only at hSw); go_simp; try with_reducible rfl
    try simp only [Act.put, List.setIfInBounds_toArray, List.set_cons_zero, List.set_cons_succ]
    refine wpAnyH_take (i := 1) (oi := { dst := some 33, op := Go.Op.load 50 (Go.Operand.tmp 3), type := 50, pos := "exact.go:11883", after := #[], guard := none }) (v := ?_) rfl (by kernel_rfl) (by kernel_rfl) (by kernel_rfl) (fun _ _ _ h => h) (Or.inl ⟨by rfl, ?_⟩) (by assumption) ?_
    rotate_left
    · intro w hSw; (try dsimp only at hSw); go_simp; try with_reducible rfl
    try simp only [Act.put, List.setIfInBounds_toArray, List.set_cons_zero, List.set_cons_succ]
    refine wpAnyH_ready (rs := [2, 7]) (by kernel_rfl) (by simp) ?_
    refine AllReadyH.cons (o := { dst := some 34, op := Go.Op.call { callee := Go.Callee.value (Go.Operand.func 37), args := #[Go.Operand.tmp 33], argTypes := #[50] }, type := 53, pos := "exact.go:11883", after := #[{ on := 1, ground := Go.Ground.data }], guard := none }) rfl (fun K hK => ?_) ?_
    · go_simp
      refine (toLink_any x0 x1 x2 _).mono ?_
      rintro e w701 ⟨rfl, hb701⟩
      try go_simp
      refine hK.out _ _ ?_ (fun hHeld => ?_)
      · exact KB.out _ (hB0.trans (hb701.mono hB0.size))
      clear hK K
      try simp only [Act.put, List.setIfInBounds_toArray, List.set_cons_zero, List.set_cons_succ]
      have xS := xS.later hb701
      have hB702 := hB0.trans (hb701.mono hB0.size)
      refine wpAnyH_ready (rs := [3, 7]) (by kernel_rfl) (by simp) ?_
      refine AllReadyH.cons (o := { dst := some 35, op := Go.Op.call { callee := Go.Callee.value (Go.Operand.func 38), args := #[Go.Operand.tmp 32, Go.Operand.tmp 34], argTypes := #[31, 53] }, type := 51, pos := "exact.go:11883", after := #[{ on := 0, ground := Go.Ground.data }, { on := 2, ground := Go.Ground.data }, { on := 2, ground := Go.Ground.chain }], guard := none }) rfl (fun K hK => ?_) ?_
      · go_simp
        refine (addLink_any _ _ ts ls x0 x1 x2 _ xS.rd).mono ?_
        rintro e w703 ⟨vr, ur, rfl, rS, hb703⟩
        rw [← HRT.out, ← HRR.out] at rS
        rw [← HCC.out]
        obtain ⟨avr, cvr, rfl, -⟩ := rS.1.1.rd.len
        obtain ⟨aur, cur, rfl, -⟩ := rS.2.1.rd.len
        have hzPP := hb703.size
        have hzP := hB702.size
        try go_simp
        refine hK.out _ _ ?_ (fun hHeld => ?_)
        · exact KB.out _ (hB702.trans (hb703.mono hB702.size))
        clear hK K
        try simp only [Act.put, List.setIfInBounds_toArray, List.set_cons_zero, List.set_cons_succ]
        have xS := xS.later hb703
        have hB704 := hB702.trans (hb703.mono hB702.size)
        refine wpAnyH_take (i := 4) (oi := { dst := some 31, op := Go.Op.move (Go.Operand.tmp 35), type := 51, pos := "exact.go:11883", after := #[{ on := 3, ground := Go.Ground.data }], guard := none }) (v := ?_) rfl (by kernel_rfl) (by kernel_rfl) (by kernel_rfl) (fun _ _ _ h => h) (Or.inl ⟨by rfl, ?_⟩) (by assumption) ?_
        rotate_left
        · intro w hSw; (try dsimp only at hSw); go_simp; try with_reducible rfl
        try simp only [Act.put, List.setIfInBounds_toArray, List.set_cons_zero, List.set_cons_succ]
        refine wpAnyH_take (i := 5) (oi := { dst := some 36, op := Go.Op.extract (Go.Operand.tmp 31) 0, type := 31, pos := "exact.go:11883", after := #[{ on := 4, ground := Go.Ground.data }], guard := none }) (v := ?_) rfl (by kernel_rfl) (by kernel_rfl) (by kernel_rfl) (fun _ _ _ h => h) (Or.inl ⟨by rfl, ?_⟩) (by assumption) ?_
        rotate_left
        · intro w hSw; (try dsimp only at hSw); go_simp; try with_reducible rfl
        try simp only [Act.put, List.setIfInBounds_toArray, List.set_cons_zero, List.set_cons_succ]
        refine wpAnyH_take (i := 6) (oi := { dst := some 37, op := Go.Op.extract (Go.Operand.tmp 31) 1, type := 4, pos := "exact.go:11883", after := #[{ on := 4, ground := Go.Ground.data }, { on := 8, ground := Go.Ground.gcOnly Go.Departure.lateStores }], guard := none }) (v := ?_) rfl (by kernel_rfl) (by kernel_rfl) (by kernel_rfl) (fun _ _ _ h => h) (Or.inl ⟨by rfl, ?_⟩) (by assumption) ?_
        rotate_left
        · intro w hSw; (try dsimp only at hSw); go_simp; try with_reducible rfl
        try simp only [Act.put, List.setIfInBounds_toArray, List.set_cons_zero, List.set_cons_succ]
        refine wpAnyH_ready (rs := [7]) (by kernel_rfl) (by simp) ?_
        refine AllReadyH.cons (o := { dst := some 9, op := Go.Op.alloc 31, type := 0, pos := "exact.go:11883", after := #[], guard := none }) rfl (fun K hK => ?_) AllReadyH.nil
        have hxb : w703.heap.size < w701.heap.size ∨ w703.heap.size ≤ w703.heap.size := .inr (by first | exact Nat.le_refl _ | omega)
        have hbl := hB704.size
        go_simp
        refine hK.out _ _ ?_ (fun hHeld => ?_)
        · exact KB.out _ (hB704.alloc hB704.size _)
        clear hK K
        try simp only [Act.put, List.setIfInBounds_toArray, List.set_cons_zero, List.set_cons_succ]
        refine wpAnyH_name ?_
        intro w705 hw705
        rw [← hw705] at hHeld
        have hb705 := below_alloc hw705
        have z705 := lt_named hw705
        have OB : Var2 w705 w703.heap.size (.slice none 0 0) (.slice none 0 0) := by rw [hw705]; exact Var2.new _ _ _ _
        have hzb := z705
        clear hw705
        have xS := xS.later hb705
        have rS := rS.later hb705
        have hB706 := hB704.trans (hb705.mono hB704.size)
        refine wpAnyH_ready (rs := [8]) (by kernel_rfl) (by simp) ?_
        refine AllReadyH.cons (o := { dst := none, op := Go.Op.store 31 (Go.Operand.tmp 9) (Go.Operand.tmp 36), type := 0, pos := "exact.go:11883", after := #[{ on := 7, ground := Go.Ground.data }, { on := 5, ground := Go.Ground.data }, { on := 3, ground := Go.Ground.chain }, { on := 0, ground := Go.Ground.phase }, { on := 1, ground := Go.Ground.phase }, { on := 2, ground := Go.Ground.phase }, { on := 3, ground := Go.Ground.phase }, { on := 4, ground := Go.Ground.phase }, { on := 5, ground := Go.Ground.phase }, { on := 6, ground := Go.Ground.textOnly Go.Departure.lateStores }, { on := 7, ground := Go.Ground.phase }], guard := none }) rfl (fun K hK => ?_) AllReadyH.nil
        have j0 := OB.c0
        have j1 := OB.c1
        have j2 := OB.f0
        have j3 := OB.f1
        have hw2 : w.heap.size + 2 ≤ w703.heap.size := by have := N4.lt; omega
        have NT := ((NS.next hB706).set (o := 0) (u := .slice avr RT.length cvr) HR.out (show w.heap.size < w703.heap.size by omega)).set (o := 1) (u := .slice aur RR.length cur) HR.out (show w.heap.size < w703.heap.size by omega)
        have xlT := ((xlS.next hB706).set (o := 0) (u := .slice avr RT.length cvr) (show w703.heap.size ≠ w.heap.size + 1 by omega)).set (o := 1) (u := .slice aur RR.length cur) (show w703.heap.size ≠ w.heap.size + 1 by omega)
        have hwx : w3.heap.size < w703.heap.size := by have := bx.lt; omega
        have bxT := ((bxS.next hB706).set (o := 0) (u := .slice avr RT.length cvr) (Nat.ne_of_gt hwx)).set (o := 1) (u := .slice aur RR.length cur) (Nat.ne_of_gt hwx)
        go_simp
        refine hK.out _ _ ?_ (fun hHeld => ?_)
        · exact ⟨bxT.c0, bxT.c1, xlT.c0, xlT.c1, xlT.c2⟩
        clear hK K
        try simp only [Act.put, List.setIfInBounds_toArray, List.set_cons_zero, List.set_cons_succ]
        refine wpAnyH_take (i := 9) (oi := { dst := some 10, op := Go.Op.assign (Go.Operand.tmp 37), type := 4, pos := "exact.go:11883", after := #[{ on := 6, ground := Go.Ground.data }, { on := 8, ground := Go.Ground.chain }, { on := 0, ground := Go.Ground.phase }, { on := 1, ground := Go.Ground.phase }, { on := 2, ground := Go.Ground.phase }, { on := 3, ground := Go.Ground.phase }, { on := 4, ground := Go.Ground.phase }, { on := 5, ground := Go.Ground.phase }, { on := 6, ground := Go.Ground.phase }, { on := 7, ground := Go.Ground.phase }, { on := 8, ground := Go.Ground.phase }], guard := none }) (v := ?_) rfl (by kernel_rfl) (by kernel_rfl) (by kernel_rfl) (fun _ _ _ h => h) (Or.inl ⟨by rfl, ?_⟩) (by assumption) ?_
        rotate_left
        · intro w hSw; (try dsimp only at hSw); go_simp; try with_reducible rfl
        try simp only [Act.put, List.setIfInBounds_toArray, List.set_cons_zero, List.set_cons_succ]
        refine wpAnyH_done (by kernel_rfl) ?_ _
        have OM := (OB.put0 (u := .slice avr RT.length cvr)).put1 (u := .slice aur RR.length cur)
        have rT := (rS.setFar (b := w703.heap.size) (o := 0) (x := .slice avr RT.length cvr) hxb).setFar (b := w703.heap.size) (o := 1) (x := .slice aur RR.length cur) hxb
        have hBW := ((hB706.setCell (p := ⟨w703.heap.size, 0, none⟩) (show wS.heap.size ≤ w703.heap.size by omega) (.slice avr RT.length cvr)).setCell (p := ⟨w703.heap.size, 1, none⟩) (show wS.heap.size ≤ w703.heap.size by omega) (.slice aur RR.length cur))
        have hBX := hbS.trans (hBW.mono hzS)
        have hzM : w705.heap.size ≤ ((w705.setCell ⟨w703.heap.size, 0, none⟩ (.slice avr RT.length cvr)).setCell ⟨w703.heap.size, 1, none⟩ (.slice aur RR.length cur)).heap.size := by simp [World.setCell]
        go_wp2_with fail
        go_meet
        exact ⟨w703.heap.size, w701.heap.size, w703.heap.size, avr, cvr, aur, cur, rfl, rfl, hBX, OM.box, rT, by omega, by omega, by omega, hxb, hzPP⟩
      refine AllReadyH.cons (o := { dst := some 9, op := Go.Op.alloc 31, type := 0, pos := "exact.go:11883", after := #[], guard := none }) rfl (fun K hK => ?_) AllReadyH.nil
      have hbl := hB702.size
      go_simp
      refine hK.out _ _ ?_ (fun hHeld => ?_)
      · exact KB.out _ (hB702.alloc hB702.size _)
      clear hK K
      try simp only [Act.put, List.setIfInBounds_toArray, List.set_cons_zero, List.set_cons_succ]
      refine wpAnyH_name ?_
      intro w707 hw707
      rw [← hw707] at hHeld
      have hb707 := below_alloc hw707
      have z707 := lt_named hw707
      have OB : Var2 w707 w701.heap.size (.slice none 0 0) (.slice none 0 0) := by rw [hw707]; exact Var2.new _ _ _ _
      have hzb := z707
      clear hw707
      have xS := xS.later hb707
      have hB708 := hB702.trans (hb707.mono hB702.size)
      refine wpAnyH_ready (rs := [3]) (by kernel_rfl) (by simp) ?_
      refine AllReadyH.cons (o := { dst := some 35, op := Go.Op.call { callee := Go.Callee.value (Go.Operand.func 38), args := #[Go.Operand.tmp 32, Go.Operand.tmp 34], argTypes := #[31, 53] }, type := 51, pos := "exact.go:11883", after := #[{ on := 0, ground := Go.Ground.data }, { on := 2, ground := Go.Ground.data }, { on := 2, ground := Go.Ground.chain }], guard := none }) rfl (fun K hK => ?_) AllReadyH.nil
      have hzbo := hzb
      go_simp
      refine (addLink_any _ _ ts ls x0 x1 x2 _ xS.rd).mono ?_
      rintro e w709 ⟨vr, ur, rfl, rS, hb709⟩
      rw [← HRT.out, ← HRR.out] at rS
      rw [← HCC.out]
      obtain ⟨avr, cvr, rfl, -⟩ := rS.1.1.rd.len
      obtain ⟨aur, cur, rfl, -⟩ := rS.2.1.rd.len
      have hzPP := hb709.size
      have hzP := hB708.size
      try go_simp
      refine hK.out _ _ ?_ (fun hHeld => ?_)
      · exact KB.out _ (hB708.trans (hb709.mono hB708.size))
      clear hK K
      try simp only [Act.put, List.setIfInBounds_toArray, List.set_cons_zero, List.set_cons_succ]
      have hzb := Nat.lt_of_lt_of_le hzb hb709.size
      have xS := xS.later hb709
      have OB := OB.next hb709
      have hB710 := hB708.trans (hb709.mono hB708.size)
      have hxb : w701.heap.size < w707.heap.size ∨ w709.heap.size ≤ w701.heap.size := .inl hzbo
      refine wpAnyH_take (i := 4) (oi := { dst := some 31, op := Go.Op.move (Go.Operand.tmp 35), type := 51, pos := "exact.go:11883", after := #[{ on := 3, ground := Go.Ground.data }], guard := none }) (v := ?_) rfl (by kernel_rfl) (by kernel_rfl) (by kernel_rfl) (fun _ _ _ h => h) (Or.inl ⟨by rfl, ?_⟩) (by assumption) ?_
      rotate_left
      · intro w hSw; (try dsimp only at hSw); go_simp; try with_reducible rfl
      try simp only [Act.put, List.setIfInBounds_toArray, List.set_cons_zero, List.set_cons_succ]
      refine wpAnyH_take (i := 5) (oi := { dst := some 36, op := Go.Op.extract (Go.Operand.tmp 31) 0, type := 31, pos := "exact.go:11883", after := #[{ on := 4, ground := Go.Ground.data }], guard := none }) (v := ?_) rfl (by kernel_rfl) (by kernel_rfl) (by kernel_rfl) (fun _ _ _ h => h) (Or.inl ⟨by rfl, ?_⟩) (by assumption) ?_
      rotate_left
      · intro w hSw; (try dsimp only at hSw); go_simp; try with_reducible rfl
      try simp only [Act.put, List.setIfInBounds_toArray, List.set_cons_zero, List.set_cons_succ]
      refine wpAnyH_take (i := 6) (oi := { dst := some 37, op := Go.Op.extract (Go.Operand.tmp 31) 1, type := 4, pos := "exact.go:11883", after := #[{ on := 4, ground := Go.Ground.data }, { on := 8, ground := Go.Ground.gcOnly Go.Departure.lateStores }], guard := none }) (v := ?_) rfl (by kernel_rfl) (by kernel_rfl) (by kernel_rfl) (fun _ _ _ h => h) (Or.inl ⟨by rfl, ?_⟩) (by assumption) ?_
      rotate_left
      · intro w hSw; (try dsimp only at hSw); go_simp; try with_reducible rfl
      try simp only [Act.put, List.setIfInBounds_toArray, List.set_cons_zero, List.set_cons_succ]
      refine wpAnyH_ready (rs := [8]) (by kernel_rfl) (by simp) ?_
      refine AllReadyH.cons (o := { dst := none, op := Go.Op.store 31 (Go.Operand.tmp 9) (Go.Operand.tmp 36), type := 0, pos := "exact.go:11883", after := #[{ on := 7, ground := Go.Ground.data }, { on := 5, ground := Go.Ground.data }, { on := 3, ground := Go.Ground.chain }, { on := 0, ground := Go.Ground.phase }, { on := 1, ground := Go.Ground.phase }, { on := 2, ground := Go.Ground.phase }, { on := 3, ground := Go.Ground.phase }, { on := 4, ground := Go.Ground.phase }, { on := 5, ground := Go.Ground.phase }, { on := 6, ground := Go.Ground.textOnly Go.Departure.lateStores }, { on := 7, ground := Go.Ground.phase }], guard := none }) rfl (fun K hK => ?_) AllReadyH.nil
      have j0 := OB.c0
      have j1 := OB.c1
      have j2 := OB.f0
      have j3 := OB.f1
      have hw2 : w.heap.size + 2 ≤ w701.heap.size := by have := N4.lt; omega
      have NT := ((NS.next hB710).set (o := 0) (u := .slice avr RT.length cvr) HR.out (show w.heap.size < w701.heap.size by omega)).set (o := 1) (u := .slice aur RR.length cur) HR.out (show w.heap.size < w701.heap.size by omega)
      have xlT := ((xlS.next hB710).set (o := 0) (u := .slice avr RT.length cvr) (show w701.heap.size ≠ w.heap.size + 1 by omega)).set (o := 1) (u := .slice aur RR.length cur) (show w701.heap.size ≠ w.heap.size + 1 by omega)
      have hwx : w3.heap.size < w701.heap.size := by have := bx.lt; omega
      have bxT := ((bxS.next hB710).set (o := 0) (u := .slice avr RT.length cvr) (Nat.ne_of_gt hwx)).set (o := 1) (u := .slice aur RR.length cur) (Nat.ne_of_gt hwx)
      go_simp
      refine hK.out _ _ ?_ (fun hHeld => ?_)
      · exact ⟨bxT.c0, bxT.c1, xlT.c0, xlT.c1, xlT.c2⟩
      clear hK K
      try simp only [Act.put, List.setIfInBounds_toArray, List.set_cons_zero, List.set_cons_succ]
      refine wpAnyH_take (i := 9) (oi := { dst := some 10, op := Go.Op.assign (Go.Operand.tmp 37), type := 4, pos := "exact.go:11883", after := #[{ on := 6, ground := Go.Ground.data }, { on := 8, ground := Go.Ground.chain }, { on := 0, ground := Go.Ground.phase }, { on := 1, ground := Go.Ground.phase }, { on := 2, ground := Go.Ground.phase }, { on := 3, ground := Go.Ground.phase }, { on := 4, ground := Go.Ground.phase }, { on := 5, ground := Go.Ground.phase }, { on := 6, ground := Go.Ground.phase }, { on := 7, ground := Go.Ground.phase }, { on := 8, ground := Go.Ground.phase }], guard := none }) (v := ?_) rfl (by kernel_rfl) (by kernel_rfl) (by kernel_rfl) (fun _ _ _ h => h) (Or.inl ⟨by rfl, ?_⟩) (by assumption) ?_
      rotate_left
      · intro w hSw; (try dsimp only at hSw); go_simp; try with_reducible rfl
      try simp only [Act.put, List.setIfInBounds_toArray, List.set_cons_zero, List.set_cons_succ]
      refine wpAnyH_done (by kernel_rfl) ?_ _
      have OM := (OB.put0 (u := .slice avr RT.length cvr)).put1 (u := .slice aur RR.length cur)
      have rT := (rS.setFar (b := w701.heap.size) (o := 0) (x := .slice avr RT.length cvr) hxb).setFar (b := w701.heap.size) (o := 1) (x := .slice aur RR.length cur) hxb
      have hBW := ((hB710.setCell (p := ⟨w701.heap.size, 0, none⟩) (show wS.heap.size ≤ w701.heap.size by omega) (.slice avr RT.length cvr)).setCell (p := ⟨w701.heap.size, 1, none⟩) (show wS.heap.size ≤ w701.heap.size by omega) (.slice aur RR.length cur))
      have hBX := hbS.trans (hBW.mono hzS)
      have hzM : w709.heap.size ≤ ((w709.setCell ⟨w701.heap.size, 0, none⟩ (.slice avr RT.length cvr)).setCell ⟨w701.heap.size, 1, none⟩ (.slice aur RR.length cur)).heap.size := by simp [World.setCell]
      go_wp2_with fail
      go_meet
      exact ⟨w701.heap.size, w707.heap.size, w709.heap.size, avr, cvr, aur, cur, rfl, rfl, hBX, OM.box, rT, by omega, by omega, by omega, hxb, hzPP⟩
    refine AllReadyH.cons (o := { dst := some 9, op := Go.Op.alloc 31, type := 0, pos := "exact.go:11883", after := #[], guard := none }) rfl (fun K hK => ?_) AllReadyH.nil
    have hbl := hB0.size
    go_simp
    refine hK.out _ _ ?_ (fun hHeld => ?_)
    · exact KB.out _ (hB0.alloc hB0.size _)
    clear hK K
    try simp only [Act.put, List.setIfInBounds_toArray, List.set_cons_zero, List.set_cons_succ]
    refine wpAnyH_name ?_
    intro w711 hw711
    rw [← hw711] at hHeld
    have hb711 := below_alloc hw711
    have z711 := lt_named hw711
    have OB : Var2 w711 wS.heap.size (.slice none 0 0) (.slice none 0 0) := by rw [hw711]; exact Var2.new _ _ _ _
    have hzb := z711
    clear hw711
    have xS := xS.later hb711
    have hB712 := hB0.trans (hb711.mono hB0.size)
    refine wpAnyH_ready (rs := [2]) (by kernel_rfl) (by simp) ?_
    refine AllReadyH.cons (o := { dst := some 34, op := Go.Op.call { callee := Go.Callee.value (Go.Operand.func 37), args := #[Go.Operand.tmp 33], argTypes := #[50] }, type := 53, pos := "exact.go:11883", after := #[{ on := 1, ground := Go.Ground.data }], guard := none }) rfl (fun K hK => ?_) AllReadyH.nil
    go_simp
    refine (toLink_any x0 x1 x2 _).mono ?_
    rintro e w713 ⟨rfl, hb713⟩
    try go_simp
    refine hK.out _ _ ?_ (fun hHeld => ?_)
    · exact KB.out _ (hB712.trans (hb713.mono hB712.size))
    clear hK K
    try simp only [Act.put, List.setIfInBounds_toArray, List.set_cons_zero, List.set_cons_succ]
    have hzb := Nat.lt_of_lt_of_le hzb hb713.size
    have xS := xS.later hb713
    have OB := OB.next hb713
    have hB714 := hB712.trans (hb713.mono hB712.size)
    refine wpAnyH_ready (rs := [3]) (by kernel_rfl) (by simp) ?_
    refine AllReadyH.cons (o := { dst := some 35, op := Go.Op.call { callee := Go.Callee.value (Go.Operand.func 38), args := #[Go.Operand.tmp 32, Go.Operand.tmp 34], argTypes := #[31, 53] }, type := 51, pos := "exact.go:11883", after := #[{ on := 0, ground := Go.Ground.data }, { on := 2, ground := Go.Ground.data }, { on := 2, ground := Go.Ground.chain }], guard := none }) rfl (fun K hK => ?_) AllReadyH.nil
    have hzbo := hzb
    go_simp
    refine (addLink_any _ _ ts ls x0 x1 x2 _ xS.rd).mono ?_
    rintro e w715 ⟨vr, ur, rfl, rS, hb715⟩
    rw [← HRT.out, ← HRR.out] at rS
    rw [← HCC.out]
    obtain ⟨avr, cvr, rfl, -⟩ := rS.1.1.rd.len
    obtain ⟨aur, cur, rfl, -⟩ := rS.2.1.rd.len
    have hzPP := hb715.size
    have hzP := hB714.size
    try go_simp
    refine hK.out _ _ ?_ (fun hHeld => ?_)
    · exact KB.out _ (hB714.trans (hb715.mono hB714.size))
    clear hK K
    try simp only [Act.put, List.setIfInBounds_toArray, List.set_cons_zero, List.set_cons_succ]
    have hzb := Nat.lt_of_lt_of_le hzb hb715.size
    have xS := xS.later hb715
    have OB := OB.next hb715
    have hB716 := hB714.trans (hb715.mono hB714.size)
    have hxb : wS.heap.size < w713.heap.size ∨ w715.heap.size ≤ wS.heap.size := .inl hzbo
    refine wpAnyH_take (i := 4) (oi := { dst := some 31, op := Go.Op.move (Go.Operand.tmp 35), type := 51, pos := "exact.go:11883", after := #[{ on := 3, ground := Go.Ground.data }], guard := none }) (v := ?_) rfl (by kernel_rfl) (by kernel_rfl) (by kernel_rfl) (fun _ _ _ h => h) (Or.inl ⟨by rfl, ?_⟩) (by assumption) ?_
    rotate_left
    · intro w hSw; (try dsimp only at hSw); go_simp; try with_reducible rfl
    try simp only [Act.put, List.setIfInBounds_toArray, List.set_cons_zero, List.set_cons_succ]
    refine wpAnyH_take (i := 5) (oi := { dst := some 36, op := Go.Op.extract (Go.Operand.tmp 31) 0, type := 31, pos := "exact.go:11883", after := #[{ on := 4, ground := Go.Ground.data }], guard := none }) (v := ?_) rfl (by kernel_rfl) (by kernel_rfl) (by kernel_rfl) (fun _ _ _ h => h) (Or.inl ⟨by rfl, ?_⟩) (by assumption) ?_
    rotate_left
    · intro w hSw; (try dsimp only at hSw); go_simp; try with_reducible rfl
    try simp only [Act.put, List.setIfInBounds_toArray, List.set_cons_zero, List.set_cons_succ]
    refine wpAnyH_take (i := 6) (oi := { dst := some 37, op := Go.Op.extract (Go.Operand.tmp 31) 1, type := 4, pos := "exact.go:11883", after := #[{ on := 4, ground := Go.Ground.data }, { on := 8, ground := Go.Ground.gcOnly Go.Departure.lateStores }], guard := none }) (v := ?_) rfl (by kernel_rfl) (by kernel_rfl) (by kernel_rfl) (fun _ _ _ h => h) (Or.inl ⟨by rfl, ?_⟩) (by assumption) ?_
    rotate_left
    · intro w hSw; (try dsimp only at hSw); go_simp; try with_reducible rfl
    try simp only [Act.put, List.setIfInBounds_toArray, List.set_cons_zero, List.set_cons_succ]
    refine wpAnyH_ready (rs := [8]) (by kernel_rfl) (by simp) ?_
    refine AllReadyH.cons (o := { dst := none, op := Go.Op.store 31 (Go.Operand.tmp 9) (Go.Operand.tmp 36), type := 0, pos := "exact.go:11883", after := #[{ on := 7, ground := Go.Ground.data }, { on := 5, ground := Go.Ground.data }, { on := 3, ground := Go.Ground.chain }, { on := 0, ground := Go.Ground.phase }, { on := 1, ground := Go.Ground.phase }, { on := 2, ground := Go.Ground.phase }, { on := 3, ground := Go.Ground.phase }, { on := 4, ground := Go.Ground.phase }, { on := 5, ground := Go.Ground.phase }, { on := 6, ground := Go.Ground.textOnly Go.Departure.lateStores }, { on := 7, ground := Go.Ground.phase }], guard := none }) rfl (fun K hK => ?_) AllReadyH.nil
    have j0 := OB.c0
    have j1 := OB.c1
    have j2 := OB.f0
    have j3 := OB.f1
    have hw2 : w.heap.size + 2 ≤ wS.heap.size := by have := N4.lt; omega
    have NT := ((NS.next hB716).set (o := 0) (u := .slice avr RT.length cvr) HR.out (show w.heap.size < wS.heap.size by omega)).set (o := 1) (u := .slice aur RR.length cur) HR.out (show w.heap.size < wS.heap.size by omega)
    have xlT := ((xlS.next hB716).set (o := 0) (u := .slice avr RT.length cvr) (show wS.heap.size ≠ w.heap.size + 1 by omega)).set (o := 1) (u := .slice aur RR.length cur) (show wS.heap.size ≠ w.heap.size + 1 by omega)
    have hwx : w3.heap.size < wS.heap.size := by have := bx.lt; omega
    have bxT := ((bxS.next hB716).set (o := 0) (u := .slice avr RT.length cvr) (Nat.ne_of_gt hwx)).set (o := 1) (u := .slice aur RR.length cur) (Nat.ne_of_gt hwx)
    go_simp
    refine hK.out _ _ ?_ (fun hHeld => ?_)
    · exact ⟨bxT.c0, bxT.c1, xlT.c0, xlT.c1, xlT.c2⟩
    clear hK K
    try simp only [Act.put, List.setIfInBounds_toArray, List.set_cons_zero, List.set_cons_succ]
    refine wpAnyH_take (i := 9) (oi := { dst := some 10, op := Go.Op.assign (Go.Operand.tmp 37), type := 4, pos := "exact.go:11883", after := #[{ on := 6, ground := Go.Ground.data }, { on := 8, ground := Go.Ground.chain }, { on := 0, ground := Go.Ground.phase }, { on := 1, ground := Go.Ground.phase }, { on := 2, ground := Go.Ground.phase }, { on := 3, ground := Go.Ground.phase }, { on := 4, ground := Go.Ground.phase }, { on := 5, ground := Go.Ground.phase }, { on := 6, ground := Go.Ground.phase }, { on := 7, ground := Go.Ground.phase }, { on := 8, ground := Go.Ground.phase }], guard := none }) (v := ?_) rfl (by kernel_rfl) (by kernel_rfl) (by kernel_rfl) (fun _ _ _ h => h) (Or.inl ⟨by rfl, ?_⟩) (by assumption) ?_
    rotate_left
    · intro w hSw; (try dsimp only at hSw); go_simp; try with_reducible rfl
    try simp only [Act.put, List.setIfInBounds_toArray, List.set_cons_zero, List.set_cons_succ]
    refine wpAnyH_done (by kernel_rfl) ?_ _
    have OM := (OB.put0 (u := .slice avr RT.length cvr)).put1 (u := .slice aur RR.length cur)
    have rT := (rS.setFar (b := wS.heap.size) (o := 0) (x := .slice avr RT.length cvr) hxb).setFar (b := wS.heap.size) (o := 1) (x := .slice aur RR.length cur) hxb
    have hBW := ((hB716.setCell (p := ⟨wS.heap.size, 0, none⟩) (show wS.heap.size ≤ wS.heap.size by omega) (.slice avr RT.length cvr)).setCell (p := ⟨wS.heap.size, 1, none⟩) (show wS.heap.size ≤ wS.heap.size by omega) (.slice aur RR.length cur))
    have hBX := hbS.trans (hBW.mono hzS)
    have hzM : w715.heap.size ≤ ((w715.setCell ⟨wS.heap.size, 0, none⟩ (.slice avr RT.length cvr)).setCell ⟨wS.heap.size, 1, none⟩ (.slice aur RR.length cur)).heap.size := by simp [World.setCell]
    go_wp2_with fail
    go_meet
    exact ⟨wS.heap.size, w713.heap.size, w715.heap.size, avr, cvr, aur, cur, rfl, rfl, hBX, OM.box, rT, by omega, by omega, by omega, hxb, hzPP⟩
  case rest =>
  obtain ⟨og, Bg, Cg, avg, cvg, aug, cug, rfl, rfl, hb5, bg, g, zbg, zcg, zog, zxg, zyg⟩ := hcut
  have z5 := hb5.size
  have s := s.later hb5
  have x := x.later hb5
  have bs := bs.next hb5
  have bx := bx.next hb5
  have xl := xl.next hb5
  have N5 := N4.next hb5
  have zl5 := bg.lt
  clear h0 h1 y0 y1 y2 bs0 bs1 bx0 bx1
  have h0 := N5.b0
  have h1 := N5.b1
  have y0 := xl.c0
  have y1 := xl.c1
  have y2 := xl.c2
  have bs0 := bs.c0
  have bs1 := bs.c1
  have bx0 := bx.c0
  have bx1 := bx.c1
  have bg0 := bg.c0
  have bg1 := bg.c1
  generalize wc = w5 at *
  go_wp2_with fail
  refine (eqNet_true _ _ _ _ RT RR _ g.rd s.rd).mono ?_
  rintro e w6 ⟨rfl, hb6⟩
  have z6 := hb6.size
  have s := s.later hb6
  have x := x.later hb6
  have g := g.later hb6
  have bs := bs.next hb6
  have bx := bx.next hb6
  have bg := bg.next hb6
  have xl := xl.next hb6
  have N6 := N5.next hb6
  clear h0 h1 y0 y1 y2 bs0 bs1 bx0 bx1 bg0 bg1
  have h0 := N6.b0
  have h1 := N6.b1
  have y0 := xl.c0
  have y1 := xl.c1
  have y2 := xl.c2
  have bs0 := bs.c0
  have bs1 := bs.c1
  have bx0 := bx.c0
  have bx1 := bx.c1
  have bg0 := bg.c0
  have bg1 := bg.c1
  have HX := Lib.hid (x.later (Below.refl w6.heap.size w6).drew)
  have ND := N6.drew
  have BD := bx.next (Below.refl w6.heap.size w6).drew
  have HT := Lib.hid (toNet_any _ _ ts ls w6.drew hz0 hz1 ND.rd)
  have KB : Hid (∀ y : World, Below w6.drew.heap.size w6.drew y → y.cell? ⟨w.heap.size, 0, none⟩ = some (.slice a0 n p0) ∧ y.cell? ⟨w.heap.size, 1, none⟩ = some (.slice aa m pp) ∧ y.cell? ⟨w3.heap.size, 0, none⟩ = some (.slice avx ts.length cvx) ∧ y.cell? ⟨w3.heap.size, 1, none⟩ = some (.slice aux ls.length cux)) := Lib.hid fun y hb => ⟨(ND.next hb).b0, (ND.next hb).b1, (BD.next hb).c0, (BD.next hb).c1⟩
  have HEQ : Hid (∀ (y : World) (q0 q1 : Value) (B C : Nat), Below w6.drew.heap.size w6.drew y → OwnN y B C q0 q1 ts ls → Calls Try.prog 17 #[.agg #[.slice avx ts.length cvx, .slice aux ls.length cux], .agg #[q0, q1]] y fun e w' => e = .returned (.bool true) ∧ Below y.heap.size y w') := Lib.hid fun y q0 q1 B C hb ho => eqNet_true _ _ _ _ ts ls y (HX.out.later hb).rd ho.rd
  go_wp2_with fail
  go_region_held3 (fun w' => w'.cell? ⟨w.heap.size, 0, none⟩ = some (.slice a0 n p0) ∧ w'.cell? ⟨w.heap.size, 1, none⟩ = some (.slice aa m pp) ∧ w'.cell? ⟨w3.heap.size, 0, none⟩ = some (.slice avx ts.length cvx) ∧ w'.cell? ⟨w3.heap.size, 1, none⟩ = some (.slice aux ls.length cux))
    (first | go_keep | exact KB.out _ hba | exact KB.out _ hbb)
    (first
      | (go_at_call 15; (with_reducible refine (HT.out).mono ?_); rintro e wa ⟨q0, q1, rfl, qo, hba⟩)
      | (go_at_call 17; (with_reducible refine (HEQ.out _ _ _ _ _ hba qo).mono ?_); rintro e w7 ⟨rfl, hbb'⟩; have hbb := hba.trans (hbb'.mono hba.size)))
  have hb7 := (Below.refl w6.heap.size w6).drew.trans (hbb.mono (Nat.le_refl _))
  clear hba hbb hbb' qo KB HEQ HT HX ND BD
  have z7 := hb7.size
  have s := s.later hb7
  have x := x.later hb7
  have g := g.later hb7
  have bs := bs.next hb7
  have bx := bx.next hb7
  have bg := bg.next hb7
  have xl := xl.next hb7
  have N7 := N6.next hb7
  clear h0 h1 y0 y1 y2 bs0 bs1 bx0 bx1 bg0 bg1
  have h0 := N7.b0
  have h1 := N7.b1
  have y0 := xl.c0
  have y1 := xl.c1
  have y2 := xl.c2
  have bs0 := bs.c0
  have bs1 := bs.c1
  have bx0 := bx.c0
  have bx1 := bx.c1
  have bg0 := bg.c0
  have bg1 := bg.c1
  have hk0 : 0 ≤ 1 + 3 * (ts.length : Int) + 3 * (ls.length : Int) := by omega
  go_wp2_with fail
  refine (markNet_any w2.heap.size w3.heap.size _ _ ts ls 1 _ (by decide) (by decide) hz0 hz1 (by omega) x).mono ?_
  rintro e w8 ⟨rfl, x, hk8⟩
  have z8 := hk8.size
  clear h0 h1 y0 y1 y2 bs0 bs1 bx0 bx1 bg0 bg1
  have s := s.kept hk8 (by omega)
  have g := g.kept hk8 (by omega)
  have bs := bs.kp hk8 (by omega)
  have bx := bx.kp hk8 (by omega)
  have bg := bg.kp hk8 (by omega)
  have N8 := N7.nextB (hk8.below (by omega)) (by omega) HR.out
  have xl := xl.nextB (hk8.below (by omega)) (by omega)
  have h0 := N8.b0
  have h1 := N8.b1
  have y0 := xl.c0
  have y1 := xl.c1
  have y2 := xl.c2
  have bs0 := bs.c0
  have bs1 := bs.c1
  have bx0 := bx.c0
  have bx1 := bx.c1
  have bg0 := bg.c0
  have bg1 := bg.c1
  clear x
  clear bx0 bx1 bx
  go_wp2_with fail
  refine (eqNet_true _ _ _ _ RT RR _ g.rd s.rd).mono ?_
  rintro e w9 ⟨rfl, hb9⟩
  have z9 := hb9.size
  have s := s.later hb9
  have g := g.later hb9
  have bs := bs.next hb9
  have bg := bg.next hb9
  have xl := xl.next hb9
  have N9 := N8.next hb9
  clear h0 h1 y0 y1 y2 bs0 bs1 bg0 bg1
  have h0 := N9.b0
  have h1 := N9.b1
  have y0 := xl.c0
  have y1 := xl.c1
  have y2 := xl.c2
  have bs0 := bs.c0
  have bs1 := bs.c1
  have bg0 := bg.c0
  have bg1 := bg.c1
  have hk0 : 0 ≤ 1 + 3 * (RT.length : Int) + 3 * (RR.length : Int) := by omega
  go_wp2_with fail
  refine (markNet_any Bg Cg _ _ RT RR 1 _ (by decide) (by decide) (by omega) (by omega) (by omega) g).mono ?_
  rintro e w10 ⟨rfl, g, hk10⟩
  have z10 := hk10.size
  clear h0 h1 y0 y1 y2 bs0 bs1 bg0 bg1
  have s := s.kept hk10 (by omega)
  have bs := bs.kp hk10 (by omega)
  have bg := bg.kp hk10 (by omega)
  have N10 := N9.nextB (hk10.below (by omega)) (by omega) HR.out
  have xl := xl.nextB (hk10.below (by omega)) (by omega)
  have h0 := N10.b0
  have h1 := N10.b1
  have y0 := xl.c0
  have y1 := xl.c1
  have y2 := xl.c2
  have bs0 := bs.c0
  have bs1 := bs.c1
  have bg0 := bg.c0
  have bg1 := bg.c1
  go_wp2_with fail
  refine (heldNet_any _ _ RT.length RR.length 1 _ (by decide) (by decide) (by omega) (by omega) g.rd).mono ?_
  rintro e w11 ⟨rfl, hb11⟩
  have z11 := hb11.size
  have s := s.later hb11
  have g := g.later hb11
  have bs := bs.next hb11
  have bg := bg.next hb11
  have xl := xl.next hb11
  have N11 := N10.next hb11
  clear h0 h1 y0 y1 y2 bs0 bs1 bg0 bg1
  have h0 := N11.b0
  have h1 := N11.b1
  have y0 := xl.c0
  have y1 := xl.c1
  have y2 := xl.c2
  have bs0 := bs.c0
  have bs1 := bs.c1
  have bg0 := bg.c0
  have bg1 := bg.c1
  go_upto_region 24 with fail
  go_cut [14, 15] from 79 to 86 (fun s14 s15 wx => ∃ (bo B C : Nat) (av cv au cu : _), s14 = .pointer (some ⟨bo, 0, none⟩) ∧ s15 = .bool CC ∧ Below w11.heap.size w11 wx ∧ Box2 wx bo (.slice av RT.length cv) (.slice au RR.length cu) ∧ OwnN wx B C (.slice av RT.length cv) (.slice au RR.length cu) RT RR ∧ w11.heap.size ≤ B ∧ C ≤ wx.heap.size ∧ w11.heap.size ≤ bo ∧ (bo < B ∨ C ≤ bo) ∧ B ≤ C)
  case first =>
    refine wp_region_held_drew (S := (fun w' => w'.cell? ⟨w.heap.size, 0, none⟩ = some (.slice a0 n p0) ∧ w'.cell? ⟨w.heap.size, 1, none⟩ = some (.slice aa m pp) ∧ w'.cell? ⟨w.heap.size + 1, 0, none⟩ = some (.int .i64 x0) ∧ w'.cell? ⟨w.heap.size + 1, 1, none⟩ = some (.int .i64 x1) ∧ w'.cell? ⟨w.heap.size + 1, 2, none⟩ = some (.int .i64 x2))) (by kernel_rfl) ?_ (fun hHeld => ?_)
    · exact ⟨(N11.next (Below.refl _ _).drew).b0, (N11.next (Below.refl _ _).drew).b1, (xl.next (Below.refl _ _).drew).c0, (xl.next (Below.refl _ _).drew).c1, (xl.next (Below.refl _ _).drew).c2⟩
    refine wpAnyH_name ?_
    intro wS hwS
    rw [← hwS] at hHeld
    have hbS := below_named hwS
    clear hwS
    have hB0 := Below.refl wS.heap.size wS
    have NS := N11.next hbS
    have xlS := xl.next hbS
    have hzS := hbS.size
    have KB : Hid (∀ y : World, Below wS.heap.size wS y → y.cell? ⟨w.heap.size, 0, none⟩ = some (.slice a0 n p0) ∧ y.cell? ⟨w.heap.size, 1, none⟩ = some (.slice aa m pp) ∧ y.cell? ⟨w.heap.size + 1, 0, none⟩ = some (.int .i64 x0) ∧ y.cell? ⟨w.heap.size + 1, 1, none⟩ = some (.int .i64 x1) ∧ y.cell? ⟨w.heap.size + 1, 2, none⟩ = some (.int .i64 x2)) := Lib.hid fun y h => ⟨(NS.next h).b0, (NS.next h).b1, (xlS.next h).c0, (xlS.next h).c1, (xlS.next h).c2⟩
    refine wpAnyH_take (i := 0) (oi := { dst := some 80, op := Go.Op.load 25 (Go.Operand.tmp 2), type := 25, pos := "exact.go:11905", after := #[], guard := none }) (v := ?_) rfl (by kernel_rfl) (by kernel_rfl) (by kernel_rfl) (fun _ _ _ h => h) (Or.inl ⟨by rfl, ?_⟩) (by assumption) ?_
    rotate_left
    · intro w hSw; (try dsimp only at hSw); go_simp; try with_reducible rfl
    try simp only [Act.put, List.setIfInBounds_toArray, List.set_cons_zero, List.set_cons_succ]
    refine wpAnyH_take (i := 2) (oi := { dst := some 82, op := Go.Op.load 50 (Go.Operand.tmp 3), type := 50, pos := "exact.go:11905", after := #[], guard := none }) (v := ?_) rfl (by kernel_rfl) (by kernel_rfl) (by kernel_rfl) (fun _ _ _ h => h) (Or.inl ⟨by rfl, ?_⟩) (by assumption) ?_
    rotate_left
    · intro w hSw; (try dsimp only at hSw); go_simp; try with_reducible rfl
    try simp only [Act.put, List.setIfInBounds_toArray, List.set_cons_zero, List.set_cons_succ]
    refine wpAnyH_ready (rs := [1, 8]) (by kernel_rfl) (by simp) ?_
    refine AllReadyH.cons (o := { dst := some 81, op := Go.Op.call { callee := Go.Callee.value (Go.Operand.func 15), args := #[Go.Operand.tmp 80], argTypes := #[25] }, type := 31, pos := "exact.go:11905", after := #[{ on := 0, ground := Go.Ground.data }], guard := none }) rfl (fun K hK => ?_) ?_
    · go_simp
      refine (toNet_any _ _ ts ls _ hz0 hz1 (NS.next hB0).rd).mono ?_
      rintro e w2401 ⟨vq, uq, rfl, qS, hb2401⟩
      try go_simp
      refine hK.out _ _ ?_ (fun hHeld => ?_)
      · exact KB.out _ (hB0.trans (hb2401.mono hB0.size))
      clear hK K
      try simp only [Act.put, List.setIfInBounds_toArray, List.set_cons_zero, List.set_cons_succ]
      have hB2402 := hB0.trans (hb2401.mono hB0.size)
      refine wpAnyH_ready (rs := [3, 8]) (by kernel_rfl) (by simp) ?_
      refine AllReadyH.cons (o := { dst := some 83, op := Go.Op.call { callee := Go.Callee.value (Go.Operand.func 37), args := #[Go.Operand.tmp 82], argTypes := #[50] }, type := 53, pos := "exact.go:11905", after := #[{ on := 2, ground := Go.Ground.data }, { on := 1, ground := Go.Ground.chain }], guard := none }) rfl (fun K hK => ?_) ?_
      · go_simp
        refine (toLink_any x0 x1 x2 _).mono ?_
        rintro e w2403 ⟨rfl, hb2403⟩
        try go_simp
        refine hK.out _ _ ?_ (fun hHeld => ?_)
        · exact KB.out _ (hB2402.trans (hb2403.mono hB2402.size))
        clear hK K
        try simp only [Act.put, List.setIfInBounds_toArray, List.set_cons_zero, List.set_cons_succ]
        have qS := qS.later hb2403
        have hB2404 := hB2402.trans (hb2403.mono hB2402.size)
        refine wpAnyH_ready (rs := [4, 8]) (by kernel_rfl) (by simp) ?_
        refine AllReadyH.cons (o := { dst := some 84, op := Go.Op.call { callee := Go.Callee.value (Go.Operand.func 38), args := #[Go.Operand.tmp 81, Go.Operand.tmp 83], argTypes := #[31, 53] }, type := 51, pos := "exact.go:11905", after := #[{ on := 1, ground := Go.Ground.data }, { on := 3, ground := Go.Ground.data }, { on := 3, ground := Go.Ground.chain }], guard := none }) rfl (fun K hK => ?_) ?_
        · go_simp
          refine (addLink_any _ _ ts ls x0 x1 x2 _ qS.rd).mono ?_
          rintro e w2405 ⟨vr, ur, rfl, rS, hb2405⟩
          rw [← HRT.out, ← HRR.out] at rS
          rw [← HCC.out]
          obtain ⟨avr, cvr, rfl, -⟩ := rS.1.1.rd.len
          obtain ⟨aur, cur, rfl, -⟩ := rS.2.1.rd.len
          have hzPP := hb2405.size
          have hzP := hB2404.size
          try go_simp
          refine hK.out _ _ ?_ (fun hHeld => ?_)
          · exact KB.out _ (hB2404.trans (hb2405.mono hB2404.size))
          clear hK K
          try simp only [Act.put, List.setIfInBounds_toArray, List.set_cons_zero, List.set_cons_succ]
          have qS := qS.later hb2405
          have hB2406 := hB2404.trans (hb2405.mono hB2404.size)
          refine wpAnyH_take (i := 5) (oi := { dst := some 79, op := Go.Op.move (Go.Operand.tmp 84), type := 51, pos := "exact.go:11905", after := #[{ on := 4, ground := Go.Ground.data }], guard := none }) (v := ?_) rfl (by kernel_rfl) (by kernel_rfl) (by kernel_rfl) (fun _ _ _ h => h) (Or.inl ⟨by rfl, ?_⟩) (by assumption) ?_
          rotate_left
          · intro w hSw; (try dsimp only at hSw); go_simp; try with_reducible rfl
          try simp only [Act.put, List.setIfInBounds_toArray, List.set_cons_zero, List.set_cons_succ]
          refine wpAnyH_take (i := 6) (oi := { dst := some 85, op := Go.Op.extract (Go.Operand.tmp 79) 0, type := 31, pos := "exact.go:11905", after := #[{ on := 5, ground := Go.Ground.data }], guard := none }) (v := ?_) rfl (by kernel_rfl) (by kernel_rfl) (by kernel_rfl) (fun _ _ _ h => h) (Or.inl ⟨by rfl, ?_⟩) (by assumption) ?_
          rotate_left
          · intro w hSw; (try dsimp only at hSw); go_simp; try with_reducible rfl
          try simp only [Act.put, List.setIfInBounds_toArray, List.set_cons_zero, List.set_cons_succ]
          refine wpAnyH_take (i := 7) (oi := { dst := some 86, op := Go.Op.extract (Go.Operand.tmp 79) 1, type := 4, pos := "exact.go:11905", after := #[{ on := 5, ground := Go.Ground.data }, { on := 9, ground := Go.Ground.gcOnly Go.Departure.lateStores }], guard := none }) (v := ?_) rfl (by kernel_rfl) (by kernel_rfl) (by kernel_rfl) (fun _ _ _ h => h) (Or.inl ⟨by rfl, ?_⟩) (by assumption) ?_
          rotate_left
          · intro w hSw; (try dsimp only at hSw); go_simp; try with_reducible rfl
          try simp only [Act.put, List.setIfInBounds_toArray, List.set_cons_zero, List.set_cons_succ]
          refine wpAnyH_ready (rs := [8]) (by kernel_rfl) (by simp) ?_
          refine AllReadyH.cons (o := { dst := some 14, op := Go.Op.alloc 31, type := 0, pos := "exact.go:11905", after := #[], guard := none }) rfl (fun K hK => ?_) AllReadyH.nil
          have hxb : w2405.heap.size < w2403.heap.size ∨ w2405.heap.size ≤ w2405.heap.size := .inr (by first | exact Nat.le_refl _ | omega)
          have hbl := hB2406.size
          go_simp
          refine hK.out _ _ ?_ (fun hHeld => ?_)
          · exact KB.out _ (hB2406.alloc hB2406.size _)
          clear hK K
          try simp only [Act.put, List.setIfInBounds_toArray, List.set_cons_zero, List.set_cons_succ]
          refine wpAnyH_name ?_
          intro w2407 hw2407
          rw [← hw2407] at hHeld
          have hb2407 := below_alloc hw2407
          have z2407 := lt_named hw2407
          have OB : Var2 w2407 w2405.heap.size (.slice none 0 0) (.slice none 0 0) := by rw [hw2407]; exact Var2.new _ _ _ _
          have hzb := z2407
          clear hw2407
          have qS := qS.later hb2407
          have rS := rS.later hb2407
          have hB2408 := hB2406.trans (hb2407.mono hB2406.size)
          refine wpAnyH_ready (rs := [9]) (by kernel_rfl) (by simp) ?_
          refine AllReadyH.cons (o := { dst := none, op := Go.Op.store 31 (Go.Operand.tmp 14) (Go.Operand.tmp 85), type := 0, pos := "exact.go:11905", after := #[{ on := 8, ground := Go.Ground.data }, { on := 6, ground := Go.Ground.data }, { on := 4, ground := Go.Ground.chain }, { on := 0, ground := Go.Ground.phase }, { on := 1, ground := Go.Ground.phase }, { on := 2, ground := Go.Ground.phase }, { on := 3, ground := Go.Ground.phase }, { on := 4, ground := Go.Ground.phase }, { on := 5, ground := Go.Ground.phase }, { on := 6, ground := Go.Ground.phase }, { on := 7, ground := Go.Ground.textOnly Go.Departure.lateStores }, { on := 8, ground := Go.Ground.phase }], guard := none }) rfl (fun K hK => ?_) AllReadyH.nil
          have j0 := OB.c0
          have j1 := OB.c1
          have j2 := OB.f0
          have j3 := OB.f1
          have hw2 : w.heap.size + 2 ≤ w2405.heap.size := by have := N11.lt; omega
          have NT := ((NS.next hB2408).set (o := 0) (u := .slice avr RT.length cvr) HR.out (show w.heap.size < w2405.heap.size by omega)).set (o := 1) (u := .slice aur RR.length cur) HR.out (show w.heap.size < w2405.heap.size by omega)
          have xlT := ((xlS.next hB2408).set (o := 0) (u := .slice avr RT.length cvr) (show w2405.heap.size ≠ w.heap.size + 1 by omega)).set (o := 1) (u := .slice aur RR.length cur) (show w2405.heap.size ≠ w.heap.size + 1 by omega)
          go_simp
          refine hK.out _ _ ?_ (fun hHeld => ?_)
          · exact ⟨NT.b0, NT.b1, xlT.c0, xlT.c1, xlT.c2⟩
          clear hK K
          try simp only [Act.put, List.setIfInBounds_toArray, List.set_cons_zero, List.set_cons_succ]
          refine wpAnyH_take (i := 10) (oi := { dst := some 15, op := Go.Op.assign (Go.Operand.tmp 86), type := 4, pos := "exact.go:11905", after := #[{ on := 7, ground := Go.Ground.data }, { on := 9, ground := Go.Ground.chain }, { on := 0, ground := Go.Ground.phase }, { on := 1, ground := Go.Ground.phase }, { on := 2, ground := Go.Ground.phase }, { on := 3, ground := Go.Ground.phase }, { on := 4, ground := Go.Ground.phase }, { on := 5, ground := Go.Ground.phase }, { on := 6, ground := Go.Ground.phase }, { on := 7, ground := Go.Ground.phase }, { on := 8, ground := Go.Ground.phase }, { on := 9, ground := Go.Ground.phase }], guard := none }) (v := ?_) rfl (by kernel_rfl) (by kernel_rfl) (by kernel_rfl) (fun _ _ _ h => h) (Or.inl ⟨by rfl, ?_⟩) (by assumption) ?_
          rotate_left
          · intro w hSw; (try dsimp only at hSw); go_simp; try with_reducible rfl
          try simp only [Act.put, List.setIfInBounds_toArray, List.set_cons_zero, List.set_cons_succ]
          refine wpAnyH_done (by kernel_rfl) ?_ _
          have OM := (OB.put0 (u := .slice avr RT.length cvr)).put1 (u := .slice aur RR.length cur)
          have rT := (rS.setFar (b := w2405.heap.size) (o := 0) (x := .slice avr RT.length cvr) hxb).setFar (b := w2405.heap.size) (o := 1) (x := .slice aur RR.length cur) hxb
          have hBW := ((hB2408.setCell (p := ⟨w2405.heap.size, 0, none⟩) (show wS.heap.size ≤ w2405.heap.size by omega) (.slice avr RT.length cvr)).setCell (p := ⟨w2405.heap.size, 1, none⟩) (show wS.heap.size ≤ w2405.heap.size by omega) (.slice aur RR.length cur))
          have hBX := hbS.trans (hBW.mono hzS)
          have hzM : w2407.heap.size ≤ ((w2407.setCell ⟨w2405.heap.size, 0, none⟩ (.slice avr RT.length cvr)).setCell ⟨w2405.heap.size, 1, none⟩ (.slice aur RR.length cur)).heap.size := by simp [World.setCell]
          go_wp2_with fail
          go_meet
          exact ⟨w2405.heap.size, w2403.heap.size, w2405.heap.size, avr, cvr, aur, cur, rfl, rfl, hBX, OM.box, rT, by omega, by omega, by omega, hxb, hzPP⟩
        refine AllReadyH.cons (o := { dst := some 14, op := Go.Op.alloc 31, type := 0, pos := "exact.go:11905", after := #[], guard := none }) rfl (fun K hK => ?_) AllReadyH.nil
        have hbl := hB2404.size
        go_simp
        refine hK.out _ _ ?_ (fun hHeld => ?_)
        · exact KB.out _ (hB2404.alloc hB2404.size _)
        clear hK K
        try simp only [Act.put, List.setIfInBounds_toArray, List.set_cons_zero, List.set_cons_succ]
        refine wpAnyH_name ?_
        intro w2409 hw2409
        rw [← hw2409] at hHeld
        have hb2409 := below_alloc hw2409
        have z2409 := lt_named hw2409
        have OB : Var2 w2409 w2403.heap.size (.slice none 0 0) (.slice none 0 0) := by rw [hw2409]; exact Var2.new _ _ _ _
        have hzb := z2409
        clear hw2409
        have qS := qS.later hb2409
        have hB2410 := hB2404.trans (hb2409.mono hB2404.size)
        refine wpAnyH_ready (rs := [4]) (by kernel_rfl) (by simp) ?_
        refine AllReadyH.cons (o := { dst := some 84, op := Go.Op.call { callee := Go.Callee.value (Go.Operand.func 38), args := #[Go.Operand.tmp 81, Go.Operand.tmp 83], argTypes := #[31, 53] }, type := 51, pos := "exact.go:11905", after := #[{ on := 1, ground := Go.Ground.data }, { on := 3, ground := Go.Ground.data }, { on := 3, ground := Go.Ground.chain }], guard := none }) rfl (fun K hK => ?_) AllReadyH.nil
        have hzbo := hzb
        go_simp
        refine (addLink_any _ _ ts ls x0 x1 x2 _ qS.rd).mono ?_
        rintro e w2411 ⟨vr, ur, rfl, rS, hb2411⟩
        rw [← HRT.out, ← HRR.out] at rS
        rw [← HCC.out]
        obtain ⟨avr, cvr, rfl, -⟩ := rS.1.1.rd.len
        obtain ⟨aur, cur, rfl, -⟩ := rS.2.1.rd.len
        have hzPP := hb2411.size
        have hzP := hB2410.size
        try go_simp
        refine hK.out _ _ ?_ (fun hHeld => ?_)
        · exact KB.out _ (hB2410.trans (hb2411.mono hB2410.size))
        clear hK K
        try simp only [Act.put, List.setIfInBounds_toArray, List.set_cons_zero, List.set_cons_succ]
        have hzb := Nat.lt_of_lt_of_le hzb hb2411.size
        have qS := qS.later hb2411
        have OB := OB.next hb2411
        have hB2412 := hB2410.trans (hb2411.mono hB2410.size)
        have hxb : w2403.heap.size < w2409.heap.size ∨ w2411.heap.size ≤ w2403.heap.size := .inl hzbo
        refine wpAnyH_take (i := 5) (oi := { dst := some 79, op := Go.Op.move (Go.Operand.tmp 84), type := 51, pos := "exact.go:11905", after := #[{ on := 4, ground := Go.Ground.data }], guard := none }) (v := ?_) rfl (by kernel_rfl) (by kernel_rfl) (by kernel_rfl) (fun _ _ _ h => h) (Or.inl ⟨by rfl, ?_⟩) (by assumption) ?_
        rotate_left
        · intro w hSw; (try dsimp only at hSw); go_simp; try with_reducible rfl
        try simp only [Act.put, List.setIfInBounds_toArray, List.set_cons_zero, List.set_cons_succ]
        refine wpAnyH_take (i := 6) (oi := { dst := some 85, op := Go.Op.extract (Go.Operand.tmp 79) 0, type := 31, pos := "exact.go:11905", after := #[{ on := 5, ground := Go.Ground.data }], guard := none }) (v := ?_) rfl (by kernel_rfl) (by kernel_rfl) (by kernel_rfl) (fun _ _ _ h => h) (Or.inl ⟨by rfl, ?_⟩) (by assumption) ?_
        rotate_left
        · intro w hSw; (try dsimp only at hSw); go_simp; try with_reducible rfl
        try simp only [Act.put, List.setIfInBounds_toArray, List.set_cons_zero, List.set_cons_succ]
        refine wpAnyH_take (i := 7) (oi := { dst := some 86, op := Go.Op.extract (Go.Operand.tmp 79) 1, type := 4, pos := "exact.go:11905", after := #[{ on := 5, ground := Go.Ground.data }, { on := 9, ground := Go.Ground.gcOnly Go.Departure.lateStores }], guard := none }) (v := ?_) rfl (by kernel_rfl) (by kernel_rfl) (by kernel_rfl) (fun _ _ _ h => h) (Or.inl ⟨by rfl, ?_⟩) (by assumption) ?_
        rotate_left
        · intro w hSw; (try dsimp only at hSw); go_simp; try with_reducible rfl
        try simp only [Act.put, List.setIfInBounds_toArray, List.set_cons_zero, List.set_cons_succ]
        refine wpAnyH_ready (rs := [9]) (by kernel_rfl) (by simp) ?_
        refine AllReadyH.cons (o := { dst := none, op := Go.Op.store 31 (Go.Operand.tmp 14) (Go.Operand.tmp 85), type := 0, pos := "exact.go:11905", after := #[{ on := 8, ground := Go.Ground.data }, { on := 6, ground := Go.Ground.data }, { on := 4, ground := Go.Ground.chain }, { on := 0, ground := Go.Ground.phase }, { on := 1, ground := Go.Ground.phase }, { on := 2, ground := Go.Ground.phase }, { on := 3, ground := Go.Ground.phase }, { on := 4, ground := Go.Ground.phase }, { on := 5, ground := Go.Ground.phase }, { on := 6, ground := Go.Ground.phase }, { on := 7, ground := Go.Ground.textOnly Go.Departure.lateStores }, { on := 8, ground := Go.Ground.phase }], guard := none }) rfl (fun K hK => ?_) AllReadyH.nil
        have j0 := OB.c0
        have j1 := OB.c1
        have j2 := OB.f0
        have j3 := OB.f1
        have hw2 : w.heap.size + 2 ≤ w2403.heap.size := by have := N11.lt; omega
        have NT := ((NS.next hB2412).set (o := 0) (u := .slice avr RT.length cvr) HR.out (show w.heap.size < w2403.heap.size by omega)).set (o := 1) (u := .slice aur RR.length cur) HR.out (show w.heap.size < w2403.heap.size by omega)
        have xlT := ((xlS.next hB2412).set (o := 0) (u := .slice avr RT.length cvr) (show w2403.heap.size ≠ w.heap.size + 1 by omega)).set (o := 1) (u := .slice aur RR.length cur) (show w2403.heap.size ≠ w.heap.size + 1 by omega)
        go_simp
        refine hK.out _ _ ?_ (fun hHeld => ?_)
        · exact ⟨NT.b0, NT.b1, xlT.c0, xlT.c1, xlT.c2⟩
        clear hK K
        try simp only [Act.put, List.setIfInBounds_toArray, List.set_cons_zero, List.set_cons_succ]
        refine wpAnyH_take (i := 10) (oi := { dst := some 15, op := Go.Op.assign (Go.Operand.tmp 86), type := 4, pos := "exact.go:11905", after := #[{ on := 7, ground := Go.Ground.data }, { on := 9, ground := Go.Ground.chain }, { on := 0, ground := Go.Ground.phase }, { on := 1, ground := Go.Ground.phase }, { on := 2, ground := Go.Ground.phase }, { on := 3, ground := Go.Ground.phase }, { on := 4, ground := Go.Ground.phase }, { on := 5, ground := Go.Ground.phase }, { on := 6, ground := Go.Ground.phase }, { on := 7, ground := Go.Ground.phase }, { on := 8, ground := Go.Ground.phase }, { on := 9, ground := Go.Ground.phase }], guard := none }) (v := ?_) rfl (by kernel_rfl) (by kernel_rfl) (by kernel_rfl) (fun _ _ _ h => h) (Or.inl ⟨by rfl, ?_⟩) (by assumption) ?_
        rotate_left
        · intro w hSw; (try dsimp only at hSw); go_simp; try with_reducible rfl
        try simp only [Act.put, List.setIfInBounds_toArray, List.set_cons_zero, List.set_cons_succ]
        refine wpAnyH_done (by kernel_rfl) ?_ _
        have OM := (OB.put0 (u := .slice avr RT.length cvr)).put1 (u := .slice aur RR.length cur)
        have rT := (rS.setFar (b := w2403.heap.size) (o := 0) (x := .slice avr RT.length cvr) hxb).setFar (b := w2403.heap.size) (o := 1) (x := .slice aur RR.length cur) hxb
        have hBW := ((hB2412.setCell (p := ⟨w2403.heap.size, 0, none⟩) (show wS.heap.size ≤ w2403.heap.size by omega) (.slice avr RT.length cvr)).setCell (p := ⟨w2403.heap.size, 1, none⟩) (show wS.heap.size ≤ w2403.heap.size by omega) (.slice aur RR.length cur))
        have hBX := hbS.trans (hBW.mono hzS)
        have hzM : w2411.heap.size ≤ ((w2411.setCell ⟨w2403.heap.size, 0, none⟩ (.slice avr RT.length cvr)).setCell ⟨w2403.heap.size, 1, none⟩ (.slice aur RR.length cur)).heap.size := by simp [World.setCell]
        go_wp2_with fail
        go_meet
        exact ⟨w2403.heap.size, w2409.heap.size, w2411.heap.size, avr, cvr, aur, cur, rfl, rfl, hBX, OM.box, rT, by omega, by omega, by omega, hxb, hzPP⟩
      refine AllReadyH.cons (o := { dst := some 14, op := Go.Op.alloc 31, type := 0, pos := "exact.go:11905", after := #[], guard := none }) rfl (fun K hK => ?_) AllReadyH.nil
      have hbl := hB2402.size
      go_simp
      refine hK.out _ _ ?_ (fun hHeld => ?_)
      · exact KB.out _ (hB2402.alloc hB2402.size _)
      clear hK K
      try simp only [Act.put, List.setIfInBounds_toArray, List.set_cons_zero, List.set_cons_succ]
      refine wpAnyH_name ?_
      intro w2413 hw2413
      rw [← hw2413] at hHeld
      have hb2413 := below_alloc hw2413
      have z2413 := lt_named hw2413
      have OB : Var2 w2413 w2401.heap.size (.slice none 0 0) (.slice none 0 0) := by rw [hw2413]; exact Var2.new _ _ _ _
      have hzb := z2413
      clear hw2413
      have qS := qS.later hb2413
      have hB2414 := hB2402.trans (hb2413.mono hB2402.size)
      refine wpAnyH_ready (rs := [3]) (by kernel_rfl) (by simp) ?_
      refine AllReadyH.cons (o := { dst := some 83, op := Go.Op.call { callee := Go.Callee.value (Go.Operand.func 37), args := #[Go.Operand.tmp 82], argTypes := #[50] }, type := 53, pos := "exact.go:11905", after := #[{ on := 2, ground := Go.Ground.data }, { on := 1, ground := Go.Ground.chain }], guard := none }) rfl (fun K hK => ?_) AllReadyH.nil
      go_simp
      refine (toLink_any x0 x1 x2 _).mono ?_
      rintro e w2415 ⟨rfl, hb2415⟩
      try go_simp
      refine hK.out _ _ ?_ (fun hHeld => ?_)
      · exact KB.out _ (hB2414.trans (hb2415.mono hB2414.size))
      clear hK K
      try simp only [Act.put, List.setIfInBounds_toArray, List.set_cons_zero, List.set_cons_succ]
      have hzb := Nat.lt_of_lt_of_le hzb hb2415.size
      have qS := qS.later hb2415
      have OB := OB.next hb2415
      have hB2416 := hB2414.trans (hb2415.mono hB2414.size)
      refine wpAnyH_ready (rs := [4]) (by kernel_rfl) (by simp) ?_
      refine AllReadyH.cons (o := { dst := some 84, op := Go.Op.call { callee := Go.Callee.value (Go.Operand.func 38), args := #[Go.Operand.tmp 81, Go.Operand.tmp 83], argTypes := #[31, 53] }, type := 51, pos := "exact.go:11905", after := #[{ on := 1, ground := Go.Ground.data }, { on := 3, ground := Go.Ground.data }, { on := 3, ground := Go.Ground.chain }], guard := none }) rfl (fun K hK => ?_) AllReadyH.nil
      have hzbo := hzb
      go_simp
      refine (addLink_any _ _ ts ls x0 x1 x2 _ qS.rd).mono ?_
      rintro e w2417 ⟨vr, ur, rfl, rS, hb2417⟩
      rw [← HRT.out, ← HRR.out] at rS
      rw [← HCC.out]
      obtain ⟨avr, cvr, rfl, -⟩ := rS.1.1.rd.len
      obtain ⟨aur, cur, rfl, -⟩ := rS.2.1.rd.len
      have hzPP := hb2417.size
      have hzP := hB2416.size
      try go_simp
      refine hK.out _ _ ?_ (fun hHeld => ?_)
      · exact KB.out _ (hB2416.trans (hb2417.mono hB2416.size))
      clear hK K
      try simp only [Act.put, List.setIfInBounds_toArray, List.set_cons_zero, List.set_cons_succ]
      have hzb := Nat.lt_of_lt_of_le hzb hb2417.size
      have qS := qS.later hb2417
      have OB := OB.next hb2417
      have hB2418 := hB2416.trans (hb2417.mono hB2416.size)
      have hxb : w2401.heap.size < w2415.heap.size ∨ w2417.heap.size ≤ w2401.heap.size := .inl hzbo
      refine wpAnyH_take (i := 5) (oi := { dst := some 79, op := Go.Op.move (Go.Operand.tmp 84), type := 51, pos := "exact.go:11905", after := #[{ on := 4, ground := Go.Ground.data }], guard := none }) (v := ?_) rfl (by kernel_rfl) (by kernel_rfl) (by kernel_rfl) (fun _ _ _ h => h) (Or.inl ⟨by rfl, ?_⟩) (by assumption) ?_
      rotate_left
      · intro w hSw; (try dsimp only at hSw); go_simp; try with_reducible rfl
      try simp only [Act.put, List.setIfInBounds_toArray, List.set_cons_zero, List.set_cons_succ]
      refine wpAnyH_take (i := 6) (oi := { dst := some 85, op := Go.Op.extract (Go.Operand.tmp 79) 0, type := 31, pos := "exact.go:11905", after := #[{ on := 5, ground := Go.Ground.data }], guard := none }) (v := ?_) rfl (by kernel_rfl) (by kernel_rfl) (by kernel_rfl) (fun _ _ _ h => h) (Or.inl ⟨by rfl, ?_⟩) (by assumption) ?_
      rotate_left
      · intro w hSw; (try dsimp only at hSw); go_simp; try with_reducible rfl
      try simp only [Act.put, List.setIfInBounds_toArray, List.set_cons_zero, List.set_cons_succ]
      refine wpAnyH_take (i := 7) (oi := { dst := some 86, op := Go.Op.extract (Go.Operand.tmp 79) 1, type := 4, pos := "exact.go:11905", after := #[{ on := 5, ground := Go.Ground.data }, { on := 9, ground := Go.Ground.gcOnly Go.Departure.lateStores }], guard := none }) (v := ?_) rfl (by kernel_rfl) (by kernel_rfl) (by kernel_rfl) (fun _ _ _ h => h) (Or.inl ⟨by rfl, ?_⟩) (by assumption) ?_
      rotate_left
      · intro w hSw; (try dsimp only at hSw); go_simp; try with_reducible rfl
      try simp only [Act.put, List.setIfInBounds_toArray, List.set_cons_zero, List.set_cons_succ]
      refine wpAnyH_ready (rs := [9]) (by kernel_rfl) (by simp) ?_
      refine AllReadyH.cons (o := { dst := none, op := Go.Op.store 31 (Go.Operand.tmp 14) (Go.Operand.tmp 85), type := 0, pos := "exact.go:11905", after := #[{ on := 8, ground := Go.Ground.data }, { on := 6, ground := Go.Ground.data }, { on := 4, ground := Go.Ground.chain }, { on := 0, ground := Go.Ground.phase }, { on := 1, ground := Go.Ground.phase }, { on := 2, ground := Go.Ground.phase }, { on := 3, ground := Go.Ground.phase }, { on := 4, ground := Go.Ground.phase }, { on := 5, ground := Go.Ground.phase }, { on := 6, ground := Go.Ground.phase }, { on := 7, ground := Go.Ground.textOnly Go.Departure.lateStores }, { on := 8, ground := Go.Ground.phase }], guard := none }) rfl (fun K hK => ?_) AllReadyH.nil
      have j0 := OB.c0
      have j1 := OB.c1
      have j2 := OB.f0
      have j3 := OB.f1
      have hw2 : w.heap.size + 2 ≤ w2401.heap.size := by have := N11.lt; omega
      have NT := ((NS.next hB2418).set (o := 0) (u := .slice avr RT.length cvr) HR.out (show w.heap.size < w2401.heap.size by omega)).set (o := 1) (u := .slice aur RR.length cur) HR.out (show w.heap.size < w2401.heap.size by omega)
      have xlT := ((xlS.next hB2418).set (o := 0) (u := .slice avr RT.length cvr) (show w2401.heap.size ≠ w.heap.size + 1 by omega)).set (o := 1) (u := .slice aur RR.length cur) (show w2401.heap.size ≠ w.heap.size + 1 by omega)
      go_simp
      refine hK.out _ _ ?_ (fun hHeld => ?_)
      · exact ⟨NT.b0, NT.b1, xlT.c0, xlT.c1, xlT.c2⟩
      clear hK K
      try simp only [Act.put, List.setIfInBounds_toArray, List.set_cons_zero, List.set_cons_succ]
      refine wpAnyH_take (i := 10) (oi := { dst := some 15, op := Go.Op.assign (Go.Operand.tmp 86), type := 4, pos := "exact.go:11905", after := #[{ on := 7, ground := Go.Ground.data }, { on := 9, ground := Go.Ground.chain }, { on := 0, ground := Go.Ground.phase }, { on := 1, ground := Go.Ground.phase }, { on := 2, ground := Go.Ground.phase }, { on := 3, ground := Go.Ground.phase }, { on := 4, ground := Go.Ground.phase }, { on := 5, ground := Go.Ground.phase }, { on := 6, ground := Go.Ground.phase }, { on := 7, ground := Go.Ground.phase }, { on := 8, ground := Go.Ground.phase }, { on := 9, ground := Go.Ground.phase }], guard := none }) (v := ?_) rfl (by kernel_rfl) (by kernel_rfl) (by kernel_rfl) (fun _ _ _ h => h) (Or.inl ⟨by rfl, ?_⟩) (by assumption) ?_
      rotate_left
      · intro w hSw; (try dsimp only at hSw); go_simp; try with_reducible rfl
      try simp only [Act.put, List.setIfInBounds_toArray, List.set_cons_zero, List.set_cons_succ]
      refine wpAnyH_done (by kernel_rfl) ?_ _
      have OM := (OB.put0 (u := .slice avr RT.length cvr)).put1 (u := .slice aur RR.length cur)
      have rT := (rS.setFar (b := w2401.heap.size) (o := 0) (x := .slice avr RT.length cvr) hxb).setFar (b := w2401.heap.size) (o := 1) (x := .slice aur RR.length cur) hxb
      have hBW := ((hB2418.setCell (p := ⟨w2401.heap.size, 0, none⟩) (show wS.heap.size ≤ w2401.heap.size by omega) (.slice avr RT.length cvr)).setCell (p := ⟨w2401.heap.size, 1, none⟩) (show wS.heap.size ≤ w2401.heap.size by omega) (.slice aur RR.length cur))
      have hBX := hbS.trans (hBW.mono hzS)
      have hzM : w2417.heap.size ≤ ((w2417.setCell ⟨w2401.heap.size, 0, none⟩ (.slice avr RT.length cvr)).setCell ⟨w2401.heap.size, 1, none⟩ (.slice aur RR.length cur)).heap.size := by simp [World.setCell]
      go_wp2_with fail
      go_meet
      exact ⟨w2401.heap.size, w2415.heap.size, w2417.heap.size, avr, cvr, aur, cur, rfl, rfl, hBX, OM.box, rT, by omega, by omega, by omega, hxb, hzPP⟩
    refine AllReadyH.cons (o := { dst := some 14, op := Go.Op.alloc 31, type := 0, pos := "exact.go:11905", after := #[], guard := none }) rfl (fun K hK => ?_) AllReadyH.nil
    have hbl := hB0.size
    go_simp
    refine hK.out _ _ ?_ (fun hHeld => ?_)
    · exact KB.out _ (hB0.alloc hB0.size _)
    clear hK K
    try simp only [Act.put, List.setIfInBounds_toArray, List.set_cons_zero, List.set_cons_succ]
    refine wpAnyH_name ?_
    intro w2419 hw2419
    rw [← hw2419] at hHeld
    have hb2419 := below_alloc hw2419
    have z2419 := lt_named hw2419
    have OB : Var2 w2419 wS.heap.size (.slice none 0 0) (.slice none 0 0) := by rw [hw2419]; exact Var2.new _ _ _ _
    have hzb := z2419
    clear hw2419
    have hB2420 := hB0.trans (hb2419.mono hB0.size)
    refine wpAnyH_ready (rs := [1]) (by kernel_rfl) (by simp) ?_
    refine AllReadyH.cons (o := { dst := some 81, op := Go.Op.call { callee := Go.Callee.value (Go.Operand.func 15), args := #[Go.Operand.tmp 80], argTypes := #[25] }, type := 31, pos := "exact.go:11905", after := #[{ on := 0, ground := Go.Ground.data }], guard := none }) rfl (fun K hK => ?_) AllReadyH.nil
    go_simp
    refine (toNet_any _ _ ts ls _ hz0 hz1 (NS.next hB2420).rd).mono ?_
    rintro e w2421 ⟨vq, uq, rfl, qS, hb2421⟩
    try go_simp
    refine hK.out _ _ ?_ (fun hHeld => ?_)
    · exact KB.out _ (hB2420.trans (hb2421.mono hB2420.size))
    clear hK K
    try simp only [Act.put, List.setIfInBounds_toArray, List.set_cons_zero, List.set_cons_succ]
    have hzb := Nat.lt_of_lt_of_le hzb hb2421.size
    have OB := OB.next hb2421
    have hB2422 := hB2420.trans (hb2421.mono hB2420.size)
    refine wpAnyH_ready (rs := [3]) (by kernel_rfl) (by simp) ?_
    refine AllReadyH.cons (o := { dst := some 83, op := Go.Op.call { callee := Go.Callee.value (Go.Operand.func 37), args := #[Go.Operand.tmp 82], argTypes := #[50] }, type := 53, pos := "exact.go:11905", after := #[{ on := 2, ground := Go.Ground.data }, { on := 1, ground := Go.Ground.chain }], guard := none }) rfl (fun K hK => ?_) AllReadyH.nil
    go_simp
    refine (toLink_any x0 x1 x2 _).mono ?_
    rintro e w2423 ⟨rfl, hb2423⟩
    try go_simp
    refine hK.out _ _ ?_ (fun hHeld => ?_)
    · exact KB.out _ (hB2422.trans (hb2423.mono hB2422.size))
    clear hK K
    try simp only [Act.put, List.setIfInBounds_toArray, List.set_cons_zero, List.set_cons_succ]
    have hzb := Nat.lt_of_lt_of_le hzb hb2423.size
    have qS := qS.later hb2423
    have OB := OB.next hb2423
    have hB2424 := hB2422.trans (hb2423.mono hB2422.size)
    refine wpAnyH_ready (rs := [4]) (by kernel_rfl) (by simp) ?_
    refine AllReadyH.cons (o := { dst := some 84, op := Go.Op.call { callee := Go.Callee.value (Go.Operand.func 38), args := #[Go.Operand.tmp 81, Go.Operand.tmp 83], argTypes := #[31, 53] }, type := 51, pos := "exact.go:11905", after := #[{ on := 1, ground := Go.Ground.data }, { on := 3, ground := Go.Ground.data }, { on := 3, ground := Go.Ground.chain }], guard := none }) rfl (fun K hK => ?_) AllReadyH.nil
    have hzbo := hzb
    go_simp
    refine (addLink_any _ _ ts ls x0 x1 x2 _ qS.rd).mono ?_
    rintro e w2425 ⟨vr, ur, rfl, rS, hb2425⟩
    rw [← HRT.out, ← HRR.out] at rS
    rw [← HCC.out]
    obtain ⟨avr, cvr, rfl, -⟩ := rS.1.1.rd.len
    obtain ⟨aur, cur, rfl, -⟩ := rS.2.1.rd.len
    have hzPP := hb2425.size
    have hzP := hB2424.size
    try go_simp
    refine hK.out _ _ ?_ (fun hHeld => ?_)
    · exact KB.out _ (hB2424.trans (hb2425.mono hB2424.size))
    clear hK K
    try simp only [Act.put, List.setIfInBounds_toArray, List.set_cons_zero, List.set_cons_succ]
    have hzb := Nat.lt_of_lt_of_le hzb hb2425.size
    have qS := qS.later hb2425
    have OB := OB.next hb2425
    have hB2426 := hB2424.trans (hb2425.mono hB2424.size)
    have hxb : wS.heap.size < w2423.heap.size ∨ w2425.heap.size ≤ wS.heap.size := .inl hzbo
    refine wpAnyH_take (i := 5) (oi := { dst := some 79, op := Go.Op.move (Go.Operand.tmp 84), type := 51, pos := "exact.go:11905", after := #[{ on := 4, ground := Go.Ground.data }], guard := none }) (v := ?_) rfl (by kernel_rfl) (by kernel_rfl) (by kernel_rfl) (fun _ _ _ h => h) (Or.inl ⟨by rfl, ?_⟩) (by assumption) ?_
    rotate_left
    · intro w hSw; (try dsimp only at hSw); go_simp; try with_reducible rfl
    try simp only [Act.put, List.setIfInBounds_toArray, List.set_cons_zero, List.set_cons_succ]
    refine wpAnyH_take (i := 6) (oi := { dst := some 85, op := Go.Op.extract (Go.Operand.tmp 79) 0, type := 31, pos := "exact.go:11905", after := #[{ on := 5, ground := Go.Ground.data }], guard := none }) (v := ?_) rfl (by kernel_rfl) (by kernel_rfl) (by kernel_rfl) (fun _ _ _ h => h) (Or.inl ⟨by rfl, ?_⟩) (by assumption) ?_
    rotate_left
    · intro w hSw; (try dsimp only at hSw); go_simp; try with_reducible rfl
    try simp only [Act.put, List.setIfInBounds_toArray, List.set_cons_zero, List.set_cons_succ]
    refine wpAnyH_take (i := 7) (oi := { dst := some 86, op := Go.Op.extract (Go.Operand.tmp 79) 1, type := 4, pos := "exact.go:11905", after := #[{ on := 5, ground := Go.Ground.data }, { on := 9, ground := Go.Ground.gcOnly Go.Departure.lateStores }], guard := none }) (v := ?_) rfl (by kernel_rfl) (by kernel_rfl) (by kernel_rfl) (fun _ _ _ h => h) (Or.inl ⟨by rfl, ?_⟩) (by assumption) ?_
    rotate_left
    · intro w hSw; (try dsimp only at hSw); go_simp; try with_reducible rfl
    try simp only [Act.put, List.setIfInBounds_toArray, List.set_cons_zero, List.set_cons_succ]
    refine wpAnyH_ready (rs := [9]) (by kernel_rfl) (by simp) ?_
    refine AllReadyH.cons (o := { dst := none, op := Go.Op.store 31 (Go.Operand.tmp 14) (Go.Operand.tmp 85), type := 0, pos := "exact.go:11905", after := #[{ on := 8, ground := Go.Ground.data }, { on := 6, ground := Go.Ground.data }, { on := 4, ground := Go.Ground.chain }, { on := 0, ground := Go.Ground.phase }, { on := 1, ground := Go.Ground.phase }, { on := 2, ground := Go.Ground.phase }, { on := 3, ground := Go.Ground.phase }, { on := 4, ground := Go.Ground.phase }, { on := 5, ground := Go.Ground.phase }, { on := 6, ground := Go.Ground.phase }, { on := 7, ground := Go.Ground.textOnly Go.Departure.lateStores }, { on := 8, ground := Go.Ground.phase }], guard := none }) rfl (fun K hK => ?_) AllReadyH.nil
    have j0 := OB.c0
    have j1 := OB.c1
    have j2 := OB.f0
    have j3 := OB.f1
    have hw2 : w.heap.size + 2 ≤ wS.heap.size := by have := N11.lt; omega
    have NT := ((NS.next hB2426).set (o := 0) (u := .slice avr RT.length cvr) HR.out (show w.heap.size < wS.heap.size by omega)).set (o := 1) (u := .slice aur RR.length cur) HR.out (show w.heap.size < wS.heap.size by omega)
    have xlT := ((xlS.next hB2426).set (o := 0) (u := .slice avr RT.length cvr) (show wS.heap.size ≠ w.heap.size + 1 by omega)).set (o := 1) (u := .slice aur RR.length cur) (show wS.heap.size ≠ w.heap.size + 1 by omega)
    go_simp
    refine hK.out _ _ ?_ (fun hHeld => ?_)
    · exact ⟨NT.b0, NT.b1, xlT.c0, xlT.c1, xlT.c2⟩
    clear hK K
    try simp only [Act.put, List.setIfInBounds_toArray, List.set_cons_zero, List.set_cons_succ]
    refine wpAnyH_take (i := 10) (oi := { dst := some 15, op := Go.Op.assign (Go.Operand.tmp 86), type := 4, pos := "exact.go:11905", after := #[{ on := 7, ground := Go.Ground.data }, { on := 9, ground := Go.Ground.chain }, { on := 0, ground := Go.Ground.phase }, { on := 1, ground := Go.Ground.phase }, { on := 2, ground := Go.Ground.phase }, { on := 3, ground := Go.Ground.phase }, { on := 4, ground := Go.Ground.phase }, { on := 5, ground := Go.Ground.phase }, { on := 6, ground := Go.Ground.phase }, { on := 7, ground := Go.Ground.phase }, { on := 8, ground := Go.Ground.phase }, { on := 9, ground := Go.Ground.phase }], guard := none }) (v := ?_) rfl (by kernel_rfl) (by kernel_rfl) (by kernel_rfl) (fun _ _ _ h => h) (Or.inl ⟨by rfl, ?_⟩) (by assumption) ?_
    rotate_left
    · intro w hSw; (try dsimp only at hSw); go_simp; try with_reducible rfl
    try simp only [Act.put, List.setIfInBounds_toArray, List.set_cons_zero, List.set_cons_succ]
    refine wpAnyH_done (by kernel_rfl) ?_ _
    have OM := (OB.put0 (u := .slice avr RT.length cvr)).put1 (u := .slice aur RR.length cur)
    have rT := (rS.setFar (b := wS.heap.size) (o := 0) (x := .slice avr RT.length cvr) hxb).setFar (b := wS.heap.size) (o := 1) (x := .slice aur RR.length cur) hxb
    have hBW := ((hB2426.setCell (p := ⟨wS.heap.size, 0, none⟩) (show wS.heap.size ≤ wS.heap.size by omega) (.slice avr RT.length cvr)).setCell (p := ⟨wS.heap.size, 1, none⟩) (show wS.heap.size ≤ wS.heap.size by omega) (.slice aur RR.length cur))
    have hBX := hbS.trans (hBW.mono hzS)
    have hzM : w2425.heap.size ≤ ((w2425.setCell ⟨wS.heap.size, 0, none⟩ (.slice avr RT.length cvr)).setCell ⟨wS.heap.size, 1, none⟩ (.slice aur RR.length cur)).heap.size := by simp [World.setCell]
    go_wp2_with fail
    go_meet
    exact ⟨wS.heap.size, w2423.heap.size, w2425.heap.size, avr, cvr, aur, cur, rfl, rfl, hBX, OM.box, rT, by omega, by omega, by omega, hxb, hzPP⟩
  case rest =>
  obtain ⟨oh, Bh, Ch, avh, cvh, auh, cuh, rfl, rfl, hb12, bh, h, zbh, zch, zoh, zxh, zyh⟩ := hcut
  have z12 := hb12.size
  have s := s.later hb12
  have g := g.later hb12
  have bs := bs.next hb12
  have bg := bg.next hb12
  have xl := xl.next hb12
  have N12 := N11.next hb12
  have zl12 := bh.lt
  clear h0 h1 y0 y1 y2 bs0 bs1 bg0 bg1
  have h0 := N12.b0
  have h1 := N12.b1
  have y0 := xl.c0
  have y1 := xl.c1
  have y2 := xl.c2
  have bs0 := bs.c0
  have bs1 := bs.c1
  have bg0 := bg.c0
  have bg1 := bg.c1
  have bh0 := bh.c0
  have bh1 := bh.c1
  generalize wc = w12 at *
  go_wp2_with fail
  refine (eqNet_true _ _ _ _ RT RR _ h.rd s.rd).mono ?_
  rintro e w13 ⟨rfl, hb13⟩
  have z13 := hb13.size
  have s := s.later hb13
  have g := g.later hb13
  have h := h.later hb13
  have bs := bs.next hb13
  have bg := bg.next hb13
  have bh := bh.next hb13
  have xl := xl.next hb13
  have N13 := N12.next hb13
  clear h0 h1 y0 y1 y2 bs0 bs1 bg0 bg1 bh0 bh1
  have h0 := N13.b0
  have h1 := N13.b1
  have y0 := xl.c0
  have y1 := xl.c1
  have y2 := xl.c2
  have bs0 := bs.c0
  have bs1 := bs.c1
  have bg0 := bg.c0
  have bg1 := bg.c1
  have bh0 := bh.c0
  have bh1 := bh.c1
  go_wp2_with fail
  refine (heldNet_any _ _ RT.length RR.length 1 _ (by decide) (by decide) (by omega) (by omega) g.rd).mono ?_
  rintro e w14 ⟨rfl, hb14⟩
  have z14 := hb14.size
  have s := s.later hb14
  have g := g.later hb14
  have h := h.later hb14
  have bs := bs.next hb14
  have bg := bg.next hb14
  have bh := bh.next hb14
  have xl := xl.next hb14
  have N14 := N13.next hb14
  clear h0 h1 y0 y1 y2 bs0 bs1 bg0 bg1 bh0 bh1
  have h0 := N14.b0
  have h1 := N14.b1
  have y0 := xl.c0
  have y1 := xl.c1
  have y2 := xl.c2
  have bs0 := bs.c0
  have bs1 := bs.c1
  have bg0 := bg.c0
  have bg1 := bg.c1
  have bh0 := bh.c0
  have bh1 := bh.c1
  go_wp2
  go_ret
  exact ⟨rfl, N14.below⟩
end Go.Proofs.Yteickcpmicifgaa
