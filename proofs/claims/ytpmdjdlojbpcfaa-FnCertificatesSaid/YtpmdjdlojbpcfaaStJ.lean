/- Chapter 8: needed sites of the program. Written by a generator of this claim's author. -/
import Derived.Test.YtpmdjdlojbpcfaaStI
import Derived.Laws.BitsAllLaws
import Derived.Test.YtpmdjdlojbpcfaaRgE
import Derived.Deep.CutRange
import Derived.Deep.CutBlock
import Derived.Deep.Cut
namespace Go.Proofs.Ytpmdjdlojbpcfaa
open Go.RowKit
set_option linter.unusedSimpArgs false
set_option linter.unusedVariables false

/-- The outlook lies in the first new block. -/
structure NdI (w wr : World) (P1 : Nat) (a : Option Addr) (m c : Nat) : Prop where
  bel : Below w.heap.size w wr
  box : Var2 wr w.heap.size (.int .u64 P1) (.slice a m c)
theorem NdI.next {w wr w' : World} {P1 m c : Nat} {a : Option Addr} (h : NdI w wr P1 a m c) (hb : Below wr.heap.size wr w') : NdI w w' P1 a m c :=
  ⟨h.bel.trans (hb.mono h.bel.size), h.box.next hb⟩
/-- Spots that are seen once and not twice. -/
theorem andNot_bit (a b : Nat) (ha : a < 65536) (hb : b < 65536) : ∃ x : Nat, bits BinOp.andNot IntKind.u64 (a : Int) (b : Int) = (x : Int) ∧ x < 65536 ∧ ∀ j, x.testBit j = (a.testBit j && !b.testBit j) := by
  refine ⟨a &&& (18446744073709551615 - b), u64_andNot_nat a b (by omega) (by omega), Nat.lt_of_le_of_lt Nat.and_le_left ha, fun j => ?_⟩
  rw [Nat.testBit_and]
  by_cases hj : j < 64
  · rw [show 18446744073709551615 - b = 2 ^ 64 - (b + 1) by omega, Nat.testBit_two_pow_sub_succ (by omega) j]
    simp [hj]
  · have h1 : a.testBit j = false := Nat.testBit_lt_two_pow (Nat.lt_of_lt_of_le (show a < 2 ^ 64 by omega) (Nat.pow_le_pow_right (by decide) (by omega)))
    simp [h1]
theorem and_ne {v x : Nat} (hv : v < 65536) (hx : x < 65536) : ∃ y : Nat, bits BinOp.and IntKind.u64 (v : Int) (x : Int) = (y : Int) ∧ (y = 0 ↔ ∀ j, (v.testBit j && x.testBit j) = false) := by
  refine ⟨v &&& x, bits_and_u64_nat v x (by omega) (by omega), fun h j => ?_, fun h => ?_⟩
  · rw [← Nat.testBit_and, h]; simp
  · refine Nat.eq_of_testBit_eq fun j => ?_
    rw [Nat.testBit_and, h j]; simp
theorem once_bit {L : List (List Int)} {n m a b x : Nat} (ok : StOk L n) (hm : L.length = m) (hs : SeenI L n (2 ^ m - 1) m a b) (hx : ∀ j, x.testBit j = (a.testBit j && !b.testBit j)) (j : Nat) : x.testBit j = (decide (j < n) && onceB L j) := by
  have h := hs j
  rw [cntT_all, nums_all] at h
  rw [hx j, h.1, h.2, onceB, hm, Bool.eq_iff_iff]
  by_cases hj : j < n
  · simp [hj]; omega
  · simp [hj]
theorem nd_eq {L : List (List Int)} {n m x y k : Nat} (ok : StOk L n) (hx : ∀ j, x.testBit j = (decide (j < n) && onceB L j)) (hy : y = 0 ↔ ∀ j, ((vw L k).testBit j && x.testBit j) = false) : ndB L n k = !decide (y = 0) := by
  rw [Bool.eq_iff_iff]
  simp only [ndB, List.any_eq_true, List.mem_range, Bool.and_eq_true, Bool.not_eq_true', decide_eq_false_iff_not, hy]
  constructor
  · rintro ⟨j, hj, h1, h2⟩ h
    have := h j
    rw [ok.vw_bit, hx j] at this
    simp [h1, h2, hj] at this
  · intro h
    obtain ⟨j, hj⟩ := Classical.not_forall.1 h
    rw [ok.vw_bit, hx j, Bool.not_eq_false] at hj
    simp only [Bool.and_eq_true, decide_eq_true_eq] at hj
    exact ⟨j, hj.2.1, hj.1, hj.2.2⟩
set_option maxRecDepth 100000 in
set_option maxHeartbeats 4000000 in
theorem implNeededSites_any (v : Value) (L : List (List Int)) (n : Int) (w : World) (hr : RdJ w v L) :
    Calls Try.prog 21 #[v, .int .i64 n] w (NsPost L n w) := by
  have C0 := Lib.hid (implAreSites_any v L n w hr)
  have HR := Lib.hid hr
  cases hs : stB L n with
  | false =>
    have hf := Lib.hid hs
    rw [hs] at C0
    clear hs hr
    go_enter Try.func21, Try.ntmps21
    go_wp2_with fail
    refine C0.out.mono ?_
    rintro e w1 ⟨rfl, hb1⟩
    go_wp2
    go_ret2
    exact NsPost.no hf.out hb1
  | true =>
    rw [hs] at C0
    have HS := Lib.hid hs
    obtain ⟨ok, hne⟩ := stB_iff.1 hs
    obtain ⟨N, hN⟩ : ∃ N, n.toNat = N := ⟨_, rfl⟩
    rw [hN] at ok hne
    subst hne
    have hm2 := ok.m2
    have hn2 := ok.n2
    have OK := Lib.hid ok
    obtain ⟨a, cap, rfl, -⟩ := hr.len
    clear hr
    have hse := se_ok (s := 2 ^ L.length - 1) ok
    have hs16 : 2 ^ L.length - 1 < 65536 := by have := two12 hm2; omega
    have hlt := hse.lt
    have h16 := two16 hn2
    obtain ⟨x, e1, hx16, hx⟩ := andNot_bit (seA L N (2 ^ L.length - 1)) (seB L N (2 ^ L.length - 1)) (by omega) (by omega)
    have hx1 := once_bit ok rfl hse hx
    have HA := fun W => Lib.hid (allBelow_any L.length W (by omega))
    have HSF := Lib.hid (fun (u : Value) (W : World) (h : RdV W u L) => seen_any u L N (2 ^ L.length - 1) W ok hs16 h)
    generalize seA L N (2 ^ L.length - 1) = sa at HSF e1
    generalize seB L N (2 ^ L.length - 1) = sb at HSF e1
    obtain ⟨m, hme⟩ : ∃ m, m = L.length := ⟨_, rfl⟩
    rw [← hme] at hm2 C0 HR HA HSF ⊢
    obtain ⟨M1, hM1⟩ : ∃ M1, M1 = 2 ^ m - 1 := ⟨_, rfl⟩
    simp only [← hM1] at HA HSF
    have HM := Lib.hid hme
    have HX : Hid (∀ k, ∃ y : Nat, bits BinOp.and IntKind.u64 (vw L k : Int) (x : Int) = (y : Int) ∧ ndB L N k = !decide (y = 0)) := Lib.hid fun k => by
      obtain ⟨y, h1, h2⟩ := and_ne (v := vw L k) (x := x) (Nat.lt_of_lt_of_le (ok.vw_lt k) h16) hx16
      exact ⟨y, h1, nd_eq (m := m) ok hx1 h2⟩
    clear hs hN ok hme hM1 hse hs16 hlt h16 hx hx1 hx16
    go_enter Try.func21, Try.ntmps21
    go_wp2_with fail
    refine C0.out.mono ?_
    rintro e w1 ⟨rfl, hb1⟩
    go_wp2_with fail
    refine (outlookOf_any _ L N _ OK.out (HR.out.later hb1)).mono ?_
    rintro e w2 ⟨uv, rfl, hv, hb2⟩
    have hB2 := hb1.trans (hb2.mono hb1.size)
    obtain ⟨au, cu, rfl⟩ := hv.len
    rw [← HM.out] at hv ⊢
    generalize 2 ^ N - 1 = P1 at *
    have hO : NdI w2 (w2.alloc (.cells #[.int .u64 P1, .slice au m cu] 65)) P1 au m cu := ⟨(Below.refl w2.heap.size w2).alloc (Nat.le_refl _) _, Var2.new w2 _ _ _⟩
    have HV := Lib.hid hv
    clear hv hb2 hb1
    go_upto_region 4 with fail
    generalize w2.alloc (.cells #[.int .u64 P1, .slice au m cu] 65) = w3 at *
    go_cut [7] from 19 to 23 (fun s7 wx => ∃ b : Nat, s7 = .pointer (some ⟨b, 0, none⟩) ∧ Var3 wx b (.int .u64 P1) (.int .u64 sa) (.int .u64 sb) ∧ NdI w2 wx P1 au m cu)
    case first =>
      refine wp_region_E_drew (S := (fun w' => w'.cell? ⟨w2.heap.size, 0, none⟩ = some (.int .u64 P1) ∧ w'.cell? ⟨w2.heap.size, 1, none⟩ = some (.slice au m cu))) (E := fun i => i == 6) (by kernel_rfl) ?_ (fun hHeld => ?_)
      · exact ⟨(hO.next (Below.refl _ _).drew).box.c0, (hO.next (Below.refl _ _).drew).box.c1⟩
      refine wpAnyE_name ?_
      intro wS hwS
      rw [← hwS] at hHeld
      have hbS := below_named hwS
      clear hwS
      replace hO := hO.next hbS
      refine wpAnyE_take (i := 0) (oi := { dst := some 19, op := Go.Op.load 65 (Go.Operand.tmp 6), type := 65, pos := "l8_site.go:97", after := #[], guard := none }) (v := ?_) [4, 6] rfl (by kernel_rfl) (by kernel_rfl) (by kernel_rfl) (by kernel_rfl) (fun j hj => by first | (have e : j = 6 := by simpa using hj); (subst e; rfl)) (by kernel_rfl) (fun _ _ _ h => h) (Or.inl ⟨by rfl, ?_⟩) hHeld ?_
      rotate_left
      · intro w hSw; (try dsimp only at hSw); go_simp; try with_reducible rfl
      try simp only [Act.put, List.setIfInBounds_toArray, List.set_cons_zero, List.set_cons_succ]
      refine wpAnyE_take (i := 1) (oi := { dst := some 20, op := Go.Op.move (Go.Operand.tmp 0), type := 23, pos := "l8_site.go:97", after := #[], guard := none }) (v := ?_) [2, 3, 4, 6] rfl (by kernel_rfl) (by kernel_rfl) (by kernel_rfl) (by kernel_rfl) (fun j hj => by first | (have e : j = 6 := by simpa using hj); (subst e; rfl)) (by kernel_rfl) (fun _ _ _ h => h) (Or.inl ⟨by rfl, ?_⟩) hHeld ?_
      rotate_left
      · intro w hSw; (try dsimp only at hSw); go_simp; try with_reducible rfl
      try simp only [Act.put, List.setIfInBounds_toArray, List.set_cons_zero, List.set_cons_succ]
      refine wpAnyE_take (i := 2) (oi := { dst := some 21, op := Go.Op.call { callee := Go.Callee.builtin Go.Builtin.len, args := #[Go.Operand.tmp 20], argTypes := #[23] }, type := 3, pos := "l8_site.go:97", after := #[{ on := 1, ground := Go.Ground.data }], guard := none }) (v := ?_) [3, 4, 6] rfl (by kernel_rfl) (by kernel_rfl) (by kernel_rfl) (by kernel_rfl) (fun j hj => by first | (have e : j = 6 := by simpa using hj); (subst e; rfl)) (by kernel_rfl) (fun _ _ _ h => h) (Or.inl ⟨by rfl, ?_⟩) hHeld ?_
      rotate_left
      · intro w hSw; (try dsimp only at hSw); go_simp; try with_reducible rfl
      try simp only [Act.put, List.setIfInBounds_toArray, List.set_cons_zero, List.set_cons_succ]
      refine wpAnyE_ready (rs := [3, 5]) (by kernel_rfl) (by simp) ?_
      refine AllReadyE.cons (o := { dst := some 22, op := Go.Op.call { callee := Go.Callee.value (Go.Operand.func 69), args := #[Go.Operand.tmp 21], argTypes := #[3] }, type := 62, pos := "l8_site.go:97", after := #[{ on := 2, ground := Go.Ground.data }], guard := none }) rfl (fun K hK => ?_) ?_
      · go_simp
        refine (HA _).out.mono ?_
        rintro e w' ⟨rfl, rfl⟩
        try go_simp
        refine hK.out _ _ (fun _ => ?_) (fun hHeld => ?_)
        · exact ⟨hO.box.c0, hO.box.c1⟩
        replace hHeld := hHeld rfl
        clear hK K
        try simp only [Act.put, List.setIfInBounds_toArray, List.set_cons_zero, List.set_cons_succ]
        refine wpAnyE_ready (rs := [4, 5]) (by kernel_rfl) (by simp) ?_
        refine AllReadyE.cons (o := { dst := some 23, op := Go.Op.call { callee := Go.Callee.value (Go.Operand.func 68), args := #[Go.Operand.tmp 19, Go.Operand.tmp 22], argTypes := #[65, 62] }, type := 76, pos := "l8_site.go:97", after := #[{ on := 0, ground := Go.Ground.data }, { on := 3, ground := Go.Ground.data }, { on := 3, ground := Go.Ground.chain }], guard := none }) rfl (fun K hK => ?_) ?_
        · go_simp
          refine (HSF.out _ _ (HV.out.below hO.bel (Nat.le_refl _))).mono ?_
          rintro e w101 ⟨rfl, hb101⟩
          replace hO := hO.next hb101
          clear hb101
          try go_simp
          refine hK.out _ _ (fun _ => ?_) (fun hHeld => ?_)
          · exact ⟨hO.box.c0, hO.box.c1⟩
          replace hHeld := hHeld rfl
          clear hK K
          try simp only [Act.put, List.setIfInBounds_toArray, List.set_cons_zero, List.set_cons_succ]
          refine wpAnyE_ready (rs := [5]) (by kernel_rfl) (by simp) ?_
          refine AllReadyE.cons (o := { dst := some 7, op := Go.Op.alloc 76, type := 0, pos := "l8_site.go:97", after := #[], guard := none }) rfl (fun K hK => ?_) AllReadyE.nil
          go_simp
          refine hK.out _ _ (fun _ => ?_) (fun hHeld => ?_)
          · exact ⟨(hO.next ((Below.refl _ _).alloc (Nat.le_refl _) _)).box.c0, (hO.next ((Below.refl _ _).alloc (Nat.le_refl _) _)).box.c1⟩
          replace hHeld := hHeld rfl
          clear hK K
          try simp only [Act.put, List.setIfInBounds_toArray, List.set_cons_zero, List.set_cons_succ]
          refine wpAnyE_name ?_
          intro w102 hw102
          try rw [← hw102] at hHeld
          have hb102 := below_alloc hw102
          have hV : Var3 w102 w101.heap.size (.int .u64 0) (.int .u64 0) (.int .u64 0) := by rw [hw102]; exact Var3.new _ _ _ _ _
          have hVb : w2.heap.size < w101.heap.size := hO.box.lt
          clear hw102
          replace hO := hO.next hb102
          clear hb102
          refine wpAnyE_ready (rs := [6]) (by kernel_rfl) (by simp) ?_
          refine AllReadyE.cons (o := { dst := none, op := Go.Op.store 76 (Go.Operand.tmp 7) (Go.Operand.tmp 23), type := 0, pos := "l8_site.go:97", after := #[{ on := 5, ground := Go.Ground.data }, { on := 4, ground := Go.Ground.data }, { on := 4, ground := Go.Ground.chain }, { on := 0, ground := Go.Ground.phase }, { on := 1, ground := Go.Ground.phase }, { on := 2, ground := Go.Ground.phase }, { on := 3, ground := Go.Ground.phase }, { on := 4, ground := Go.Ground.phase }, { on := 5, ground := Go.Ground.phase }], guard := none }) rfl (fun K hK => ?_) AllReadyE.nil
          have k0 := hV.c0
          have k1 := hV.c1
          have k2 := hV.c2
          have l0 := hV.fz 0
          have l1 := hV.fz 1
          have l2 := hV.fz 2
          go_simp
          refine hK.out _ _ (fun h => absurd h (by decide)) (fun _ => ?_)
          clear hK K
          try simp only [Act.put, List.setIfInBounds_toArray, List.set_cons_zero, List.set_cons_succ]
          refine wpAnyE_done (by kernel_rfl) ?_ _
          have hbs : Below (w101.heap.size) w102 (((w102.setCell ⟨w101.heap.size, 0, none⟩ (.int .u64 P1)).setCell ⟨w101.heap.size, 1, none⟩ (.int .u64 sa)).setCell ⟨w101.heap.size, 2, none⟩ (.int .u64 sb)) := (((Below.refl _ _).setCell (p := ⟨w101.heap.size, 0, none⟩) (Nat.le_refl _) _).setCell (p := ⟨w101.heap.size, 1, none⟩) (Nat.le_refl _) _).setCell (p := ⟨w101.heap.size, 2, none⟩) (Nat.le_refl _) _
          have hV2 := Lib.hid (hV.put0.put1.put2 : Var3 (((w102.setCell ⟨w101.heap.size, 0, none⟩ (.int .u64 P1)).setCell ⟨w101.heap.size, 1, none⟩ (.int .u64 sa)).setCell ⟨w101.heap.size, 2, none⟩ (.int .u64 sb)) (w101.heap.size) (.int .u64 P1) (.int .u64 sa) (.int .u64 sb))
          have hO2 : Hid (NdI w2 (((w102.setCell ⟨w101.heap.size, 0, none⟩ (.int .u64 P1)).setCell ⟨w101.heap.size, 1, none⟩ (.int .u64 sa)).setCell ⟨w101.heap.size, 2, none⟩ (.int .u64 sb)) P1 au m cu) := Lib.hid ⟨hO.bel.trans (hbs.mono (by omega)), hO.box.below hbs hVb⟩
          clear hV hO
          go_wp2_with fail
          go_meet
          exact ⟨_, rfl, hV2.out, hO2.out⟩
        refine AllReadyE.cons (o := { dst := some 7, op := Go.Op.alloc 76, type := 0, pos := "l8_site.go:97", after := #[], guard := none }) rfl (fun K hK => ?_) AllReadyE.nil
        go_simp
        refine hK.out _ _ (fun _ => ?_) (fun hHeld => ?_)
        · exact ⟨(hO.next ((Below.refl _ _).alloc (Nat.le_refl _) _)).box.c0, (hO.next ((Below.refl _ _).alloc (Nat.le_refl _) _)).box.c1⟩
        replace hHeld := hHeld rfl
        clear hK K
        try simp only [Act.put, List.setIfInBounds_toArray, List.set_cons_zero, List.set_cons_succ]
        refine wpAnyE_name ?_
        intro w103 hw103
        try rw [← hw103] at hHeld
        have hb103 := below_alloc hw103
        have hV : Var3 w103 wS.heap.size (.int .u64 0) (.int .u64 0) (.int .u64 0) := by rw [hw103]; exact Var3.new _ _ _ _ _
        have hVb : w2.heap.size < wS.heap.size := hO.box.lt
        clear hw103
        replace hO := hO.next hb103
        clear hb103
        refine wpAnyE_ready (rs := [4]) (by kernel_rfl) (by simp) ?_
        refine AllReadyE.cons (o := { dst := some 23, op := Go.Op.call { callee := Go.Callee.value (Go.Operand.func 68), args := #[Go.Operand.tmp 19, Go.Operand.tmp 22], argTypes := #[65, 62] }, type := 76, pos := "l8_site.go:97", after := #[{ on := 0, ground := Go.Ground.data }, { on := 3, ground := Go.Ground.data }, { on := 3, ground := Go.Ground.chain }], guard := none }) rfl (fun K hK => ?_) AllReadyE.nil
        go_simp
        refine (HSF.out _ _ (HV.out.below hO.bel (Nat.le_refl _))).mono ?_
        rintro e w104 ⟨rfl, hb104⟩
        replace hO := hO.next hb104
        replace hV := hV.next hb104
        clear hb104
        try go_simp
        refine hK.out _ _ (fun _ => ?_) (fun hHeld => ?_)
        · exact ⟨hO.box.c0, hO.box.c1⟩
        replace hHeld := hHeld rfl
        clear hK K
        try simp only [Act.put, List.setIfInBounds_toArray, List.set_cons_zero, List.set_cons_succ]
        refine wpAnyE_ready (rs := [6]) (by kernel_rfl) (by simp) ?_
        refine AllReadyE.cons (o := { dst := none, op := Go.Op.store 76 (Go.Operand.tmp 7) (Go.Operand.tmp 23), type := 0, pos := "l8_site.go:97", after := #[{ on := 5, ground := Go.Ground.data }, { on := 4, ground := Go.Ground.data }, { on := 4, ground := Go.Ground.chain }, { on := 0, ground := Go.Ground.phase }, { on := 1, ground := Go.Ground.phase }, { on := 2, ground := Go.Ground.phase }, { on := 3, ground := Go.Ground.phase }, { on := 4, ground := Go.Ground.phase }, { on := 5, ground := Go.Ground.phase }], guard := none }) rfl (fun K hK => ?_) AllReadyE.nil
        have k0 := hV.c0
        have k1 := hV.c1
        have k2 := hV.c2
        have l0 := hV.fz 0
        have l1 := hV.fz 1
        have l2 := hV.fz 2
        go_simp
        refine hK.out _ _ (fun h => absurd h (by decide)) (fun _ => ?_)
        clear hK K
        try simp only [Act.put, List.setIfInBounds_toArray, List.set_cons_zero, List.set_cons_succ]
        refine wpAnyE_done (by kernel_rfl) ?_ _
        have hbs : Below (wS.heap.size) w104 (((w104.setCell ⟨wS.heap.size, 0, none⟩ (.int .u64 P1)).setCell ⟨wS.heap.size, 1, none⟩ (.int .u64 sa)).setCell ⟨wS.heap.size, 2, none⟩ (.int .u64 sb)) := (((Below.refl _ _).setCell (p := ⟨wS.heap.size, 0, none⟩) (Nat.le_refl _) _).setCell (p := ⟨wS.heap.size, 1, none⟩) (Nat.le_refl _) _).setCell (p := ⟨wS.heap.size, 2, none⟩) (Nat.le_refl _) _
        have hV2 := Lib.hid (hV.put0.put1.put2 : Var3 (((w104.setCell ⟨wS.heap.size, 0, none⟩ (.int .u64 P1)).setCell ⟨wS.heap.size, 1, none⟩ (.int .u64 sa)).setCell ⟨wS.heap.size, 2, none⟩ (.int .u64 sb)) (wS.heap.size) (.int .u64 P1) (.int .u64 sa) (.int .u64 sb))
        have hO2 : Hid (NdI w2 (((w104.setCell ⟨wS.heap.size, 0, none⟩ (.int .u64 P1)).setCell ⟨wS.heap.size, 1, none⟩ (.int .u64 sa)).setCell ⟨wS.heap.size, 2, none⟩ (.int .u64 sb)) P1 au m cu) := Lib.hid ⟨hO.bel.trans (hbs.mono (by omega)), hO.box.below hbs hVb⟩
        clear hV hO
        go_wp2_with fail
        go_meet
        exact ⟨_, rfl, hV2.out, hO2.out⟩
      refine AllReadyE.cons (o := { dst := some 7, op := Go.Op.alloc 76, type := 0, pos := "l8_site.go:97", after := #[], guard := none }) rfl (fun K hK => ?_) AllReadyE.nil
      go_simp
      refine hK.out _ _ (fun _ => ?_) (fun hHeld => ?_)
      · exact ⟨(hO.next ((Below.refl _ _).alloc (Nat.le_refl _) _)).box.c0, (hO.next ((Below.refl _ _).alloc (Nat.le_refl _) _)).box.c1⟩
      replace hHeld := hHeld rfl
      clear hK K
      try simp only [Act.put, List.setIfInBounds_toArray, List.set_cons_zero, List.set_cons_succ]
      refine wpAnyE_name ?_
      intro w105 hw105
      try rw [← hw105] at hHeld
      have hb105 := below_alloc hw105
      have hV : Var3 w105 wS.heap.size (.int .u64 0) (.int .u64 0) (.int .u64 0) := by rw [hw105]; exact Var3.new _ _ _ _ _
      have hVb : w2.heap.size < wS.heap.size := hO.box.lt
      clear hw105
      replace hO := hO.next hb105
      clear hb105
      refine wpAnyE_ready (rs := [3]) (by kernel_rfl) (by simp) ?_
      refine AllReadyE.cons (o := { dst := some 22, op := Go.Op.call { callee := Go.Callee.value (Go.Operand.func 69), args := #[Go.Operand.tmp 21], argTypes := #[3] }, type := 62, pos := "l8_site.go:97", after := #[{ on := 2, ground := Go.Ground.data }], guard := none }) rfl (fun K hK => ?_) AllReadyE.nil
      go_simp
      refine (HA _).out.mono ?_
      rintro e w' ⟨rfl, rfl⟩
      try go_simp
      refine hK.out _ _ (fun _ => ?_) (fun hHeld => ?_)
      · exact ⟨hO.box.c0, hO.box.c1⟩
      replace hHeld := hHeld rfl
      clear hK K
      try simp only [Act.put, List.setIfInBounds_toArray, List.set_cons_zero, List.set_cons_succ]
      refine wpAnyE_ready (rs := [4]) (by kernel_rfl) (by simp) ?_
      refine AllReadyE.cons (o := { dst := some 23, op := Go.Op.call { callee := Go.Callee.value (Go.Operand.func 68), args := #[Go.Operand.tmp 19, Go.Operand.tmp 22], argTypes := #[65, 62] }, type := 76, pos := "l8_site.go:97", after := #[{ on := 0, ground := Go.Ground.data }, { on := 3, ground := Go.Ground.data }, { on := 3, ground := Go.Ground.chain }], guard := none }) rfl (fun K hK => ?_) AllReadyE.nil
      go_simp
      refine (HSF.out _ _ (HV.out.below hO.bel (Nat.le_refl _))).mono ?_
      rintro e w106 ⟨rfl, hb106⟩
      replace hO := hO.next hb106
      replace hV := hV.next hb106
      clear hb106
      try go_simp
      refine hK.out _ _ (fun _ => ?_) (fun hHeld => ?_)
      · exact ⟨hO.box.c0, hO.box.c1⟩
      replace hHeld := hHeld rfl
      clear hK K
      try simp only [Act.put, List.setIfInBounds_toArray, List.set_cons_zero, List.set_cons_succ]
      refine wpAnyE_ready (rs := [6]) (by kernel_rfl) (by simp) ?_
      refine AllReadyE.cons (o := { dst := none, op := Go.Op.store 76 (Go.Operand.tmp 7) (Go.Operand.tmp 23), type := 0, pos := "l8_site.go:97", after := #[{ on := 5, ground := Go.Ground.data }, { on := 4, ground := Go.Ground.data }, { on := 4, ground := Go.Ground.chain }, { on := 0, ground := Go.Ground.phase }, { on := 1, ground := Go.Ground.phase }, { on := 2, ground := Go.Ground.phase }, { on := 3, ground := Go.Ground.phase }, { on := 4, ground := Go.Ground.phase }, { on := 5, ground := Go.Ground.phase }], guard := none }) rfl (fun K hK => ?_) AllReadyE.nil
      have k0 := hV.c0
      have k1 := hV.c1
      have k2 := hV.c2
      have l0 := hV.fz 0
      have l1 := hV.fz 1
      have l2 := hV.fz 2
      go_simp
      refine hK.out _ _ (fun h => absurd h (by decide)) (fun _ => ?_)
      clear hK K
      try simp only [Act.put, List.setIfInBounds_toArray, List.set_cons_zero, List.set_cons_succ]
      refine wpAnyE_done (by kernel_rfl) ?_ _
      have hbs : Below (wS.heap.size) w106 (((w106.setCell ⟨wS.heap.size, 0, none⟩ (.int .u64 P1)).setCell ⟨wS.heap.size, 1, none⟩ (.int .u64 sa)).setCell ⟨wS.heap.size, 2, none⟩ (.int .u64 sb)) := (((Below.refl _ _).setCell (p := ⟨wS.heap.size, 0, none⟩) (Nat.le_refl _) _).setCell (p := ⟨wS.heap.size, 1, none⟩) (Nat.le_refl _) _).setCell (p := ⟨wS.heap.size, 2, none⟩) (Nat.le_refl _) _
      have hV2 := Lib.hid (hV.put0.put1.put2 : Var3 (((w106.setCell ⟨wS.heap.size, 0, none⟩ (.int .u64 P1)).setCell ⟨wS.heap.size, 1, none⟩ (.int .u64 sa)).setCell ⟨wS.heap.size, 2, none⟩ (.int .u64 sb)) (wS.heap.size) (.int .u64 P1) (.int .u64 sa) (.int .u64 sb))
      have hO2 : Hid (NdI w2 (((w106.setCell ⟨wS.heap.size, 0, none⟩ (.int .u64 P1)).setCell ⟨wS.heap.size, 1, none⟩ (.int .u64 sa)).setCell ⟨wS.heap.size, 2, none⟩ (.int .u64 sb)) P1 au m cu) := Lib.hid ⟨hO.bel.trans (hbs.mono (by omega)), hO.box.below hbs hVb⟩
      clear hV hO
      go_wp2_with fail
      go_meet
      exact ⟨_, rfl, hV2.out, hO2.out⟩
    case rest =>
    obtain ⟨b, rfl, hV, hO⟩ := hcut
    have k1 := hV.c1
    have k2 := hV.c2
    have o1 := hO.box.c1
    have HBW := Lib.hid hO.bel
    clear hO hV
    go_wp2
    go_loopw [9, 32] (fun ov iv wr => ∃ k : Nat, k ≤ m ∧ iv = .int .i64 k ∧ Own wr wc.heap.size ov (nsTo L N k) ∧ Below wc.heap.size wc wr) (fun _ iv _ => m - (intOf iv).toNat)
    case atStart => exact ⟨0, Nat.zero_le _, rfl, Own.nil _ _, Below.refl _ _⟩
    case round =>
      clear k1 k2 o1
      obtain ⟨k, hk, rfl, hown, hb⟩ := hrel
      have hlen := nsTo_len L N k
      by_cases hlt : k < m
      · obtain ⟨g, off, rfl, hg, q⟩ := (HV.out.below (HBW.out.trans (hb.mono HBW.out.size)) (Nat.le_refl _)).at_ HM.out k hlt
        obtain ⟨y, e2, hnd⟩ := HX.out k
        generalize vw L k = vk at q e2
        by_cases hy : y = 0
        · have hs := Lib.hid (nsTo_no (L := L) (n := N) (k := k) (by rw [hnd]; simp [hy]))
          have hyb : ((y : Int) != 0) = false := by simp [hy]
          clear hnd hy
          go_wp2
          go_roundw
          case rel => exact ⟨k + 1, by omega, by go_num, by rw [hs.out]; exact hown, hb⟩
          case measure => simp [intOf]; omega
        · have hs := Lib.hid (nsTo_yes (L := L) (n := N) (k := k) (by rw [hnd]; simp [hy]))
          have hyb : ((y : Int) != 0) = true := by rw [bne_iff_ne]; omega
          have hsz := hb.size
          clear hnd hy
          go_wp2_with (at_builtin; refine append_int rfl _ _ rfl wc.heap.size _ (nsTo L N k) (k : Int) wr.heap.size rfl rfl (hown.alloc _) (new_cell _ _ _) (by omega) (by simp; omega) ?_; intro v' w5 hown1 hgrow1)
          go_roundw
          case rel => exact ⟨k + 1, by omega, by go_num, by rw [hs.out]; exact hown1, (hb.alloc hsz _).grown hgrow1 (by simp; omega) (fun j hj => (hown.lt j hj).1)⟩
          case measure => simp [intOf]; omega
      · obtain rfl : k = m := by omega
        have hBB := hB2.trans ((HBW.out.trans (hb.mono HBW.out.size)).mono hB2.size)
        have HO := Lib.hid (hown.base (show w.heap.size ≤ wc.heap.size from Nat.le_trans hB2.size HBW.out.size))
        clear hown
        go_wp2
        go_ret2
        exact NsPost.yes HS.out (by rw [← HM.out, Int.toNat_natCast]; exact HO.out) hBB
end Go.Proofs.Ytpmdjdlojbpcfaa
