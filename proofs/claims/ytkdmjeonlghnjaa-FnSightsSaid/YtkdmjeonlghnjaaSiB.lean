/- Chapter 7: the sight from the other tower, of the model. Written by a generator of this claim's author. -/
import Derived.Test.YtkdmjeonlghnjaaSi5
import Derived.Test.YtkdmjeonlghnjaaRgn
namespace Go.Proofs.Ytkdmjeonlghnjaa
open Go.RowKit Go.Sort
set_option linter.unusedSimpArgs false
set_option linter.unusedVariables false

/-- The first k Grounds from the other tower. -/
def rvT (D : Int) (ts : List T2) (k : Nat) : List T2 := (List.range k).map fun j => ⟨D - (rAt ts (ts.length - 1 - j)).x0, (rAt ts (ts.length - 1 - j)).x1⟩
theorem rvT_len (D : Int) (ts : List T2) (k : Nat) : (rvT D ts k).length = k := by simp [rvT]
theorem rvT_succ (D : Int) (ts : List T2) (k : Nat) : rvT D ts (k + 1) = rvT D ts k ++ [⟨D - (rAt ts (ts.length - 1 - k)).x0, (rAt ts (ts.length - 1 - k)).x1⟩] := by simp [rvT, List.range_succ]
/-- The answer: four fields, and whether it is one. -/
def rvD (D A B : Int) (ts : List T2) : Int := if sightB D A B ts then D else 0
def rvA (D A B : Int) (ts : List T2) : Int := if sightB D A B ts then B else 0
def rvB (D A B : Int) (ts : List T2) : Int := if sightB D A B ts then A else 0
def rvL (D A B : Int) (ts : List T2) : List T2 := if sightB D A B ts then rvT D ts ts.length else []
theorem rv_no {D A B : Int} {ts : List T2} (h : sightB D A B ts = false) : rvD D A B ts = 0 ∧ rvA D A B ts = 0 ∧ rvB D A B ts = 0 ∧ rvL D A B ts = [] := by simp [rvD, rvA, rvB, rvL, h]
theorem rv_yes {D A B : Int} {ts : List T2} (h : sightB D A B ts = true) : rvD D A B ts = D ∧ rvA D A B ts = B ∧ rvB D A B ts = A ∧ rvL D A B ts = rvT D ts ts.length := by simp [rvD, rvA, rvB, rvL, h]
theorem rvL_len (D A B : Int) (ts : List T2) : (rvL D A B ts).length ≤ 20 := by
  unfold rvL
  split
  · rename_i h
    rw [rvT_len]
    exact (sightB_iff.1 h).n
  · simp

/-- A variable of four cells lies in block b. -/
structure Var4 (W : World) (b : Nat) (q0 q1 q2 q3 : Value) : Prop where
  lt : b < W.heap.size
  c0 : W.cell? ⟨b, 0, none⟩ = some q0
  c1 : W.cell? ⟨b, 1, none⟩ = some q1
  c2 : W.cell? ⟨b, 2, none⟩ = some q2
  c3 : W.cell? ⟨b, 3, none⟩ = some q3
  fz : ∀ j, W.frozen? ⟨b, j, none⟩ = false
section
variable {W W' : World} {b C : Nat} {q0 q1 q2 q3 : Value}
theorem Var4.new (w : World) (q0 q1 q2 q3 : Value) (t : TypeId) : Var4 (w.alloc (.cells #[q0, q1, q2, q3] t)) w.heap.size q0 q1 q2 q3 := ⟨by simp, by simp [go_sem], by simp [go_sem], by simp [go_sem], by simp [go_sem], fun j => by simp [go_sem]⟩
theorem Var4.below (h : Var4 W b q0 q1 q2 q3) (hb : Below C W W') (hC : b < C) : Var4 W' b q0 q1 q2 q3 :=
  ⟨Nat.lt_of_lt_of_le h.lt hb.size, by rw [hb.cell (p := ⟨b, 0, none⟩) hC]; exact h.c0, by rw [hb.cell (p := ⟨b, 1, none⟩) hC]; exact h.c1, by rw [hb.cell (p := ⟨b, 2, none⟩) hC]; exact h.c2, by rw [hb.cell (p := ⟨b, 3, none⟩) hC]; exact h.c3, fun j => by rw [hb.frozen (p := ⟨b, j, none⟩) hC]; exact h.fz j⟩
theorem Var4.next (h : Var4 W b q0 q1 q2 q3) (hb : Below W.heap.size W W') : Var4 W' b q0 q1 q2 q3 := h.below hb h.lt
theorem setd_far {w : World} {b o b' o' : Nat} {v : Value} (h : o ≠ o' ∨ b ≠ b') : (w.setCell ⟨b, o, none⟩ v).cell? ⟨b', o', none⟩ = w.cell? ⟨b', o', none⟩ :=
  World.cell?_setCell_other _ _ _ _ (by intro e; simp only [Addr.mk.injEq, and_true] at e; omega)
theorem setd_same {w : World} {b o : Nat} {v u : Value} (h : w.cell? ⟨b, o, none⟩ = some u) : (w.setCell ⟨b, o, none⟩ v).cell? ⟨b, o, none⟩ = some v := World.cell?_setCell_same _ _ _ h
theorem Var4.set {b' o : Nat} {u : Value} (h : Var4 W b q0 q1 q2 q3) (hne : b' ≠ b) : Var4 (W.setCell ⟨b', o, none⟩ u) b q0 q1 q2 q3 :=
  ⟨by simpa [World.setCell] using h.lt, by rw [setd_far (.inr hne)]; exact h.c0, by rw [setd_far (.inr hne)]; exact h.c1, by rw [setd_far (.inr hne)]; exact h.c2, by rw [setd_far (.inr hne)]; exact h.c3, fun j => (World.frozen?_setCell _ _ _ _).trans (h.fz j)⟩
theorem Var4.put3 {u : Value} (h : Var4 W b q0 q1 q2 q3) : Var4 (W.setCell ⟨b, 3, none⟩ u) b q0 q1 q2 u :=
  ⟨by simpa [World.setCell] using h.lt, by rw [setd_far (.inl (by decide))]; exact h.c0, by rw [setd_far (.inl (by decide))]; exact h.c1, by rw [setd_far (.inl (by decide))]; exact h.c2, setd_same h.c3, fun j => (World.frozen?_setCell _ _ _ _).trans (h.fz j)⟩
end
section
variable {w W W' : World} {D A B : Int} {a : Option Addr} {n p : Nat} {ts : List T2}
theorem SB.setH (h : SB w W D A B a n p ts) (h0 : RdR c2 2 w (.slice a n p) ts) {b o : Nat} (hb : w.heap.size < b) (u : Value) : SB w (W.setCell ⟨b, o, none⟩ u) D A B a n p ts :=
  have hB := (Below.refl (w.heap.size + 1) W).setCell (p := ⟨b, o, none⟩) (show w.heap.size + 1 ≤ b by omega) u
  h.nextB hB (by omega) (h0.below (h.below.trans (hB.mono (by omega))) (Nat.le_refl _))
theorem SB.hi (h : SB w W D A B a n p ts) (h0 : RdR c2 2 w (.slice a n p) ts) {C : Nat} (hC : w.heap.size < C) (hb : Below C W W') : SB w W' D A B a n p ts :=
  h.nextB hb hC (h0.below (h.below.trans (hb.mono (by omega))) (Nat.le_refl _))
end
theorem OwnR.setFar {T : Type} {cl : T → Nat → Value} {k : Nat} {e : TypeId} {w : World} {B : Nat} {v : Value} {ts : List T} (h : OwnR e cl k w B v ts) {b o : Nat} {x : Value} (hb : v.ownBlock ≠ some b) : OwnR e cl k (w.setCell ⟨b, o, none⟩ x) B v ts :=
  row_at h fun j hj => Below.heap_setCell _ _ _ _ (by show j ≠ b; rintro rfl; exact hb hj)
theorem ground_at {w W : World} {a : Option Addr} {n p : Nat} {ts : List T2} (h0 : RdR c2 2 w (.slice a n p) ts) (hn : n = ts.length) (hb : Below w.heap.size w W) (i : Nat) (hi : i < n) :
    ∃ g off, a = some ⟨g, off, none⟩ ∧ g < w.heap.size ∧ W.cell? ⟨g, off + i * 2, none⟩ = some (.int .i64 (rAt ts i).x0) ∧ W.cell? ⟨g, off + i * 2 + 1, none⟩ = some (.int .i64 (rAt ts i).x1) := by
  obtain ⟨g, off, ha, hg, c0, c1⟩ := h0.at2 hn i hi
  exact ⟨g, off, ha, hg, (hb.cell (p := ⟨g, off + i * 2, none⟩) hg).trans c0, (hb.cell (p := ⟨g, off + i * 2 + 1, none⟩) hg).trans c1⟩
set_option maxRecDepth 100000 in
set_option maxHeartbeats 4000000 in
theorem specReverseSight_any (D A B : Int) (c : Value) (ts : List T2) (w : World) (hr : RdR c2 2 w c ts) :
    Calls Try.prog 26 #[.agg #[.int .i64 D, .int .i64 A, .int .i64 B, c]] w fun e w' => ∃ u, e = .returned (.tuple #[.agg #[.int .i64 (rvD D A B ts), .int .i64 (rvA D A B ts), .int .i64 (rvB D A B ts), u], .bool (sightB D A B ts)]) ∧ OwnG w' w.heap.size w'.heap.size u (rvL D A B ts) ∧ Below w.heap.size w w' := by
  have hm : (ts.length : Int) ≤ 9223372036854775807 := by have := hr.max; unfold maxLen at this; omega
  obtain ⟨a, p, rfl, -⟩ := hr.len
  obtain ⟨N, hn⟩ : ∃ N, N = ts.length := ⟨_, rfl⟩
  rw [← hn] at hm hr
  rw [← hn]
  have HN := Lib.hid hn
  clear hn
  have S0 := (SB.start (D := D) (A := A) (B := B) hr 25).alloc (.cells #[.int .i64 0, .int .i64 0, .int .i64 0, .slice none 0 0] 25)
  have V0 := Var4.new (w.alloc (.cells #[.int .i64 D, .int .i64 A, .int .i64 B, .slice a N p] 25)) (.int .i64 0) (.int .i64 0) (.int .i64 0) (.slice none 0 0) 25
  simp only [World.size_alloc] at V0
  have HR := Lib.hid hr
  clear hr
  have q0 := S0.q0
  have q1 := S0.q1
  have q2 := S0.q2
  have q3 := S0.q3
  have r0 := V0.c0
  have r1 := V0.c1
  have r2 := V0.c2
  have r3 := V0.c3
  have rf0 := V0.fz 0
  have rf1 := V0.fz 1
  have rf2 := V0.fz 2
  have rf3 := V0.fz 3
  cases hq : sightB D A B ts with
  | false =>
    have HQ := Lib.hid hq
    have HF := Lib.hid (rv_no hq)
    clear hq
    go_enter Try.func26, Try.ntmps26
    go_wp2_with fail
    refine (siGood_b D A B _ ts _ S0.rd HQ.out).mono ?_
    rintro e w1 ⟨rfl, hb1⟩
    have S1 := S0.next hb1
    have V1 := V0.next hb1
    clear q0 q1 q2 q3 r0 r1 r2 r3 rf0 rf1 rf2 rf3
    have q0 := S1.q0
    have q1 := S1.q1
    have q2 := S1.q2
    have q3 := S1.q3
    have r0 := V1.c0
    have r1 := V1.c1
    have r2 := V1.c2
    have r3 := V1.c3
    have rf0 := V1.fz 0
    have rf1 := V1.fz 1
    have rf2 := V1.fz 2
    have rf3 := V1.fz 3
    go_wp2
    refine bodyPost_ret (v := .tuple #[.agg #[.int .i64 0, .int .i64 0, .int .i64 0, .slice none 0 0], .bool false]) (by simp [results, Try.results26, go_sem, *]) rfl ⟨.slice none 0 0, by rw [HF.out.1, HF.out.2.1, HF.out.2.2.1], ?_, ?_⟩
    · rw [HF.out.2.2.2]; exact OwnG.nil _ _ _
    · exact (((S1.below.setCell (p := ⟨w.heap.size + 1, 0, none⟩) (by show w.heap.size ≤ w.heap.size + 1; omega) _).setCell (p := ⟨w.heap.size + 1, 1, none⟩) (by show w.heap.size ≤ w.heap.size + 1; omega) _).setCell (p := ⟨w.heap.size + 1, 2, none⟩) (by show w.heap.size ≤ w.heap.size + 1; omega) _).setCell (p := ⟨w.heap.size + 1, 3, none⟩) (by show w.heap.size ≤ w.heap.size + 1; omega) _
  | true =>
    have HQ := Lib.hid hq
    have HF := Lib.hid (rv_yes hq)
    have ok := sightB_iff.1 hq
    have HG := Lib.hid ok.grd
    have hD1 := ok.d1
    have hD9 := ok.d9
    have hN : N ≤ 20 := by rw [HN.out]; exact ok.n
    clear hq ok
    go_enter Try.func26, Try.ntmps26
    go_wp2_with fail
    refine (siGood_b D A B _ ts _ S0.rd HQ.out).mono ?_
    rintro e w1 ⟨rfl, hb1⟩
    have S1 := S0.next hb1
    have V1 := V0.next hb1
    have hz1 := V1.lt
    have hz0 := S1.lt
    clear q0 q1 q2 q3 r0 r1 r2 r3 rf0 rf1 rf2 rf3
    have S2 := S1.alloc (.cells #[.int .i64 D, .int .i64 B, .int .i64 A, .slice none 0 0] 25)
    have V2 := V1.next ((Below.refl _ _).alloc (Nat.le_refl _) (.cells #[.int .i64 D, .int .i64 B, .int .i64 A, .slice none 0 0] 25))
    have O2 := Var4.new w1 (.int .i64 D) (.int .i64 B) (.int .i64 A) (.slice none 0 0) 25
    have q0 := S1.q0
    have q1 := S1.q1
    have q2 := S1.q2
    have q3 := S1.q3
    go_wp2
    clear q0 q1 q2 q3
    have hzW : w1.heap.size < (w1.alloc (.cells #[.int .i64 D, .int .i64 B, .int .i64 A, .slice none 0 0] 25)).heap.size := by simp
    generalize w1.alloc (.cells #[.int .i64 D, .int .i64 B, .int .i64 A, .slice none 0 0] 25) = W at *
    generalize hbo : w1.heap.size = bo at *
    have hb2 : w.heap.size + 1 < bo := hz1
    go_loopw [5] (fun s5 wr => ∃ k : Nat, ∃ u : Value, k ≤ N ∧ s5 = .int .i64 ((N : Int) - 1 - k) ∧ SB w wr D A B a N p ts ∧ Var4 wr (w.heap.size + 1) (.int .i64 0) (.int .i64 0) (.int .i64 0) (.slice none 0 0) ∧ Var4 wr bo (.int .i64 D) (.int .i64 B) (.int .i64 A) u ∧ OwnR 72 c2 2 wr (bo + 1) u (rvT D ts k)) (fun s5 wr => (intOf s5 + 1).toNat)
    case atStart => exact ⟨0, _, Nat.zero_le _, by simp, S2, V2, O2, OwnR.nil _ _⟩
    case round =>
      clear S0 S1 S2 V0 V1 V2 O2
      obtain ⟨k, u, hk, rfl, SK, VK, OK, oK⟩ := hrel
      obtain ⟨au, cu, rfl, -⟩ := oK.rd.len
      have q0 := SK.q0
      have q1 := SK.q1
      have q2 := SK.q2
      have q3 := SK.q3
      have j0 := OK.c0
      have j1 := OK.c1
      have j2 := OK.c2
      have j3 := OK.c3
      have jf0 := OK.fz 0
      have jf1 := OK.fz 1
      have jf2 := OK.fz 2
      have jf3 := OK.fz 3
      by_cases hlt : k < N
      · obtain ⟨I, hI⟩ : ∃ I : Nat, (N : Int) - 1 - k = I := ⟨N - 1 - k, by omega⟩
        have hIN : I < N := by omega
        have hIk : I = N - 1 - k := by omega
        obtain ⟨g, off, rfl, hg, x0, x1⟩ := ground_at HR.out HN.out SK.below I hIN
        have hgr := HG.out I (by rw [← HN.out]; exact hIN)
        have E1 : Hid (rvT D ts (k + 1) = rvT D ts k ++ [⟨D - (rAt ts I).x0, (rAt ts I).x1⟩]) := Lib.hid (by rw [rvT_succ, ← HN.out, ← hIk])
        have HL2 : Hid ((rvT D ts k).length + ([⟨D - (rAt ts I).x0, (rAt ts I).x1⟩] : List T2).length ≤ 4194304) := Lib.hid (by rw [rvT_len]; simp; omega)
        have ew : IntKind.i64.wrap (D - (rAt ts I).x0) = D - (rAt ts I).x0 := IntWalk.i64_in _ (by omega)
        have HNE : Hid (∀ j, (Value.slice au (rvT D ts k).length cu).ownBlock = some j → bo + 1 ≤ j) := Lib.hid fun j hj => (oK.lt j hj).1
        have KG : Hid (∀ y : World, Below w.heap.size w y → y.cell? ⟨g, off + I * 2, none⟩ = some (.int .i64 (rAt ts I).x0) ∧ y.cell? ⟨g, off + I * 2 + 1, none⟩ = some (.int .i64 (rAt ts I).x1)) := Lib.hid fun y hy => by
          obtain ⟨g', off', he, -, c0, c1⟩ := ground_at HR.out HN.out hy I hIN
          simp only [Option.some.injEq, Addr.mk.injEq, and_true] at he
          obtain ⟨rfl, rfl⟩ := he
          exact ⟨c0, c1⟩
        clear hgr hIk
        rw [hI]
        generalize (rAt ts I).x0 = y0 at *
        generalize (rAt ts I).x1 = y1 at *
        have hkN : k + 1 ≤ N := hlt
        clear hlt
        go_wp2_with fail
        clear q0 q1 q2 q3 j0 j1 j2 j3 jf0 jf1 jf2 jf3 x0 x1
        generalize hL : rvT D ts k = L at *
        refine wp_region_held_drew (S := (fun w' => w'.cell? ⟨w.heap.size, 0, none⟩ = some (.int .i64 D) ∧ w'.cell? ⟨w.heap.size, 3, none⟩ = some (.slice (some ⟨g, off, none⟩) N p) ∧ w'.cell? ⟨g, off + I * 2, none⟩ = some (.int .i64 y0) ∧ w'.cell? ⟨g, off + I * 2 + 1, none⟩ = some (.int .i64 y1))) (by kernel_rfl) ?_ (fun hHeld => ?_)
        · exact ⟨SK.drew.q0, SK.drew.q3, KG.out _ SK.drew.below⟩
        refine wpAnyH_name ?_
        intro wS hwS
        rw [← hwS] at hHeld
        have hbS := below_named hwS
        clear hwS
        have hB0 := Below.refl wS.heap.size wS
        have OS := OK.next hbS
        have VS := VK.next hbS
        have SS := SK.next hbS
        have oS := oK.later hbS
        have j3 := OS.c3
        have KB : Hid (∀ y : World, SB w y D A B (some ⟨g, off, none⟩) N p ts → y.cell? ⟨w.heap.size, 0, none⟩ = some (.int .i64 D) ∧ y.cell? ⟨w.heap.size, 3, none⟩ = some (.slice (some ⟨g, off, none⟩) N p) ∧ y.cell? ⟨g, off + I * 2, none⟩ = some (.int .i64 y0) ∧ y.cell? ⟨g, off + I * 2 + 1, none⟩ = some (.int .i64 y1)) := Lib.hid fun y h => ⟨h.q0, h.q3, KG.out _ h.below⟩
        clear SK VK OK oK
        refine wpAnyH_take (i := 0) (oi := { dst := some 25, op := Go.Op.fieldAddr 25 (Go.Operand.tmp 4) 3, type := 0, pos := "l7_sight.go:138", after := #[], guard := none }) (v := ?_) rfl (by kernel_rfl) (by kernel_rfl) (by kernel_rfl) (fun _ _ _ h => h) (Or.inl ⟨by rfl, ?_⟩) (by assumption) ?_
        rotate_left
        · intro w hSw; (try dsimp only at hSw); go_simp; try with_reducible rfl
        try simp only [Act.put, List.setIfInBounds_toArray, List.set_cons_zero, List.set_cons_succ]
        refine wpAnyH_take (i := 2) (oi := { dst := some 27, op := Go.Op.fieldAddr 25 (Go.Operand.tmp 1) 0, type := 0, pos := "l7_sight.go:138", after := #[], guard := none }) (v := ?_) rfl (by kernel_rfl) (by kernel_rfl) (by kernel_rfl) (fun _ _ _ h => h) (Or.inl ⟨by rfl, ?_⟩) (by assumption) ?_
        rotate_left
        · intro w hSw; (try dsimp only at hSw); go_simp; try with_reducible rfl
        try simp only [Act.put, List.setIfInBounds_toArray, List.set_cons_zero, List.set_cons_succ]
        refine wpAnyH_take (i := 3) (oi := { dst := some 28, op := Go.Op.load 3 (Go.Operand.tmp 27), type := 3, pos := "l7_sight.go:138", after := #[{ on := 2, ground := Go.Ground.data }], guard := none }) (v := ?_) rfl (by kernel_rfl) (by kernel_rfl) (by kernel_rfl) (fun _ _ _ h => h) (Or.inl ⟨by rfl, ?_⟩) (by assumption) ?_
        rotate_left
        · intro w hSw; (try dsimp only at hSw); go_simp; try with_reducible rfl
        try simp only [Act.put, List.setIfInBounds_toArray, List.set_cons_zero, List.set_cons_succ]
        refine wpAnyH_take (i := 4) (oi := { dst := some 29, op := Go.Op.fieldAddr 25 (Go.Operand.tmp 1) 3, type := 0, pos := "l7_sight.go:138", after := #[], guard := none }) (v := ?_) rfl (by kernel_rfl) (by kernel_rfl) (by kernel_rfl) (fun _ _ _ h => h) (Or.inl ⟨by rfl, ?_⟩) (by assumption) ?_
        rotate_left
        · intro w hSw; (try dsimp only at hSw); go_simp; try with_reducible rfl
        try simp only [Act.put, List.setIfInBounds_toArray, List.set_cons_zero, List.set_cons_succ]
        refine wpAnyH_take (i := 5) (oi := { dst := some 30, op := Go.Op.load 23 (Go.Operand.tmp 29), type := 23, pos := "l7_sight.go:138", after := #[{ on := 4, ground := Go.Ground.data }], guard := none }) (v := ?_) rfl (by kernel_rfl) (by kernel_rfl) (by kernel_rfl) (fun _ _ _ h => h) (Or.inl ⟨by rfl, ?_⟩) (by assumption) ?_
        rotate_left
        · intro w hSw; (try dsimp only at hSw); go_simp; try with_reducible rfl
        try simp only [Act.put, List.setIfInBounds_toArray, List.set_cons_zero, List.set_cons_succ]
        refine wpAnyH_take (i := 6) (oi := { dst := some 31, op := Go.Op.move (Go.Operand.tmp 5), type := 3, pos := "l7_sight.go:138", after := #[], guard := none }) (v := ?_) rfl (by kernel_rfl) (by kernel_rfl) (by kernel_rfl) (fun _ _ _ h => h) (Or.inl ⟨by rfl, ?_⟩) (by assumption) ?_
        rotate_left
        · intro w hSw; (try dsimp only at hSw); go_simp; try with_reducible rfl
        try simp only [Act.put, List.setIfInBounds_toArray, List.set_cons_zero, List.set_cons_succ]
        refine wpAnyH_take (i := 7) (oi := { dst := some 32, op := Go.Op.indexAddr 23 (Go.Operand.tmp 30) (Go.Operand.tmp 31), type := 0, pos := "l7_sight.go:138", after := #[{ on := 5, ground := Go.Ground.data }, { on := 6, ground := Go.Ground.data }], guard := none }) (v := ?_) rfl (by kernel_rfl) (by kernel_rfl) (by kernel_rfl) (fun _ _ _ h => h) (Or.inl ⟨by rfl, ?_⟩) (by assumption) ?_
        rotate_left
        · intro w hSw; (try dsimp only at hSw); go_simp; try with_reducible rfl
        try simp only [Act.put, List.setIfInBounds_toArray, List.set_cons_zero, List.set_cons_succ]
        refine wpAnyH_take (i := 8) (oi := { dst := some 33, op := Go.Op.fieldAddr 72 (Go.Operand.tmp 32) 0, type := 0, pos := "l7_sight.go:138", after := #[{ on := 7, ground := Go.Ground.data }], guard := none }) (v := ?_) rfl (by kernel_rfl) (by kernel_rfl) (by kernel_rfl) (fun _ _ _ h => h) (Or.inl ⟨by rfl, ?_⟩) (by assumption) ?_
        rotate_left
        · intro w hSw; (try dsimp only at hSw); go_simp; try with_reducible rfl
        try simp only [Act.put, List.setIfInBounds_toArray, List.set_cons_zero, List.set_cons_succ]
        refine wpAnyH_take (i := 9) (oi := { dst := some 34, op := Go.Op.load 3 (Go.Operand.tmp 33), type := 3, pos := "l7_sight.go:138", after := #[{ on := 8, ground := Go.Ground.data }], guard := none }) (v := ?_) rfl (by kernel_rfl) (by kernel_rfl) (by kernel_rfl) (fun _ _ _ h => h) (Or.inl ⟨by rfl, ?_⟩) (by assumption) ?_
        rotate_left
        · intro w hSw; (try dsimp only at hSw); go_simp; try with_reducible rfl
        try simp only [Act.put, List.setIfInBounds_toArray, List.set_cons_zero, List.set_cons_succ]
        refine wpAnyH_take (i := 10) (oi := { dst := some 35, op := Go.Op.binOp Go.BinOp.sub 3 (Go.Operand.tmp 28) (Go.Operand.tmp 34) 3, type := 3, pos := "l7_sight.go:138", after := #[{ on := 3, ground := Go.Ground.data }, { on := 9, ground := Go.Ground.data }], guard := none }) (v := ?_) rfl (by kernel_rfl) (by kernel_rfl) (by kernel_rfl) (fun _ _ _ h => h) (Or.inl ⟨by rfl, ?_⟩) (by assumption) ?_
        rotate_left
        · intro w hSw; (try dsimp only at hSw); go_simp; try with_reducible rfl
        try simp only [Act.put, List.setIfInBounds_toArray, List.set_cons_zero, List.set_cons_succ]
        refine wpAnyH_take (i := 11) (oi := { dst := some 36, op := Go.Op.fieldAddr 25 (Go.Operand.tmp 1) 3, type := 0, pos := "l7_sight.go:138", after := #[], guard := none }) (v := ?_) rfl (by kernel_rfl) (by kernel_rfl) (by kernel_rfl) (fun _ _ _ h => h) (Or.inl ⟨by rfl, ?_⟩) (by assumption) ?_
        rotate_left
        · intro w hSw; (try dsimp only at hSw); go_simp; try with_reducible rfl
        try simp only [Act.put, List.setIfInBounds_toArray, List.set_cons_zero, List.set_cons_succ]
        refine wpAnyH_take (i := 12) (oi := { dst := some 37, op := Go.Op.load 23 (Go.Operand.tmp 36), type := 23, pos := "l7_sight.go:138", after := #[{ on := 11, ground := Go.Ground.data }], guard := none }) (v := ?_) rfl (by kernel_rfl) (by kernel_rfl) (by kernel_rfl) (fun _ _ _ h => h) (Or.inl ⟨by rfl, ?_⟩) (by assumption) ?_
        rotate_left
        · intro w hSw; (try dsimp only at hSw); go_simp; try with_reducible rfl
        try simp only [Act.put, List.setIfInBounds_toArray, List.set_cons_zero, List.set_cons_succ]
        refine wpAnyH_take (i := 13) (oi := { dst := some 38, op := Go.Op.move (Go.Operand.tmp 5), type := 3, pos := "l7_sight.go:138", after := #[], guard := none }) (v := ?_) rfl (by kernel_rfl) (by kernel_rfl) (by kernel_rfl) (fun _ _ _ h => h) (Or.inl ⟨by rfl, ?_⟩) (by assumption) ?_
        rotate_left
        · intro w hSw; (try dsimp only at hSw); go_simp; try with_reducible rfl
        try simp only [Act.put, List.setIfInBounds_toArray, List.set_cons_zero, List.set_cons_succ]
        refine wpAnyH_take (i := 14) (oi := { dst := some 39, op := Go.Op.indexAddr 23 (Go.Operand.tmp 37) (Go.Operand.tmp 38), type := 0, pos := "l7_sight.go:138", after := #[{ on := 12, ground := Go.Ground.data }, { on := 13, ground := Go.Ground.data }], guard := none }) (v := ?_) rfl (by kernel_rfl) (by kernel_rfl) (by kernel_rfl) (fun _ _ _ h => h) (Or.inl ⟨by rfl, ?_⟩) (by assumption) ?_
        rotate_left
        · intro w hSw; (try dsimp only at hSw); go_simp; try with_reducible rfl
        try simp only [Act.put, List.setIfInBounds_toArray, List.set_cons_zero, List.set_cons_succ]
        refine wpAnyH_take (i := 15) (oi := { dst := some 40, op := Go.Op.fieldAddr 72 (Go.Operand.tmp 39) 1, type := 0, pos := "l7_sight.go:138", after := #[{ on := 14, ground := Go.Ground.data }], guard := none }) (v := ?_) rfl (by kernel_rfl) (by kernel_rfl) (by kernel_rfl) (fun _ _ _ h => h) (Or.inl ⟨by rfl, ?_⟩) (by assumption) ?_
        rotate_left
        · intro w hSw; (try dsimp only at hSw); go_simp; try with_reducible rfl
        try simp only [Act.put, List.setIfInBounds_toArray, List.set_cons_zero, List.set_cons_succ]
        refine wpAnyH_take (i := 16) (oi := { dst := some 41, op := Go.Op.load 3 (Go.Operand.tmp 40), type := 3, pos := "l7_sight.go:138", after := #[{ on := 15, ground := Go.Ground.data }], guard := none }) (v := ?_) rfl (by kernel_rfl) (by kernel_rfl) (by kernel_rfl) (fun _ _ _ h => h) (Or.inl ⟨by rfl, ?_⟩) (by assumption) ?_
        rotate_left
        · intro w hSw; (try dsimp only at hSw); go_simp; try with_reducible rfl
        try simp only [Act.put, List.setIfInBounds_toArray, List.set_cons_zero, List.set_cons_succ]
        refine wpAnyH_take (i := 17) (oi := { dst := some 42, op := Go.Op.build 72 #[(0, Go.Operand.tmp 35), (1, Go.Operand.tmp 41)], type := 72, pos := "l7_sight.go:138", after := #[{ on := 10, ground := Go.Ground.data }, { on := 16, ground := Go.Ground.data }], guard := none }) (v := ?_) rfl (by kernel_rfl) (by kernel_rfl) (by kernel_rfl) (fun _ _ _ h => h) (Or.inl ⟨by rfl, ?_⟩) (by assumption) ?_
        rotate_left
        · intro w hSw; (try dsimp only at hSw); go_simp; try with_reducible rfl
        try simp only [Act.put, List.setIfInBounds_toArray, List.set_cons_zero, List.set_cons_succ]
        refine wpAnyH_ready (rs := [1, 18]) (by kernel_rfl) (by simp) ?_
        refine AllReadyH.cons (o := { dst := some 26, op := Go.Op.load 23 (Go.Operand.tmp 25), type := 23, pos := "l7_sight.go:138", after := #[{ on := 0, ground := Go.Ground.data }], guard := none }) rfl (fun K hK => ?_) ?_
        · go_simp
          refine hK.out _ _ ?_ (fun hHeld => ?_)
          · exact hHeld
          clear hK K
          try simp only [Act.put, List.setIfInBounds_toArray, List.set_cons_zero, List.set_cons_succ]
          refine wpAnyH_ready (rs := [18]) (by kernel_rfl) (by simp) ?_
          refine AllReadyH.cons (o := { dst := some 43, op := Go.Op.buildSlice 23 1 #[(0, Go.Operand.tmp 42)], type := 23, pos := "l7_sight.go:138", after := #[{ on := 17, ground := Go.Ground.data }], guard := none }) rfl (fun K hK => ?_) AllReadyH.nil
          go_simp
          refine hK.out _ _ ?_ (fun hHeld => ?_)
          · exact KB.out _ (SS.alloc _)
          clear hK K
          try simp only [Act.put, List.setIfInBounds_toArray, List.set_cons_zero, List.set_cons_succ]
          refine wpAnyH_name ?_
          intro w1 hw1
          rw [← hw1] at hHeld
          have hb1 := below_alloc hw1
          have z1 := lt_named hw1
          have b0 : w1.cell? ⟨wS.heap.size, 0, none⟩ = some (.int .i64 (D - y0)) := by rw [hw1]; simp [go_sem]
          have b1 : w1.cell? ⟨wS.heap.size, 1, none⟩ = some (.int .i64 y1) := by rw [hw1]; simp [go_sem]
          clear hw1
          have oS := oS.later hb1
          have j3 := bcell hb1 j3
          have OS := OS.next hb1
          have VS := VS.next hb1
          have SS := SS.next hb1
          have hB2 := hB0.trans (hb1.mono hB0.size)
          refine wpAnyH_ready (rs := [19]) (by kernel_rfl) (by simp) ?_
          refine AllReadyH.cons (o := { dst := some 44, op := Go.Op.call { callee := Go.Callee.builtin Go.Builtin.append, args := #[Go.Operand.tmp 26, Go.Operand.tmp 43], argTypes := #[23, 23] }, type := 23, pos := "l7_sight.go:138", after := #[{ on := 1, ground := Go.Ground.data }, { on := 18, ground := Go.Ground.data }], guard := none }) rfl (fun K hK => ?_) AllReadyH.nil
          have hzB : bo + 1 ≤ w1.heap.size := OS.lt
          refine step_append_GroundS (by rfl) _ _ (by rfl) (bo + 1) _ _ L [⟨D - y0, y1⟩] (by rfl) (by rfl) oS (RdR.one2 (c := 1) ⟨D - y0, y1⟩ (World.block_lt_of_cell? _ _ b0) (Nat.le_refl _) (by unfold maxLen; decide) b0 b1) HL2.out hzB ?_
          intro v3 w3 o2 hg2 hat3
          rw [← E1.out] at o2
          obtain ⟨ad2, cd2, rfl, -⟩ := o2.rd.len
          have hB2 := (Below.refl (bo + 1) _).grown hg2 hzB (fun i hi => (oS.lt i hi).1)
          have SS := SS.hi HR.out (by omega) hB2
          have VS := VS.below hB2 (by omega)
          have OS := OS.below hB2 (by omega)
          clear j3 b0 b1
          have j0 := OS.c0
          have j3 := OS.c3
          have jf := OS.fz 3
          try go_simp
          refine hK.out _ _ ?_ (fun hHeld => ?_)
          · exact KB.out _ SS
          clear hK K
          try simp only [Act.put, List.setIfInBounds_toArray, List.set_cons_zero, List.set_cons_succ]
          refine wpAnyH_take (i := 20) (oi := { dst := some 45, op := Go.Op.fieldAddr 25 (Go.Operand.tmp 4) 3, type := 0, pos := "l7_sight.go:138", after := #[{ on := 0, ground := Go.Ground.phase }, { on := 1, ground := Go.Ground.phase }, { on := 2, ground := Go.Ground.phase }, { on := 3, ground := Go.Ground.phase }, { on := 4, ground := Go.Ground.phase }, { on := 5, ground := Go.Ground.phase }, { on := 6, ground := Go.Ground.phase }, { on := 7, ground := Go.Ground.phase }, { on := 8, ground := Go.Ground.phase }, { on := 9, ground := Go.Ground.phase }, { on := 10, ground := Go.Ground.phase }, { on := 11, ground := Go.Ground.phase }, { on := 12, ground := Go.Ground.phase }, { on := 13, ground := Go.Ground.phase }, { on := 14, ground := Go.Ground.phase }, { on := 15, ground := Go.Ground.phase }, { on := 16, ground := Go.Ground.phase }, { on := 17, ground := Go.Ground.phase }, { on := 18, ground := Go.Ground.phase }, { on := 19, ground := Go.Ground.phase }], guard := none }) (v := ?_) rfl (by kernel_rfl) (by kernel_rfl) (by kernel_rfl) (fun _ _ _ h => h) (Or.inl ⟨by rfl, ?_⟩) (by assumption) ?_
          rotate_left
          · intro w hSw; (try dsimp only at hSw); go_simp; try with_reducible rfl
          try simp only [Act.put, List.setIfInBounds_toArray, List.set_cons_zero, List.set_cons_succ]
          refine wpAnyH_ready (rs := [21]) (by kernel_rfl) (by simp) ?_
          refine AllReadyH.cons (o := { dst := none, op := Go.Op.store 23 (Go.Operand.tmp 45) (Go.Operand.tmp 44), type := 0, pos := "l7_sight.go:138", after := #[{ on := 20, ground := Go.Ground.data }, { on := 19, ground := Go.Ground.data }, { on := 19, ground := Go.Ground.chain }, { on := 0, ground := Go.Ground.phase }, { on := 1, ground := Go.Ground.phase }, { on := 2, ground := Go.Ground.phase }, { on := 3, ground := Go.Ground.phase }, { on := 4, ground := Go.Ground.phase }, { on := 5, ground := Go.Ground.phase }, { on := 6, ground := Go.Ground.phase }, { on := 7, ground := Go.Ground.phase }, { on := 8, ground := Go.Ground.phase }, { on := 9, ground := Go.Ground.phase }, { on := 10, ground := Go.Ground.phase }, { on := 11, ground := Go.Ground.phase }, { on := 12, ground := Go.Ground.phase }, { on := 13, ground := Go.Ground.phase }, { on := 14, ground := Go.Ground.phase }, { on := 15, ground := Go.Ground.phase }, { on := 16, ground := Go.Ground.phase }, { on := 17, ground := Go.Ground.phase }, { on := 18, ground := Go.Ground.phase }, { on := 19, ground := Go.Ground.phase }], guard := none }) rfl (fun K hK => ?_) AllReadyH.nil
          have SZ := SS.setH HR.out (o := 3) (show w.heap.size < bo by omega) (.slice ad2 (rvT D ts (k + 1)).length cd2)
          go_simp
          refine hK.out _ _ ?_ (fun hHeld => ?_)
          · exact KB.out _ SZ
          clear hK K
          try simp only [Act.put, List.setIfInBounds_toArray, List.set_cons_zero, List.set_cons_succ]
          refine wpAnyH_done (by kernel_rfl) ?_ _
          have VZ := VS.set (o := 3) (u := .slice ad2 (rvT D ts (k + 1)).length cd2) (show bo ≠ w.heap.size + 1 by omega)
          have OZ := OS.put3 (u := .slice ad2 (rvT D ts (k + 1)).length cd2)
          have o3 := o2.setFar (b := bo) (o := 3) (x := .slice ad2 (rvT D ts (k + 1)).length cd2) (fun e => by have := (o2.lt _ e).1; omega)
          go_wp2
          go_roundw
          case rel => exact ⟨k + 1, _, by omega, by congr 1; push_cast; omega, SZ, VZ, OZ, o3⟩
          case measure => simp only [intOf]; omega
        refine AllReadyH.cons (o := { dst := some 43, op := Go.Op.buildSlice 23 1 #[(0, Go.Operand.tmp 42)], type := 23, pos := "l7_sight.go:138", after := #[{ on := 17, ground := Go.Ground.data }], guard := none }) rfl (fun K hK => ?_) AllReadyH.nil
        go_simp
        refine hK.out _ _ ?_ (fun hHeld => ?_)
        · exact KB.out _ (SS.alloc _)
        clear hK K
        try simp only [Act.put, List.setIfInBounds_toArray, List.set_cons_zero, List.set_cons_succ]
        refine wpAnyH_name ?_
        intro w4 hw4
        rw [← hw4] at hHeld
        have hb4 := below_alloc hw4
        have z4 := lt_named hw4
        have b0 : w4.cell? ⟨wS.heap.size, 0, none⟩ = some (.int .i64 (D - y0)) := by rw [hw4]; simp [go_sem]
        have b1 : w4.cell? ⟨wS.heap.size, 1, none⟩ = some (.int .i64 y1) := by rw [hw4]; simp [go_sem]
        clear hw4
        have oS := oS.later hb4
        have j3 := bcell hb4 j3
        have OS := OS.next hb4
        have VS := VS.next hb4
        have SS := SS.next hb4
        have hB5 := hB0.trans (hb4.mono hB0.size)
        refine wpAnyH_ready (rs := [1]) (by kernel_rfl) (by simp) ?_
        refine AllReadyH.cons (o := { dst := some 26, op := Go.Op.load 23 (Go.Operand.tmp 25), type := 23, pos := "l7_sight.go:138", after := #[{ on := 0, ground := Go.Ground.data }], guard := none }) rfl (fun K hK => ?_) AllReadyH.nil
        go_simp
        refine hK.out _ _ ?_ (fun hHeld => ?_)
        · exact hHeld
        clear hK K
        try simp only [Act.put, List.setIfInBounds_toArray, List.set_cons_zero, List.set_cons_succ]
        refine wpAnyH_ready (rs := [19]) (by kernel_rfl) (by simp) ?_
        refine AllReadyH.cons (o := { dst := some 44, op := Go.Op.call { callee := Go.Callee.builtin Go.Builtin.append, args := #[Go.Operand.tmp 26, Go.Operand.tmp 43], argTypes := #[23, 23] }, type := 23, pos := "l7_sight.go:138", after := #[{ on := 1, ground := Go.Ground.data }, { on := 18, ground := Go.Ground.data }], guard := none }) rfl (fun K hK => ?_) AllReadyH.nil
        have hzB : bo + 1 ≤ w4.heap.size := OS.lt
        refine step_append_GroundS (by rfl) _ _ (by rfl) (bo + 1) _ _ L [⟨D - y0, y1⟩] (by rfl) (by rfl) oS (RdR.one2 (c := 1) ⟨D - y0, y1⟩ (World.block_lt_of_cell? _ _ b0) (Nat.le_refl _) (by unfold maxLen; decide) b0 b1) HL2.out hzB ?_
        intro v6 w6 o2 hg2 hat6
        rw [← E1.out] at o2
        obtain ⟨ad2, cd2, rfl, -⟩ := o2.rd.len
        have hB2 := (Below.refl (bo + 1) _).grown hg2 hzB (fun i hi => (oS.lt i hi).1)
        have SS := SS.hi HR.out (by omega) hB2
        have VS := VS.below hB2 (by omega)
        have OS := OS.below hB2 (by omega)
        clear j3 b0 b1
        have j0 := OS.c0
        have j3 := OS.c3
        have jf := OS.fz 3
        try go_simp
        refine hK.out _ _ ?_ (fun hHeld => ?_)
        · exact KB.out _ SS
        clear hK K
        try simp only [Act.put, List.setIfInBounds_toArray, List.set_cons_zero, List.set_cons_succ]
        refine wpAnyH_take (i := 20) (oi := { dst := some 45, op := Go.Op.fieldAddr 25 (Go.Operand.tmp 4) 3, type := 0, pos := "l7_sight.go:138", after := #[{ on := 0, ground := Go.Ground.phase }, { on := 1, ground := Go.Ground.phase }, { on := 2, ground := Go.Ground.phase }, { on := 3, ground := Go.Ground.phase }, { on := 4, ground := Go.Ground.phase }, { on := 5, ground := Go.Ground.phase }, { on := 6, ground := Go.Ground.phase }, { on := 7, ground := Go.Ground.phase }, { on := 8, ground := Go.Ground.phase }, { on := 9, ground := Go.Ground.phase }, { on := 10, ground := Go.Ground.phase }, { on := 11, ground := Go.Ground.phase }, { on := 12, ground := Go.Ground.phase }, { on := 13, ground := Go.Ground.phase }, { on := 14, ground := Go.Ground.phase }, { on := 15, ground := Go.Ground.phase }, { on := 16, ground := Go.Ground.phase }, { on := 17, ground := Go.Ground.phase }, { on := 18, ground := Go.Ground.phase }, { on := 19, ground := Go.Ground.phase }], guard := none }) (v := ?_) rfl (by kernel_rfl) (by kernel_rfl) (by kernel_rfl) (fun _ _ _ h => h) (Or.inl ⟨by rfl, ?_⟩) (by assumption) ?_
        rotate_left
        · intro w hSw; (try dsimp only at hSw); go_simp; try with_reducible rfl
        try simp only [Act.put, List.setIfInBounds_toArray, List.set_cons_zero, List.set_cons_succ]
        refine wpAnyH_ready (rs := [21]) (by kernel_rfl) (by simp) ?_
        refine AllReadyH.cons (o := { dst := none, op := Go.Op.store 23 (Go.Operand.tmp 45) (Go.Operand.tmp 44), type := 0, pos := "l7_sight.go:138", after := #[{ on := 20, ground := Go.Ground.data }, { on := 19, ground := Go.Ground.data }, { on := 19, ground := Go.Ground.chain }, { on := 0, ground := Go.Ground.phase }, { on := 1, ground := Go.Ground.phase }, { on := 2, ground := Go.Ground.phase }, { on := 3, ground := Go.Ground.phase }, { on := 4, ground := Go.Ground.phase }, { on := 5, ground := Go.Ground.phase }, { on := 6, ground := Go.Ground.phase }, { on := 7, ground := Go.Ground.phase }, { on := 8, ground := Go.Ground.phase }, { on := 9, ground := Go.Ground.phase }, { on := 10, ground := Go.Ground.phase }, { on := 11, ground := Go.Ground.phase }, { on := 12, ground := Go.Ground.phase }, { on := 13, ground := Go.Ground.phase }, { on := 14, ground := Go.Ground.phase }, { on := 15, ground := Go.Ground.phase }, { on := 16, ground := Go.Ground.phase }, { on := 17, ground := Go.Ground.phase }, { on := 18, ground := Go.Ground.phase }, { on := 19, ground := Go.Ground.phase }], guard := none }) rfl (fun K hK => ?_) AllReadyH.nil
        have SZ := SS.setH HR.out (o := 3) (show w.heap.size < bo by omega) (.slice ad2 (rvT D ts (k + 1)).length cd2)
        go_simp
        refine hK.out _ _ ?_ (fun hHeld => ?_)
        · exact KB.out _ SZ
        clear hK K
        try simp only [Act.put, List.setIfInBounds_toArray, List.set_cons_zero, List.set_cons_succ]
        refine wpAnyH_done (by kernel_rfl) ?_ _
        have VZ := VS.set (o := 3) (u := .slice ad2 (rvT D ts (k + 1)).length cd2) (show bo ≠ w.heap.size + 1 by omega)
        have OZ := OS.put3 (u := .slice ad2 (rvT D ts (k + 1)).length cd2)
        have o3 := o2.setFar (b := bo) (o := 3) (x := .slice ad2 (rvT D ts (k + 1)).length cd2) (fun e => by have := (o2.lt _ e).1; omega)
        go_wp2
        go_roundw
        case rel => exact ⟨k + 1, _, by omega, by congr 1; push_cast; omega, SZ, VZ, OZ, o3⟩
        case measure => simp only [intOf]; omega
      · obtain rfl : k = N := by omega
        have hneg : ¬ (0 : Int) ≤ (k : Int) - 1 - k := by omega
        have hwN := SK.lt
        have HNV : (Value.slice au (rvT D ts k).length cu).ownBlock ≠ some (w.heap.size + 1) := fun e => by have := (oK.lt _ e).1; omega
        have r0 := VK.c0
        have r1 := VK.c1
        have r2 := VK.c2
        have r3 := VK.c3
        have rf0 := VK.fz 0
        have rf1 := VK.fz 1
        have rf2 := VK.fz 2
        have rf3 := VK.fz 3
        go_wp2
        refine bodyPost_ret (v := .tuple #[.agg #[.int .i64 D, .int .i64 B, .int .i64 A, .slice au (rvT D ts k).length cu], .bool true]) (by simp [results, Try.results26, go_sem, *]) rfl ⟨.slice au (rvT D ts k).length cu, by rw [HF.out.1, HF.out.2.1, HF.out.2.2.1], ?_, ?_⟩
        · rw [HF.out.2.2.2, ← HN.out]
          have p1 := (((oK.setFar (b := w.heap.size + 1) (o := 0) (x := .int .i64 D) HNV).setFar (b := w.heap.size + 1) (o := 1) (x := .int .i64 B) HNV).setFar (b := w.heap.size + 1) (o := 2) (x := .int .i64 A) HNV).setFar (b := w.heap.size + 1) (o := 3) (x := .slice au (rvT D ts k).length cu) HNV
          exact ⟨p1.base (by omega), fun j hj => (p1.lt j hj).2⟩
        · exact (((SK.below.setCell (p := ⟨w.heap.size + 1, 0, none⟩) (by show w.heap.size ≤ w.heap.size + 1; omega) _).setCell (p := ⟨w.heap.size + 1, 1, none⟩) (by show w.heap.size ≤ w.heap.size + 1; omega) _).setCell (p := ⟨w.heap.size + 1, 2, none⟩) (by show w.heap.size ≤ w.heap.size + 1; omega) _).setCell (p := ⟨w.heap.size + 1, 3, none⟩) (by show w.heap.size ≤ w.heap.size + 1; omega) _
end Go.Proofs.Ytkdmjeonlghnjaa
