/- Drawing the arguments of the functions of chapter 7 from bytes: loose contracts. Written by a generator of this claim's author. -/
import Derived.Test.YtkdmjeonlghnjaaDs2
namespace Go.Proofs.Ytkdmjeonlghnjaa
open Go.RowKit Go.Sort
set_option linter.unusedSimpArgs false
set_option linter.unusedVariables false

theorem Kp.blw {p n : Nat} {W W' : World} (h : Kp p (p + 1) W W') (hn : n ≤ p) (hp : p < W.heap.size) : Below n W W' := (h.below (by omega)).mono hn
theorem OwnR.kq {T : Type} {cl : T → Nat → Value} {k : Nat} {e : TypeId} {w w' : World} {B p : Nat} {v : Value} {ts : List T} (h : OwnR e cl k w B v ts) (hk : Kp p (p + 1) w w') (hp : p < B) : OwnR e cl k w' B v ts :=
  row_at h fun j hj => hk.block j (h.lt j hj).2 (.inr (by have := (h.lt j hj).1; omega))
theorem RdU.any {w : World} {C C' : Nat} {v : Value} {n : Nat} (h : RdU w C v n) (hC : C ≤ C') : RdU w C' v n := ⟨h.1, h.2.imp id fun ⟨g, off, cap, hv, hg, hc⟩ => ⟨g, off, cap, hv, by omega, hc⟩⟩
/-- The cursor as it is made. -/
theorem Cur.new {w : World} {a : Option Addr} {n cap : Nat} (h : RdU w w.heap.size (.slice a n cap) n) (t : TypeId) : Cur (w.alloc (.cells #[.slice a n cap, .int .i64 0, .int .u64 0] t)) w.heap.size 0 :=
  ⟨by simp, a, n, cap, 0, 0, by simp [go_sem], h.below ((Below.refl _ _).alloc (Nat.le_refl _) _), by simp [go_sem], Nat.le_refl _, by simp [go_sem], by omega, by omega, by simp [go_sem], by simp [go_sem]⟩

set_option maxHeartbeats 1000000 in
theorem bend_draw (p K : Nat) (w : World) (hC : Cur w p K) (hK : K ≤ 700000) :
    Calls Try.prog 52 #[.pointer (some ⟨p, 0, none⟩)] w fun e w' => ∃ n : Int, e = .returned (.int .i64 n) ∧ (-1 ≤ n ∧ n ≤ 4) ∧ Cur w' p (K + 4) ∧ Kp p (p + 1) w w' := by
  go_enter Try.func52, Try.ntmps52
  go_wp2_with fail
  refine (among_list p K [-1, 4] w hC (by omega) (by simp) (by simp) 3).mono ?_
  rintro e w1 ⟨z, hz, rfl, hC1, hk1⟩
  simp only [List.mem_cons, List.not_mem_nil, or_false] at hz
  go_wp2_with fail
  refine (among_list p (K + 2) [0, 1, 2, 3, 0, z] w1 hC1 (by omega) (by simp) (by simp) 3).mono ?_
  rintro e w2 ⟨y, hy, rfl, hC2, hk2⟩
  simp only [List.mem_cons, List.not_mem_nil, or_false] at hy
  go_wp2
  go_ret
  exact ⟨y, rfl, by omega, hC2, hk1.trans hk2⟩
set_option maxRecDepth 100000 in
set_option maxHeartbeats 1000000 in
theorem drawSees (a : Option Addr) (n cap : Nat) (w : World) (hr : RdU w w.heap.size (.slice a n cap) n) :
    Calls Try.prog 15 #[.slice a n cap] w fun e w' => ∃ (D A B : Int) (u : Value) (ts : List T2) (m : Int), e = .returned (.tuple #[.agg #[.int .i64 D, .int .i64 A, .int .i64 B, u], .int .i64 m]) ∧ OwnR 72 c2 2 w' w.heap.size u ts ∧ ts.length ≤ 40 ∧ (-1 ≤ m ∧ m ≤ 4) ∧ Below w.heap.size w w' := by
  have al := (Below.refl w.heap.size w).alloc (Nat.le_refl _) (.cells #[.int .i64 0, .int .i64 0, .int .i64 0, .slice none 0 0] 25)
  have R0 := Var4.new w (.int .i64 0) (.int .i64 0) (.int .i64 0) (.slice none 0 0) 25
  have c0 := Cur.new ((hr.below al).any (by simp)) 66 (w := w.alloc (.cells #[.int .i64 0, .int .i64 0, .int .i64 0, .slice none 0 0] 25))
  have al2 := (Below.refl (w.alloc (.cells #[.int .i64 0, .int .i64 0, .int .i64 0, .slice none 0 0] 25)).heap.size (w.alloc (.cells #[.int .i64 0, .int .i64 0, .int .i64 0, .slice none 0 0] 25))).alloc (Nat.le_refl _) (.cells #[.slice a n cap, .int .i64 0, .int .u64 0] 66)
  have hB0 := al.trans (al2.mono (by simp))
  replace R0 := R0.next al2
  simp only [World.size_alloc] at c0
  have hz0 : w.heap.size + 1 < ((w.alloc (.cells #[.int .i64 0, .int .i64 0, .int .i64 0, .slice none 0 0] 25)).alloc (.cells #[.slice a n cap, .int .i64 0, .int .u64 0] 66)).heap.size := by simp
  clear al al2 hr
  go_enter Try.func15, Try.ntmps15
  go_wp2_with fail
  generalize (w.alloc (.cells #[.int .i64 0, .int .i64 0, .int .i64 0, .slice none 0 0] 25)).alloc (.cells #[.slice a n cap, .int .i64 0, .int .u64 0] 66) = w0 at *
  refine (sight_draw (w.heap.size + 1) 0 w0 c0 (by omega)).mono ?_
  rintro e w1 ⟨D, A, B, u, ts, rfl, ho, hl, hC1, hk1⟩
  obtain ⟨au, cu, rfl, -⟩ := ho.rd.len
  replace R0 := R0.kq hk1 (.inl (Nat.lt_succ_self _))
  have hz1 := hk1.size
  go_wp2_with fail
  refine (bend_draw (w.heap.size + 1) _ w1 hC1 (by omega)).mono ?_
  rintro e w2 ⟨m, rfl, hm, hC2, hk2⟩
  replace R0 := R0.kq hk2 (.inl (Nat.lt_succ_self _))
  replace ho := ho.kq hk2 hz0
  have hz2 := hk2.size
  have hB := (hB0.trans (hk1.blw (by omega) (by omega))).trans (hk2.blw (by omega) (by omega))
  have s0 := R0.c0
  have s1 := R0.c1
  have s2 := R0.c2
  have s3 := R0.c3
  have sf0 := R0.fz 0
  have sf1 := R0.fz 1
  have sf2 := R0.fz 2
  have sf3 := R0.fz 3
  have HNW : (Value.slice au ts.length cu).ownBlock ≠ some w.heap.size := fun e => by have := (ho.lt _ e).1; omega
  have hR := ((((ho.setFar (b := w.heap.size) (o := 0) (x := .int .i64 D) HNW).setFar (b := w.heap.size) (o := 1) (x := .int .i64 A) HNW).setFar (b := w.heap.size) (o := 2) (x := .int .i64 B) HNW).setFar (b := w.heap.size) (o := 3) (x := .slice au ts.length cu) HNW).base (B' := w.heap.size) (by omega)
  have hlS := R0.lt
  go_wp2
  refine bodyPost_ret (v := .tuple #[.agg #[.int .i64 D, .int .i64 A, .int .i64 B, .slice au ts.length cu], .int .i64 m]) (by simp [results, Try.results15, go_sem, *]) rfl ⟨_, _, _, _, _, _, rfl, hR, hl, hm, ?_⟩
  exact (((hB.setCell (p := ⟨w.heap.size, 0, none⟩) (Nat.le_refl _) _).setCell (p := ⟨w.heap.size, 1, none⟩) (Nat.le_refl _) _).setCell (p := ⟨w.heap.size, 2, none⟩) (Nat.le_refl _) _).setCell (p := ⟨w.heap.size, 3, none⟩) (Nat.le_refl _) _
set_option maxRecDepth 100000 in
set_option maxHeartbeats 1000000 in
theorem drawLeastHeight (a : Option Addr) (n cap : Nat) (w : World) (hr : RdU w w.heap.size (.slice a n cap) n) :
    Calls Try.prog 33 #[.slice a n cap] w fun e w' => ∃ (D A B : Int) (u : Value) (ts : List T2) (m : Int), e = .returned (.tuple #[.agg #[.int .i64 D, .int .i64 A, .int .i64 B, u], .int .i64 m]) ∧ OwnR 72 c2 2 w' w.heap.size u ts ∧ ts.length ≤ 40 ∧ (-1 ≤ m ∧ m ≤ 4) ∧ Below w.heap.size w w' := by
  have al := (Below.refl w.heap.size w).alloc (Nat.le_refl _) (.cells #[.int .i64 0, .int .i64 0, .int .i64 0, .slice none 0 0] 25)
  have R0 := Var4.new w (.int .i64 0) (.int .i64 0) (.int .i64 0) (.slice none 0 0) 25
  have hr1 := (hr.below al).any (C' := (w.alloc (.cells #[.int .i64 0, .int .i64 0, .int .i64 0, .slice none 0 0] 25)).heap.size) (by simp)
  have hz0 : w.heap.size < (w.alloc (.cells #[.int .i64 0, .int .i64 0, .int .i64 0, .slice none 0 0] 25)).heap.size := by simp
  clear hr
  go_enter Try.func33, Try.ntmps33
  go_wp2_with fail
  generalize w.alloc (.cells #[.int .i64 0, .int .i64 0, .int .i64 0, .slice none 0 0] 25) = w0 at *
  refine (drawSees a n cap w0 hr1).mono ?_
  rintro e w1 ⟨D, A, B, u, ts, m, rfl, ho, hl, hm, hb1⟩
  replace R0 := R0.next hb1
  have hB := al.trans (hb1.mono al.size)
  obtain ⟨au, cu, rfl, -⟩ := ho.rd.len
  have s0 := R0.c0
  have s1 := R0.c1
  have s2 := R0.c2
  have s3 := R0.c3
  have sf0 := R0.fz 0
  have sf1 := R0.fz 1
  have sf2 := R0.fz 2
  have sf3 := R0.fz 3
  have HNW : (Value.slice au ts.length cu).ownBlock ≠ some w.heap.size := fun e => by have := (ho.lt _ e).1; omega
  have hR := ((((ho.setFar (b := w.heap.size) (o := 0) (x := .int .i64 D) HNW).setFar (b := w.heap.size) (o := 1) (x := .int .i64 A) HNW).setFar (b := w.heap.size) (o := 2) (x := .int .i64 B) HNW).setFar (b := w.heap.size) (o := 3) (x := .slice au ts.length cu) HNW).base (B' := w.heap.size) (by omega)
  have hlS := R0.lt
  go_wp2
  refine bodyPost_ret (v := .tuple #[.agg #[.int .i64 D, .int .i64 A, .int .i64 B, .slice au ts.length cu], .int .i64 m]) (by simp [results, Try.results33, go_sem, *]) rfl ⟨_, _, _, _, _, _, rfl, hR, hl, hm, ?_⟩
  exact (((hB.setCell (p := ⟨w.heap.size, 0, none⟩) (Nat.le_refl _) _).setCell (p := ⟨w.heap.size, 1, none⟩) (Nat.le_refl _) _).setCell (p := ⟨w.heap.size, 2, none⟩) (Nat.le_refl _) _).setCell (p := ⟨w.heap.size, 3, none⟩) (Nat.le_refl _) _
set_option maxRecDepth 100000 in
set_option maxHeartbeats 1000000 in
theorem drawLeastRaise (a : Option Addr) (n cap : Nat) (w : World) (hr : RdU w w.heap.size (.slice a n cap) n) :
    Calls Try.prog 36 #[.slice a n cap] w fun e w' => ∃ (D A B : Int) (u : Value) (ts : List T2) (m : Int), e = .returned (.tuple #[.agg #[.int .i64 D, .int .i64 A, .int .i64 B, u], .int .i64 m]) ∧ OwnR 72 c2 2 w' w.heap.size u ts ∧ ts.length ≤ 40 ∧ (-1 ≤ m ∧ m ≤ 4) ∧ Below w.heap.size w w' := by
  have al := (Below.refl w.heap.size w).alloc (Nat.le_refl _) (.cells #[.int .i64 0, .int .i64 0, .int .i64 0, .slice none 0 0] 25)
  have R0 := Var4.new w (.int .i64 0) (.int .i64 0) (.int .i64 0) (.slice none 0 0) 25
  have hr1 := (hr.below al).any (C' := (w.alloc (.cells #[.int .i64 0, .int .i64 0, .int .i64 0, .slice none 0 0] 25)).heap.size) (by simp)
  have hz0 : w.heap.size < (w.alloc (.cells #[.int .i64 0, .int .i64 0, .int .i64 0, .slice none 0 0] 25)).heap.size := by simp
  clear hr
  go_enter Try.func36, Try.ntmps36
  go_wp2_with fail
  generalize w.alloc (.cells #[.int .i64 0, .int .i64 0, .int .i64 0, .slice none 0 0] 25) = w0 at *
  refine (drawSees a n cap w0 hr1).mono ?_
  rintro e w1 ⟨D, A, B, u, ts, m, rfl, ho, hl, hm, hb1⟩
  replace R0 := R0.next hb1
  have hB := al.trans (hb1.mono al.size)
  obtain ⟨au, cu, rfl, -⟩ := ho.rd.len
  have s0 := R0.c0
  have s1 := R0.c1
  have s2 := R0.c2
  have s3 := R0.c3
  have sf0 := R0.fz 0
  have sf1 := R0.fz 1
  have sf2 := R0.fz 2
  have sf3 := R0.fz 3
  have HNW : (Value.slice au ts.length cu).ownBlock ≠ some w.heap.size := fun e => by have := (ho.lt _ e).1; omega
  have hR := ((((ho.setFar (b := w.heap.size) (o := 0) (x := .int .i64 D) HNW).setFar (b := w.heap.size) (o := 1) (x := .int .i64 A) HNW).setFar (b := w.heap.size) (o := 2) (x := .int .i64 B) HNW).setFar (b := w.heap.size) (o := 3) (x := .slice au ts.length cu) HNW).base (B' := w.heap.size) (by omega)
  have hlS := R0.lt
  go_wp2
  refine bodyPost_ret (v := .tuple #[.agg #[.int .i64 D, .int .i64 A, .int .i64 B, .slice au ts.length cu], .int .i64 m]) (by simp [results, Try.results36, go_sem, *]) rfl ⟨_, _, _, _, _, _, rfl, hR, hl, hm, ?_⟩
  exact (((hB.setCell (p := ⟨w.heap.size, 0, none⟩) (Nat.le_refl _) _).setCell (p := ⟨w.heap.size, 1, none⟩) (Nat.le_refl _) _).setCell (p := ⟨w.heap.size, 2, none⟩) (Nat.le_refl _) _).setCell (p := ⟨w.heap.size, 3, none⟩) (Nat.le_refl _) _
set_option maxRecDepth 100000 in
set_option maxHeartbeats 1000000 in
theorem drawIsSight (a : Option Addr) (n cap : Nat) (w : World) (hr : RdU w w.heap.size (.slice a n cap) n) :
    Calls Try.prog 63 #[.slice a n cap] w fun e w' => ∃ (D A B : Int) (u : Value) (ts : List T2), e = .returned (.agg #[.int .i64 D, .int .i64 A, .int .i64 B, u]) ∧ OwnR 72 c2 2 w' w.heap.size u ts ∧ ts.length ≤ 40 ∧ Below w.heap.size w w' := by
  have al := (Below.refl w.heap.size w).alloc (Nat.le_refl _) (.cells #[.int .i64 0, .int .i64 0, .int .i64 0, .slice none 0 0] 25)
  have R0 := Var4.new w (.int .i64 0) (.int .i64 0) (.int .i64 0) (.slice none 0 0) 25
  have c0 := Cur.new ((hr.below al).any (by simp)) 66 (w := w.alloc (.cells #[.int .i64 0, .int .i64 0, .int .i64 0, .slice none 0 0] 25))
  have al2 := (Below.refl (w.alloc (.cells #[.int .i64 0, .int .i64 0, .int .i64 0, .slice none 0 0] 25)).heap.size (w.alloc (.cells #[.int .i64 0, .int .i64 0, .int .i64 0, .slice none 0 0] 25))).alloc (Nat.le_refl _) (.cells #[.slice a n cap, .int .i64 0, .int .u64 0] 66)
  have hB0 := al.trans (al2.mono (by simp))
  replace R0 := R0.next al2
  simp only [World.size_alloc] at c0
  have hz0 : w.heap.size + 1 < ((w.alloc (.cells #[.int .i64 0, .int .i64 0, .int .i64 0, .slice none 0 0] 25)).alloc (.cells #[.slice a n cap, .int .i64 0, .int .u64 0] 66)).heap.size := by simp
  clear al al2 hr
  go_enter Try.func63, Try.ntmps63
  go_wp2_with fail
  generalize (w.alloc (.cells #[.int .i64 0, .int .i64 0, .int .i64 0, .slice none 0 0] 25)).alloc (.cells #[.slice a n cap, .int .i64 0, .int .u64 0] 66) = w0 at *
  refine (sight_draw (w.heap.size + 1) 0 w0 c0 (by omega)).mono ?_
  rintro e w1 ⟨D, A, B, u, ts, rfl, ho, hl, hC1, hk1⟩
  obtain ⟨au, cu, rfl, -⟩ := ho.rd.len
  replace R0 := R0.kq hk1 (.inl (Nat.lt_succ_self _))
  have hz1 := hk1.size
  have hB := hB0.trans (hk1.blw (by omega) (by omega))
  have s0 := R0.c0
  have s1 := R0.c1
  have s2 := R0.c2
  have s3 := R0.c3
  have sf0 := R0.fz 0
  have sf1 := R0.fz 1
  have sf2 := R0.fz 2
  have sf3 := R0.fz 3
  have HNW : (Value.slice au ts.length cu).ownBlock ≠ some w.heap.size := fun e => by have := (ho.lt _ e).1; omega
  have hR := ((((ho.setFar (b := w.heap.size) (o := 0) (x := .int .i64 D) HNW).setFar (b := w.heap.size) (o := 1) (x := .int .i64 A) HNW).setFar (b := w.heap.size) (o := 2) (x := .int .i64 B) HNW).setFar (b := w.heap.size) (o := 3) (x := .slice au ts.length cu) HNW).base (B' := w.heap.size) (by omega)
  have hlS := R0.lt
  go_wp2
  refine bodyPost_ret (v := .agg #[.int .i64 D, .int .i64 A, .int .i64 B, .slice au ts.length cu]) (by simp [results, Try.results63, go_sem, *]) rfl ⟨_, _, _, _, _, rfl, hR, hl, ?_⟩
  exact (((hB.setCell (p := ⟨w.heap.size, 0, none⟩) (Nat.le_refl _) _).setCell (p := ⟨w.heap.size, 1, none⟩) (Nat.le_refl _) _).setCell (p := ⟨w.heap.size, 2, none⟩) (Nat.le_refl _) _).setCell (p := ⟨w.heap.size, 3, none⟩) (Nat.le_refl _) _
set_option maxRecDepth 100000 in
set_option maxHeartbeats 1000000 in
theorem drawSightBounds (a : Option Addr) (n cap : Nat) (w : World) (hr : RdU w w.heap.size (.slice a n cap) n) :
    Calls Try.prog 22 #[.slice a n cap] w fun e w' => ∃ (D A B : Int) (u : Value) (ts : List T2), e = .returned (.agg #[.int .i64 D, .int .i64 A, .int .i64 B, u]) ∧ OwnR 72 c2 2 w' w.heap.size u ts ∧ ts.length ≤ 40 ∧ Below w.heap.size w w' := by
  have al := (Below.refl w.heap.size w).alloc (Nat.le_refl _) (.cells #[.int .i64 0, .int .i64 0, .int .i64 0, .slice none 0 0] 25)
  have R0 := Var4.new w (.int .i64 0) (.int .i64 0) (.int .i64 0) (.slice none 0 0) 25
  have hr1 := (hr.below al).any (C' := (w.alloc (.cells #[.int .i64 0, .int .i64 0, .int .i64 0, .slice none 0 0] 25)).heap.size) (by simp)
  have hz0 : w.heap.size < (w.alloc (.cells #[.int .i64 0, .int .i64 0, .int .i64 0, .slice none 0 0] 25)).heap.size := by simp
  clear hr
  go_enter Try.func22, Try.ntmps22
  go_wp2_with fail
  generalize w.alloc (.cells #[.int .i64 0, .int .i64 0, .int .i64 0, .slice none 0 0] 25) = w0 at *
  refine (drawIsSight a n cap w0 hr1).mono ?_
  rintro e w1 ⟨D, A, B, u, ts, rfl, ho, hl, hb1⟩
  replace R0 := R0.next hb1
  have hB := al.trans (hb1.mono al.size)
  obtain ⟨au, cu, rfl, -⟩ := ho.rd.len
  have s0 := R0.c0
  have s1 := R0.c1
  have s2 := R0.c2
  have s3 := R0.c3
  have sf0 := R0.fz 0
  have sf1 := R0.fz 1
  have sf2 := R0.fz 2
  have sf3 := R0.fz 3
  have HNW : (Value.slice au ts.length cu).ownBlock ≠ some w.heap.size := fun e => by have := (ho.lt _ e).1; omega
  have hR := ((((ho.setFar (b := w.heap.size) (o := 0) (x := .int .i64 D) HNW).setFar (b := w.heap.size) (o := 1) (x := .int .i64 A) HNW).setFar (b := w.heap.size) (o := 2) (x := .int .i64 B) HNW).setFar (b := w.heap.size) (o := 3) (x := .slice au ts.length cu) HNW).base (B' := w.heap.size) (by omega)
  have hlS := R0.lt
  go_wp2
  refine bodyPost_ret (v := .agg #[.int .i64 D, .int .i64 A, .int .i64 B, .slice au ts.length cu]) (by simp [results, Try.results22, go_sem, *]) rfl ⟨_, _, _, _, _, rfl, hR, hl, ?_⟩
  exact (((hB.setCell (p := ⟨w.heap.size, 0, none⟩) (Nat.le_refl _) _).setCell (p := ⟨w.heap.size, 1, none⟩) (Nat.le_refl _) _).setCell (p := ⟨w.heap.size, 2, none⟩) (Nat.le_refl _) _).setCell (p := ⟨w.heap.size, 3, none⟩) (Nat.le_refl _) _
set_option maxRecDepth 100000 in
set_option maxHeartbeats 1000000 in
theorem drawHorizon (a : Option Addr) (n cap : Nat) (w : World) (hr : RdU w w.heap.size (.slice a n cap) n) :
    Calls Try.prog 39 #[.slice a n cap] w fun e w' => ∃ (h m : Int), e = .returned (.tuple #[.int .i64 h, .int .i64 m]) ∧ (-1 ≤ h ∧ h ≤ 3001) ∧ (-1 ≤ m ∧ m ≤ 4) ∧ Below w.heap.size w w' := by
  have c0 := Cur.new hr 66
  have hB0 := (Below.refl w.heap.size w).alloc (Nat.le_refl _) (.cells #[.slice a n cap, .int .i64 0, .int .u64 0] 66)
  have hz0 : w.heap.size < (w.alloc (.cells #[.slice a n cap, .int .i64 0, .int .u64 0] 66)).heap.size := by simp
  clear hr
  go_enter Try.func39, Try.ntmps39
  go_wp2_with fail
  generalize w.alloc (.cells #[.slice a n cap, .int .i64 0, .int .u64 0] 66) = w0 at *
  refine (pick_any w.heap.size 0 900 w0 c0 (by omega) (by omega) (by omega)).mono ?_
  rintro e w1 ⟨r, rfl, hr900, hC1, hk1⟩
  have hz1 := hk1.size
  go_wp2_with fail
  refine (among_list w.heap.size 2 [-1, 3001] w1 hC1 (by omega) (by simp) (by simp) 3).mono ?_
  rintro e w2 ⟨z, hz, rfl, hC2, hk2⟩
  simp only [List.mem_cons, List.not_mem_nil, or_false] at hz
  have hz2 := hk2.size
  go_wp2_with fail
  refine (among_list w.heap.size 4 [0, 1, 10, 50, 300, 3000, (r : Int), z] w2 hC2 (by omega) (by simp) (by simp) 3).mono ?_
  rintro e w3 ⟨h, hh, rfl, hC3, hk3⟩
  simp only [List.mem_cons, List.not_mem_nil, or_false] at hh
  have hz3 := hk3.size
  go_wp2_with fail
  refine (bend_draw w.heap.size _ w3 hC3 (by omega)).mono ?_
  rintro e w4 ⟨m, rfl, hm, hC4, hk4⟩
  go_wp2
  go_ret2
  exact ⟨h, m, rfl, by omega, hm, (((hB0.trans (hk1.blw (by omega) (by omega))).trans (hk2.blw (by omega) (by omega))).trans (hk3.blw (by omega) (by omega))).trans (hk4.blw (by omega) (by omega))⟩
set_option maxRecDepth 100000 in
set_option maxHeartbeats 1000000 in
theorem drawBulge (a : Option Addr) (n cap : Nat) (w : World) (hr : RdU w w.heap.size (.slice a n cap) n) :
    Calls Try.prog 27 #[.slice a n cap] w fun e w' => ∃ (D x m : Int), e = .returned (.tuple #[.int .i64 D, .int .i64 x, .int .i64 m]) ∧ (0 ≤ D ∧ D ≤ 1000) ∧ (-1 ≤ x ∧ x ≤ 1001) ∧ (-1 ≤ m ∧ m ≤ 4) ∧ Below w.heap.size w w' := by
  have c0 := Cur.new hr 66
  have hB0 := (Below.refl w.heap.size w).alloc (Nat.le_refl _) (.cells #[.slice a n cap, .int .i64 0, .int .u64 0] 66)
  have hz0 : w.heap.size < (w.alloc (.cells #[.slice a n cap, .int .i64 0, .int .u64 0] 66)).heap.size := by simp
  clear hr
  go_enter Try.func27, Try.ntmps27
  go_wp2_with fail
  generalize w.alloc (.cells #[.slice a n cap, .int .i64 0, .int .u64 0] 66) = w0 at *
  refine (pick_any w.heap.size 0 900 w0 c0 (by omega) (by omega) (by omega)).mono ?_
  rintro e w1 ⟨r, rfl, hr900, hC1, hk1⟩
  have hz1 := hk1.size
  go_wp2_with fail
  refine (among_list w.heap.size 2 [1, 100, 200, 999, 1000, 0, 1 + (r : Int)] w1 hC1 (by omega) (by simp) (by simp) 3).mono ?_
  rintro e w2 ⟨D, hD, rfl, hC2, hk2⟩
  simp only [List.mem_cons, List.not_mem_nil, or_false] at hD
  have hz2 := hk2.size
  have hDb : 0 ≤ D ∧ D ≤ 1000 := by omega
  clear hD
  have hD0 := hDb.1
  have hD1 := hDb.2
  go_wp2_with fail
  refine (among_list w.heap.size 4 [0, 1, D / 2, D, D + 1, -1] w2 hC2 (by omega) (by simp) (by simp) 3).mono ?_
  rintro e w3 ⟨x, hx, rfl, hC3, hk3⟩
  simp only [List.mem_cons, List.not_mem_nil, or_false] at hx
  have hz3 := hk3.size
  go_wp2_with fail
  refine (bend_draw w.heap.size _ w3 hC3 (by omega)).mono ?_
  rintro e w4 ⟨m, rfl, hm, hC4, hk4⟩
  go_wp2
  go_ret3
  exact ⟨D, x, m, rfl, hDb, by omega, hm, (((hB0.trans (hk1.blw (by omega) (by omega))).trans (hk2.blw (by omega) (by omega))).trans (hk3.blw (by omega) (by omega))).trans (hk4.blw (by omega) (by omega))⟩
end Go.Proofs.Ytkdmjeonlghnjaa
