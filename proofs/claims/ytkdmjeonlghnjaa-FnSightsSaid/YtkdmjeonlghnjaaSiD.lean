/- Chapter 7: the sight from the other tower, of the program: a range over slices.Backward. Written by a generator of this claim's author. -/
import Derived.Test.YtkdmjeonlghnjaaSiC
namespace Go.Proofs.Ytkdmjeonlghnjaa
open Go.RowKit Go.Shelf Go.Proofs
set_option linter.unusedSimpArgs false
set_option linter.unusedVariables false

def rvP (D : Int) (ts : List T2) (pre : List Nat) : List T2 := pre.map fun i => ⟨D - (rAt ts i).x0, (rAt ts i).x1⟩
theorem rvP_snoc (D : Int) (ts : List T2) (pre : List Nat) (x : Nat) : rvP D ts (pre ++ [x]) = rvP D ts pre ++ [⟨D - (rAt ts x).x0, (rAt ts x).x1⟩] := by simp [rvP]
theorem rvP_len (D : Int) (ts : List T2) (pre : List Nat) : (rvP D ts pre).length = pre.length := by simp [rvP]
theorem rvP_downs (D : Int) (ts : List T2) : rvP D ts (downs ts.length ts.length) = rvT D ts ts.length := by simp [rvP, downs, rvT]
theorem OwnR.others {T : Type} {cl : T → Nat → Value} {k : Nat} {e : TypeId} {w w' : World} {B : Nat} {v : Value} {ts : List T} (h : OwnR e cl k w B v ts) {row : Option Nat} (hg : w.grownBy w' row) (hrow : ∀ r, row = some r → ∃ o : Obj, w.heap[r]? = some o ∧ o.isCells = false) : OwnR e cl k w' B v ts := by
  refine h.kept hg ?_
  rcases h.2 with ⟨rfl, _⟩ | ⟨g, cap, cur, hv, hg', hh, _⟩
  · exact .inl rfl
  · refine .inr fun e' => ?_
    rw [hv] at e'
    obtain ⟨o, ho, hc⟩ := hrow g e'.symm
    rw [hh] at ho
    cases ho
    cases hc
theorem Var4.fill {W : World} {b : Nat} {q0 q1 q2 q3 : Value} (h : Var4 W b q0 q1 q2 q3) (x0 x1 x2 x3 : Value) : Var4 ((((W.setCell ⟨b, 0, none⟩ x0).setCell ⟨b, 1, none⟩ x1).setCell ⟨b, 2, none⟩ x2).setCell ⟨b, 3, none⟩ x3) b x0 x1 x2 x3 := by
  have h1 : Var4 (W.setCell ⟨b, 0, none⟩ x0) b x0 q1 q2 q3 := ⟨by simpa [World.setCell] using h.lt, setd_same h.c0, by rw [setd_far (.inl (by decide))]; exact h.c1, by rw [setd_far (.inl (by decide))]; exact h.c2, by rw [setd_far (.inl (by decide))]; exact h.c3, fun j => (World.frozen?_setCell _ _ _ _).trans (h.fz j)⟩
  have h2 : Var4 ((W.setCell ⟨b, 0, none⟩ x0).setCell ⟨b, 1, none⟩ x1) b x0 x1 q2 q3 := ⟨by simpa [World.setCell] using h1.lt, by rw [setd_far (.inl (by decide))]; exact h1.c0, setd_same h1.c1, by rw [setd_far (.inl (by decide))]; exact h1.c2, by rw [setd_far (.inl (by decide))]; exact h1.c3, fun j => (World.frozen?_setCell _ _ _ _).trans (h1.fz j)⟩
  have h3 : Var4 (((W.setCell ⟨b, 0, none⟩ x0).setCell ⟨b, 1, none⟩ x1).setCell ⟨b, 2, none⟩ x2) b x0 x1 x2 q3 := ⟨by simpa [World.setCell] using h2.lt, by rw [setd_far (.inl (by decide))]; exact h2.c0, by rw [setd_far (.inl (by decide))]; exact h2.c1, setd_same h2.c2, by rw [setd_far (.inl (by decide))]; exact h2.c3, fun j => (World.frozen?_setCell _ _ _ _).trans (h2.fz j)⟩
  exact h3.put3
theorem row_cells {T : Type} {cl : T → Nat → Value} {k : Nat} {e : TypeId} {w : World} {B : Nat} {v : Value} {ts : List T} (h : OwnR e cl k w B v ts) : ∀ (j : Nat) (o : Obj), v.ownBlock = some j → w.heap[j]? = some o → o.isCells = true := by
  intro j o hj ho
  rcases h.2 with ⟨rfl, _⟩ | ⟨g, cap, cur, hv, hg', hh, _⟩
  · cases hj
  · rw [hv] at hj
    cases hj
    rw [hh] at ho
    cases ho
    rfl
theorem appendIn_Ground {F : Fence} {n : Nat} {w : World} {ops : Array Oper} {rest : List Oper} {o : Oper} {a : Act} {Q : Exit → Act → World → Prop} (hgd : o.guard = none) (s x : Operand)
    (ho : o.op = .call { callee := .builtin .append, args := #[s, x], argTypes := #[23, 23] })
    (B : Nat) (v : Value) (ts : List T2) (t : T2) (g c : Nat) (hs : a.eval s = v) (hx : a.eval x = .slice (some ⟨g, 0, none⟩) 1 c) (hown : OwnR 72 c2 2 w B v ts) (c0 : w.cell? ⟨g, 0, none⟩ = some (.int .i64 t.x0)) (c1 : w.cell? ⟨g, 1, none⟩ = some (.int .i64 t.x1)) (hlen : ts.length ≤ 4000000) (hB : B ≤ w.heap.size)
    (hK : ∀ v' w', OwnR 72 c2 2 w' B v' (ts ++ [t]) → w.grownBy w' v.ownBlock → wpListIn F n Try.prog ops Q rest (a.put o.dst v') w') : wpListIn F n Try.prog ops Q (o :: rest) a w := by
  obtain ⟨i0, hi, hz0, hz1, hz2⟩ := info_parts Try_info_Ground
  refine wpListIn_append_own w hgd s x 23 ho B 72 i0 (.agg #[.int .i64 0, .int .i64 0]) 2 16 Try.underlying23 hi hz0 hz1 hz2 rfl (by decide) v ts.length (flatR c2 2 ts) hs hown ⟨g, 0, none⟩ 1 c [.int .i64 t.x0, .int .i64 t.x1] hx rfl ?_ ?_ (by unfold maxLen; omega) (by omega) hB ?_
  · intro j u hj
    match j, hj with
    | 0, hj => cases hj; exact c0
    | 1, hj => cases hj; exact c1
    | m + 2, hj => simp at hj
  · intro u hu
    simp only [List.mem_cons, List.not_mem_nil, or_false] at hu
    rcases hu with rfl | rfl <;> rfl
  · intro v' w' h1 h2 _
    refine hK v' w' ?_ h2
    unfold OwnR
    rw [flatR_append, List.length_append]
    exact h1

/-- Between two rounds: the sight, the answer's cell, the sight that is made. -/
def RvI (w : World) (D A B : Int) (a : Option Addr) (N p bo : Nat) (ts : List T2) (pre : List Nat) (W : World) : Prop :=
  SB w W D A B a N p ts ∧ Var4 W (w.heap.size + 1) (.int .i64 0) (.int .i64 0) (.int .i64 0) (.slice none 0 0) ∧ (∃ u, Var4 W bo (.int .i64 D) (.int .i64 B) (.int .i64 A) u ∧ OwnR 72 c2 2 W (bo + 2) u (rvP D ts pre)) ∧ bo + 2 ≤ W.heap.size
theorem RvI.own {w : World} {D A B : Int} {a : Option Addr} {N p bo : Nat} {ts : List T2} (h0 : RdR c2 2 w (.slice a N p) ts) (hbo : w.heap.size + 1 < bo) : OwnFrom (bo + 2) (RvI w D A B a N p bo ts) := by
  rintro pre W W' row ⟨hS, hV, ⟨u, hO, ho⟩, hz⟩ hg hrow
  have hb : Below (bo + 2) W W' := (Below.refl _ W).grown hg hz (fun k e => (hrow k e).1)
  exact ⟨hS.hi h0 (by omega) hb, hV.below hb (by omega), ⟨u, hO.below hb (by omega), ho.others hg (fun r e => (hrow r e).2)⟩, Nat.le_trans hz hb.size⟩
attribute [local go_sem] Oper.semAt_some
set_option maxRecDepth 100000 in
set_option maxHeartbeats 4000000 in
theorem implReverseSight_any (D A B : Int) (c : Value) (ts : List T2) (w : World) (hr : RdR c2 2 w c ts) :
    Calls Try.prog 25 #[.agg #[.int .i64 D, .int .i64 A, .int .i64 B, c]] w fun e w' => ∃ u, e = .returned (.tuple #[.agg #[.int .i64 (rvD D A B ts), .int .i64 (rvA D A B ts), .int .i64 (rvB D A B ts), u], .bool (sightB D A B ts)]) ∧ OwnG w' w.heap.size w'.heap.size u (rvL D A B ts) ∧ Below w.heap.size w w' := by
  have hm : (ts.length : Int) ≤ 9223372036854775807 := by have := hr.max; unfold maxLen at this; omega
  obtain ⟨a, p, rfl, -⟩ := hr.len
  obtain ⟨N, hn⟩ : ∃ N, N = ts.length := ⟨_, rfl⟩
  rw [← hn] at hm hr
  rw [← hn]
  have HN := Lib.hid hn
  clear hn
  have S0 := (SB.start (D := D) (A := A) (B := B) hr 25).alloc (.cells #[.int .i64 0, .int .i64 0, .int .i64 0, .slice none 0 0] 25)
  have V0 := Var4.new (w.alloc (.cells #[.int .i64 D, .int .i64 A, .int .i64 B, .slice a N p] 25)) (.int .i64 0) (.int .i64 0) (.int .i64 0) (.slice none 0 0) 25
  simp only [World.size_alloc] at V0
  have HR := Lib.hid hr
  clear hr
  have q0 := S0.q0
  have q1 := S0.q1
  have q2 := S0.q2
  have q3 := S0.q3
  have r0 := V0.c0
  have r1 := V0.c1
  have r2 := V0.c2
  have r3 := V0.c3
  have rf0 := V0.fz 0
  have rf1 := V0.fz 1
  have rf2 := V0.fz 2
  have rf3 := V0.fz 3
  cases hq : sightB D A B ts with
  | false =>
    have HQ := Lib.hid hq
    have HF := Lib.hid (rv_no hq)
    clear hq
    go_enter Try.func25, Try.ntmps25
    go_wp2_with fail
    refine (isSight_b D A B _ ts _ S0.rd HQ.out).mono ?_
    rintro e w1 ⟨rfl, hb1⟩
    have S1 := S0.next hb1
    have V1 := V0.next hb1
    clear q0 q1 q2 q3 r0 r1 r2 r3 rf0 rf1 rf2 rf3
    have q0 := S1.q0
    have q1 := S1.q1
    have q2 := S1.q2
    have q3 := S1.q3
    have r0 := V1.c0
    have r1 := V1.c1
    have r2 := V1.c2
    have r3 := V1.c3
    have rf0 := V1.fz 0
    have rf1 := V1.fz 1
    have rf2 := V1.fz 2
    have rf3 := V1.fz 3
    go_wp2
    refine bodyPost_ret (v := .tuple #[.agg #[.int .i64 0, .int .i64 0, .int .i64 0, .slice none 0 0], .bool false]) (by simp [results, Try.results25, go_sem, *]) rfl ⟨.slice none 0 0, by rw [HF.out.1, HF.out.2.1, HF.out.2.2.1], ?_, ?_⟩
    · rw [HF.out.2.2.2]; exact OwnG.nil _ _ _
    · exact (((S1.below.setCell (p := ⟨w.heap.size + 1, 0, none⟩) (by show w.heap.size ≤ w.heap.size + 1; omega) _).setCell (p := ⟨w.heap.size + 1, 1, none⟩) (by show w.heap.size ≤ w.heap.size + 1; omega) _).setCell (p := ⟨w.heap.size + 1, 2, none⟩) (by show w.heap.size ≤ w.heap.size + 1; omega) _).setCell (p := ⟨w.heap.size + 1, 3, none⟩) (by show w.heap.size ≤ w.heap.size + 1; omega) _
  | true =>
    have HQ := Lib.hid hq
    have HF := Lib.hid (rv_yes hq)
    have ok := sightB_iff.1 hq
    have HG : Hid (∀ i, 0 ≤ (rAt ts i).x0 ∧ (rAt ts i).x0 ≤ D) := Lib.hid fun i => by
      by_cases hi : i < ts.length
      · have := ok.grd i hi; omega
      · have h9 : rAt ts i = default := by unfold rAt; rw [List.getElem?_eq_none (by omega)]; rfl
        have hd := ok.d1
        rw [h9]
        exact ⟨Int.le_refl 0, by show (0 : Int) ≤ D; omega⟩
    have hD1 := ok.d1
    have hD9 := ok.d9
    have hN : N ≤ 20 := by rw [HN.out]; exact ok.n
    clear hq ok
    refine (callsIn_wide (n := 6)).1 ?_
    refine callsIn_of_wp_marks Try.func25 rfl trivial ?_ rfl
    simp only [Try.ntmps25, List.size_toArray, List.length_cons, List.length_nil, Nat.reduceAdd, Nat.reduceSub, Array.replicate_succ, Array.replicate_zero, List.push_toArray, List.append_toArray, List.nil_append, List.cons_append]
    gi_wp2_with fail
    refine ⟨trivial, ?_⟩
    refine (callsIn_wide.2 (isSight_b D A B _ ts _ S0.rd HQ.out)).mono ?_
    rintro e w1 ⟨rfl, hb1⟩
    have S1 := S0.next hb1
    have V1 := V0.next hb1
    have hz1 := V1.lt
    have hz0 := S1.lt
    clear q0 q1 q2 q3 r0 r1 r2 r3 rf0 rf1 rf2 rf3
    have q0 := S1.q0
    have q1 := S1.q1
    have q2 := S1.q2
    have q3 := S1.q3
    gi_wp2_with fail
    refine ⟨trivial, ?_⟩
    refine (back_in Fence.wide 5 trivial rfl a N p _).mono ?_
    rintro e w2 ⟨rfl, rfl⟩
    have S2 := (S1.alloc (.cells #[.int .i64 D, .int .i64 B, .int .i64 A, .slice none 0 0] 25)).alloc (.cells #[.slice a N p] 23)
    have V2 := (V1.next ((Below.refl _ _).alloc (Nat.le_refl _) (.cells #[.int .i64 D, .int .i64 B, .int .i64 A, .slice none 0 0] 25))).next ((Below.refl _ _).alloc (Nat.le_refl _) (.cells #[.slice a N p] 23))
    have O2 := (Var4.new w1 (.int .i64 D) (.int .i64 B) (.int .i64 A) (.slice none 0 0) 25).next ((Below.refl _ _).alloc (Nat.le_refl _) (.cells #[.slice a N p] 23))
    have hzW : ((w1.alloc (.cells #[.int .i64 D, .int .i64 B, .int .i64 A, .slice none 0 0] 25)).alloc (.cells #[.slice a N p] 23)).heap.size = w1.heap.size + 2 := by simp
    have hcB : ((w1.alloc (.cells #[.int .i64 D, .int .i64 B, .int .i64 A, .slice none 0 0] 25)).alloc (.cells #[.slice a N p] 23)).cell? ⟨w1.heap.size + 1, 0, none⟩ = some (.slice a N p) := by simp [go_sem]
    gi_wp2_with fail
    try simp only [World.size_alloc]
    generalize (w1.alloc (.cells #[.int .i64 D, .int .i64 B, .int .i64 A, .slice none 0 0] 25)).alloc (.cells #[.slice a N p] 23) = W0 at *
    generalize hbo : w1.heap.size = bo at *
    have hb2 : w.heap.size + 1 < bo := hz1
    clear q0 q1 q2 q3 S0 S1 V0 V1 hb1
    refine wpIn_rangeFunc_ownH rfl (by decide) (gf := 94) (lb := #[.pointer (some ⟨bo + 1, 0, none⟩)]) rfl trivial (enters_of Try.func94 (by kernel_rfl) rfl)
      (back_stops Fence.wide 5 trivial rfl (by decide) (bo + 1) N p a ts w W0 HR.out HN.out hN S2.below (by omega) hcB) KpI.t (KpI.b (by omega) (by omega)) (Below.refl _ _) (fun _ => rfl)
      (RvI w D A B a N p bo ts) (fun _ _ _ => False) (by rw [hzW]; exact RvI.own HR.out hb2) (fun _ _ _ _ _ hs _ _ => hs) ⟨S2, V2, ⟨_, O2, OwnR.nil _ _⟩, by omega⟩
      (fun x a' W => ∃ Bx, bo + 2 ≤ Bx ∧ W.cell? ⟨Bx, 0, none⟩ = some (.int .i64 (rAt ts x).x0) ∧ W.cell? ⟨Bx, 1, none⟩ = some (.int .i64 (rAt ts x).x1) ∧ a' = { tmps := #[Value.agg #[.int .i64 D, .int .i64 A, .int .i64 B, .slice a N p], .pointer (some ⟨w.heap.size, 0, none⟩), .pointer (some ⟨w.heap.size + 1, 0, none⟩), .bool false, .pointer (some ⟨bo, 0, none⟩), undef, .pointer (some ⟨Bx, 0, none⟩), Value.agg #[.int .i64 D, .int .i64 A, .int .i64 B, .slice a N p], .bool true, .bool false, undef, .pointer (some ⟨w.heap.size, 0, none⟩), .int .i64 D, .pointer (some ⟨w.heap.size, 2, none⟩), .int .i64 B, .pointer (some ⟨w.heap.size, 1, none⟩), .int .i64 A, .agg #[.int .i64 D, .int .i64 B, .int .i64 A, .slice none 0 0], .pointer (some ⟨w.heap.size, 3, none⟩), .slice a N p, .func (.func 94) #[] #[.pointer (some ⟨bo + 1, 0, none⟩)], .int .i64 x, .agg #[.int .i64 (rAt ts x).x0, .int .i64 (rAt ts x).x1], undef, undef, undef, undef, undef, undef, undef, undef, undef, undef, undef, undef, undef, undef], defers := [] })
      (fun x a' _ X Y row hs hg hr => by obtain ⟨Bx, h1, h2, h3, h4⟩ := hs; exact ⟨Bx, h1, cell_kept h2 hg (fun r e => (hr r e).2), cell_kept h3 hg (fun r e => (hr r e).2), h4⟩)
      ?assign ?body ?done ?stop
    case assign =>
      rintro l pre x W K ⟨hS, hV, ⟨u, hO, ho⟩, hz⟩ hK
      simp only [encG]
      have al := (Below.refl W.heap.size W).alloc (Nat.le_refl _) (.cells #[.int .i64 (rAt ts x).x0, .int .i64 (rAt ts x).x1] 72)
      have hsW : w.heap.size ≤ W.heap.size := hS.below.size
      gi_wp2
      exact hK _ _ ((KeepsOthers.alloc _ _).from _) ⟨al.mono hsW, fun v hv => bcell al hv⟩ ⟨hS.next al, hV.next al, ⟨u, hO.next al, ho.later al⟩, by simp; omega⟩ ⟨W.heap.size, hz, by simp [go_sem], by simp [go_sem], rfl⟩
    case body =>
      rintro l pre x a' W hl hr' ⟨hS, hV, ⟨u, hO, ho⟩, hz⟩ ⟨Bx, hBx, x0, x1, rfl⟩ hlt
      obtain ⟨au, cu, rfl, -⟩ := ho.rd.len
      have hx := HG.out x
      have E1 : Hid (rvP D ts (pre ++ [x]) = rvP D ts pre ++ [⟨D - (rAt ts x).x0, (rAt ts x).x1⟩]) := Lib.hid (rvP_snoc D ts pre x)
      have hlen : (rvP D ts pre).length ≤ 4000000 := by rw [rvP_len]; omega
      generalize (rAt ts x).x0 = y0 at *
      generalize (rAt ts x).x1 = y1 at *
      generalize rvP D ts pre = L at *
      have hx0 := hx.1
      have hx1 := hx.2
      clear hx
      have al := (Below.refl W.heap.size W).alloc (Nat.le_refl _) (.cells #[.int .i64 (D - y0), .int .i64 y1] 72)
      have hsW : w.heap.size ≤ W.heap.size := hS.below.size
      have SA := hS.next al
      have VA := hV.next al
      have OA := hO.next al
      have oA := ho.later al
      have hzA : (W.alloc (.cells #[.int .i64 (D - y0), .int .i64 y1] 72)).heap.size = W.heap.size + 1 := by simp
      have c0 : (W.alloc (.cells #[.int .i64 (D - y0), .int .i64 y1] 72)).cell? ⟨W.heap.size, 0, none⟩ = some (.int .i64 (D - y0)) := by simp [go_sem]
      have c1 : (W.alloc (.cells #[.int .i64 (D - y0), .int .i64 y1] 72)).cell? ⟨W.heap.size, 1, none⟩ = some (.int .i64 y1) := by simp [go_sem]
      have q0 := hS.q0
      have q1 := hS.q1
      have q2 := hS.q2
      have q3 := hS.q3
      have j0 := hO.c0
      have j1 := hO.c1
      have j2 := hO.c2
      have j3 := hO.c3
      have jf0 := hO.fz 0
      have jf1 := hO.fz 1
      have jf2 := hO.fz 2
      have jf3 := hO.fz 3
      gi_wp2_with (gi_at_builtin; refine appendIn_Ground rfl _ _ rfl (bo + 2) _ L ⟨D - y0, y1⟩ W.heap.size 1 rfl rfl oA c0 c1 hlen (by omega) ?_; intro v2 w2 o2 hg2; have HRW := Lib.hid (row_cells oA); rw [← E1.out] at o2; obtain ⟨ad2, cd2, rfl, -⟩ := o2.rd.len; have hbg := (Below.refl (bo + 2) _).grown hg2 (by omega) (fun i hi => (oA.lt i hi).1); have SB2 := SA.hi HR.out (by omega) hbg; have VB2 := VA.below hbg (by omega); have OB2 := OA.below hbg (by omega); have k3 := OB2.c3; have kf := OB2.fz 3)
      have SZ := SB2.setH HR.out (o := 3) (show w.heap.size < bo by omega) (.slice ad2 (rvP D ts (pre ++ [x])).length cd2)
      have VZ := VB2.set (o := 3) (u := .slice ad2 (rvP D ts (pre ++ [x])).length cd2) (show bo ≠ w.heap.size + 1 by omega)
      have OZ := OB2.put3 (u := .slice ad2 (rvP D ts (pre ++ [x])).length cd2)
      have o3 := o2.setFar (b := bo) (o := 3) (x := .slice ad2 (rvP D ts (pre ++ [x])).length cd2) (fun e => by have := (o2.lt _ e).1; omega)
      have hzF : bo + 2 ≤ (w2.setCell ⟨bo, 3, none⟩ (.slice ad2 (rvP D ts (pre ++ [x])).length cd2)).heap.size := by have := hbg.size; simp [World.setCell]; omega
      exact ⟨(((KeepsOthers.alloc W _).trans (KeepsOthers.of_grownBy hg2 HRW.out)).trans (KeepsOthers.setCell w2 _ _)).from _, ⟨((al.mono hsW).trans (hbg.mono (by omega))).setCell (p := ⟨bo, 3, none⟩) (show w.heap.size ≤ bo by omega) _, fun v hv => (setd_far (.inr (by omega))).trans ((hbg.cell (p := ⟨bo + 1, 0, none⟩) (show bo + 1 < bo + 2 by omega)).trans (bcell al hv))⟩, ⟨SZ, VZ, ⟨_, OZ, o3⟩, hzF⟩⟩
    case done =>
      rintro D' ys W hD rfl ⟨hS, hV, ⟨u, hO, ho⟩, hz⟩ hK
      obtain ⟨au, cu, rfl, -⟩ := ho.rd.len
      have j0 := hO.c0
      have j1 := hO.c1
      have j2 := hO.c2
      have j3 := hO.c3
      have jf0 := hO.fz 0
      have jf1 := hO.fz 1
      have jf2 := hO.fz 2
      have jf3 := hO.fz 3
      have r0 := hV.c0
      have r1 := hV.c1
      have r2 := hV.c2
      have r3 := hV.c3
      have rf0 := hV.fz 0
      have rf1 := hV.fz 1
      have rf2 := hV.fz 2
      have rf3 := hV.fz 3
      gi_wp2
      have VF := hV.fill (.int .i64 D) (.int .i64 B) (.int .i64 A) (.slice au (rvP D ts (downs N N)).length cu)
      have KO := (((KeepsOthers.setCell W ⟨w.heap.size + 1, 0, none⟩ (.int .i64 D)).trans (KeepsOthers.setCell _ ⟨w.heap.size + 1, 1, none⟩ (.int .i64 B))).trans (KeepsOthers.setCell _ ⟨w.heap.size + 1, 2, none⟩ (.int .i64 A))).trans (KeepsOthers.setCell _ ⟨w.heap.size + 1, 3, none⟩ (.slice au (rvP D ts (downs N N)).length cu))
      have hK4 := KO.same D' _ hK rfl
      have HNV : (Value.slice au (rvP D ts (downs N N)).length cu).ownBlock ≠ some (w.heap.size + 1) := fun e => by have := (ho.lt _ e).1; omega
      have p1 := (((ho.setFar (b := w.heap.size + 1) (o := 0) (x := .int .i64 D) HNV).setFar (b := w.heap.size + 1) (o := 1) (x := .int .i64 B) HNV).setFar (b := w.heap.size + 1) (o := 2) (x := .int .i64 A) HNV).setFar (b := w.heap.size + 1) (o := 3) (x := .slice au (rvP D ts (downs N N)).length cu) HNV
      have hB4 := (((hS.below.setCell (p := ⟨w.heap.size + 1, 0, none⟩) (by show w.heap.size ≤ w.heap.size + 1; omega) (.int .i64 D)).setCell (p := ⟨w.heap.size + 1, 1, none⟩) (by show w.heap.size ≤ w.heap.size + 1; omega) (.int .i64 B)).setCell (p := ⟨w.heap.size + 1, 2, none⟩) (by show w.heap.size ≤ w.heap.size + 1; omega) (.int .i64 A)).setCell (p := ⟨w.heap.size + 1, 3, none⟩) (by show w.heap.size ≤ w.heap.size + 1; omega) (.slice au (rvP D ts (downs N N)).length cu)
      refine ⟨by simp, .inl ⟨_, _, rfl, run_takeDeferred hK4, ?_⟩⟩
      clear r0 r1 r2 r3 rf0 rf1 rf2 rf3 j0 j1 j2 j3 jf0 jf1 jf2 jf3
      generalize (((W.setCell ⟨w.heap.size + 1, 0, none⟩ (.int .i64 D)).setCell ⟨w.heap.size + 1, 1, none⟩ (.int .i64 B)).setCell ⟨w.heap.size + 1, 2, none⟩ (.int .i64 A)).setCell ⟨w.heap.size + 1, 3, none⟩ (.slice au (rvP D ts (downs N N)).length cu) = WF at *
      have bK := belowK_b (n₀ := bo + 2) (w := W0) (by omega) WF D' _ (.deferred none) (by omega) hK4 rfl rfl
      have VG := VF.below bK (by omega)
      have pG := p1.others (grownBy_putObj' WF D' (.deferred none)) (fun r e => by cases e; exact ⟨_, hK4, rfl⟩)
      have hBG := hB4.trans (bK.mono (by omega))
      have g0 := VG.c0
      have g1 := VG.c1
      have g2 := VG.c2
      have g3 := VG.c3
      refine ⟨.tuple #[.agg #[.int .i64 D, .int .i64 B, .int .i64 A, .slice au (rvP D ts (downs N N)).length cu], .bool true], by simp [results, Try.results25, go_sem, *], .slice au (rvP D ts (downs N N)).length cu, by rw [HF.out.1, HF.out.2.1, HF.out.2.2.1], ?_, hBG⟩
      rw [HF.out.2.2.2, ← rvP_downs, ← HN.out]
      exact ⟨pG.base (by omega), fun j hj => (pG.lt j hj).2⟩
    case stop =>
      rintro D c pre W _ _ h _
      exact h.elim
end Go.Proofs.Ytkdmjeonlghnjaa
