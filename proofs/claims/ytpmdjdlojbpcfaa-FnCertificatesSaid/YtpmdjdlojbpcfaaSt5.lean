/- Chapter 8: slices of sets; what is seen from the sites, as sets. Written by a generator of this claim's author. -/
import Derived.Test.YtpmdjdlojbpcfaaSt4
import Derived.Test.YtpmdjdlojbpcfaaRgE
namespace Go.Proofs.Ytpmdjdlojbpcfaa
open Go.RowKit
set_option linter.unusedSimpArgs false
set_option linter.unusedVariables false

/-- The cell of a set. -/
def cU (s : Nat) : Nat → Value := fun _ => .int .u64 s
theorem Try_info_numberSet : (Try.prog.info? 62).map (fun i => (i.zero, i.size, i.bytes)) = some (some (.int .u64 0), 1, 8) := by kernel_rfl
theorem wp_append_U {w : World} {o : Oper} {a : Act} {K : Act → World → Prop} {Q : Exit → Act → World → Prop} (s x : Operand)
    (ho : o.op = .call { callee := .builtin .append, args := #[s, x], argTypes := #[63, 63] })
    (B : Nat) (v : Value) (ts : List Nat) (t h : Nat) (hs : a.eval s = v) (hx : a.eval x = .slice (some ⟨h, 0, none⟩) 1 1) (hown : OwnR 62 cU 1 w B v ts) (hcell : w.cell? ⟨h, 0, none⟩ = some (.int .u64 t)) (hlen : ts.length ≤ 4194304) (hB : B ≤ w.heap.size)
    (hK : ∀ v' w', OwnR 62 cU 1 w' B v' (ts ++ [t]) → w.grownBy w' v.ownBlock → (v'.ownBlock = v.ownBlock ∨ v'.ownBlock = some w.heap.size) → K (a.put o.dst v') w') : o.wp Try.prog a w K Q := by
  obtain ⟨i0, hi, hz0, hz1, hz2⟩ := info_parts Try_info_numberSet
  obtain ⟨v', w', hr, h2, h3, h4, h5⟩ := run_append_own_at (P := Try.prog) w B 63 o.type 62 i0 _ 1 8 Try.underlying63 hi hz0 hz1 hz2 rfl (by decide) v ts.length (flatR cU 1 ts) hown
      ⟨h, 0, none⟩ 1 1 [.int .u64 t] rfl (fun j u' hj => by
        match j, hj with
        | 0, hj => simp at hj; subst hj; simpa [Addr.add] using hcell) (by
        intro u' hu
        simp at hu; subst hu; rfl) (by unfold maxLen; omega) (by omega) hB
  unfold Oper.wp execOp
  simp only [ho, resolve, invoke, builtin, Sem.run_bind, Sem.run_pure, Result.andThen_ok, List.map_toArray, List.map_cons, List.map_nil, hs, hx, hr]
  refine hK v' w' ?_ h3 h5
  unfold OwnR
  rw [flatR_append, List.length_append]
  exact h2
theorem step_append_U {w : World} {ops : Array Oper} {o : Oper} {a : Act} {K : Act → World → Prop} {Q : Exit → Act → World → Prop} {E : Prop} (hgd : o.guard = none) (s x : Operand)
    (ho : o.op = .call { callee := .builtin .append, args := #[s, x], argTypes := #[63, 63] })
    (B : Nat) (v : Value) (ts : List Nat) (t h : Nat) (hs : a.eval s = v) (hx : a.eval x = .slice (some ⟨h, 0, none⟩) 1 1) (hown : OwnR 62 cU 1 w B v ts) (hcell : w.cell? ⟨h, 0, none⟩ = some (.int .u64 t)) (hlen : ts.length ≤ 4194304) (hB : B ≤ w.heap.size)
    (hK : ∀ v' w', OwnR 62 cU 1 w' B v' (ts ++ [t]) → w.grownBy w' v.ownBlock → (v'.ownBlock = v.ownBlock ∨ v'.ownBlock = some w.heap.size) → K (a.put o.dst v') w') : if Region.wanted o (yielded ops a.tmps) = true then Oper.wp Try.prog o a w K Q else E := by
  have hw : Region.wanted o (yielded ops a.tmps) = true := by simp [Region.wanted, hgd]
  rw [if_pos hw]
  exact wp_append_U s x ho B v ts t h hs hx hown hcell hlen hB hK

/-- A variable of two cells lies in block b. -/
structure Var2 (W : World) (b : Nat) (q0 q1 : Value) : Prop where
  lt : b < W.heap.size
  c0 : W.cell? ⟨b, 0, none⟩ = some q0
  c1 : W.cell? ⟨b, 1, none⟩ = some q1
  fz : ∀ j, W.frozen? ⟨b, j, none⟩ = false
theorem setd_far {w : World} {b o b' o' : Nat} {v : Value} (h : o ≠ o' ∨ b ≠ b') : (w.setCell ⟨b, o, none⟩ v).cell? ⟨b', o', none⟩ = w.cell? ⟨b', o', none⟩ :=
  World.cell?_setCell_other _ _ _ _ (by intro e; simp only [Addr.mk.injEq, and_true] at e; omega)
theorem setd_same {w : World} {b o : Nat} {v u : Value} (h : w.cell? ⟨b, o, none⟩ = some u) : (w.setCell ⟨b, o, none⟩ v).cell? ⟨b, o, none⟩ = some v := World.cell?_setCell_same _ _ _ h
section
variable {W W' : World} {b C : Nat} {q0 q1 : Value}
theorem Var2.new (w : World) (q0 q1 : Value) (t : TypeId) : Var2 (w.alloc (.cells #[q0, q1] t)) w.heap.size q0 q1 := ⟨by simp, by simp [go_sem], by simp [go_sem], fun j => by simp [go_sem]⟩
theorem Var2.below (h : Var2 W b q0 q1) (hb : Below C W W') (hC : b < C) : Var2 W' b q0 q1 :=
  ⟨Nat.lt_of_lt_of_le h.lt hb.size, by rw [hb.cell (p := ⟨b, 0, none⟩) hC]; exact h.c0, by rw [hb.cell (p := ⟨b, 1, none⟩) hC]; exact h.c1, fun j => by rw [hb.frozen (p := ⟨b, j, none⟩) hC]; exact h.fz j⟩
theorem Var2.next (h : Var2 W b q0 q1) (hb : Below W.heap.size W W') : Var2 W' b q0 q1 := h.below hb h.lt
theorem Var2.set {b' o : Nat} {u : Value} (h : Var2 W b q0 q1) (hne : b' ≠ b) : Var2 (W.setCell ⟨b', o, none⟩ u) b q0 q1 :=
  ⟨by simpa [World.setCell] using h.lt, by rw [setd_far (.inr hne)]; exact h.c0, by rw [setd_far (.inr hne)]; exact h.c1, fun j => (World.frozen?_setCell _ _ _ _).trans (h.fz j)⟩
theorem Var2.put0 {u : Value} (h : Var2 W b q0 q1) : Var2 (W.setCell ⟨b, 0, none⟩ u) b u q1 :=
  ⟨by simpa [World.setCell] using h.lt, setd_same h.c0, by rw [setd_far (.inl (by decide))]; exact h.c1, fun j => (World.frozen?_setCell _ _ _ _).trans (h.fz j)⟩
theorem Var2.put1 {u : Value} (h : Var2 W b q0 q1) : Var2 (W.setCell ⟨b, 1, none⟩ u) b q0 u :=
  ⟨by simpa [World.setCell] using h.lt, by rw [setd_far (.inl (by decide))]; exact h.c0, setd_same h.c1, fun j => (World.frozen?_setCell _ _ _ _).trans (h.fz j)⟩
end
theorem OwnR.setFar {T : Type} {cl : T → Nat → Value} {k : Nat} {e : TypeId} {w : World} {B : Nat} {v : Value} {ts : List T} (h : OwnR e cl k w B v ts) {b o : Nat} {x : Value} (hb : b < B) : OwnR e cl k (w.setCell ⟨b, o, none⟩ x) B v ts :=
  row_at h fun j hj => Below.heap_setCell _ _ _ _ (by show j ≠ b; have := (h.lt j hj).1; omega)

theorem OwnR.form3 {T : Type} {cl : T → Nat → Value} {k : Nat} {e : TypeId} {w : World} {B : Nat} {v : Value} {ts : List T} (h : OwnR e cl k w B v ts) : ∃ (a : Option Addr) (n c : Nat), v = .slice a n c := by
  rcases h.cases with ⟨rfl, -⟩ | ⟨g, cap, rfl, -⟩
  · exact ⟨_, _, _, rfl⟩
  · exact ⟨_, _, _, rfl⟩
/-- The sets that are seen from the first k sites. -/
def vws (L : List (List Int)) (k : Nat) : List Nat := (List.range k).map (vw L)
theorem vws_succ (L : List (List Int)) (k : Nat) : vws L (k + 1) = vws L k ++ [vw L k] := by simp [vws, List.range_succ]
theorem vws_len (L : List (List Int)) (k : Nat) : (vws L k).length = k := by simp [vws]
theorem vws_at (L : List (List Int)) (k i : Nat) (h : i < k) : rAt (vws L k) i = vw L i := by simp [rAt, vws, h]
def RdV (w : World) (v : Value) (L : List (List Int)) : Prop := RdR cU 1 w v (vws L L.length)
theorem RdV.later {w w' : World} {v : Value} {L : List (List Int)} (h : RdV w v L) (hb : Below w.heap.size w w') : RdV w' v L := RdR.later h hb
theorem RdV.below {w w' : World} {C : Nat} {v : Value} {L : List (List Int)} (h : RdV w v L) (hb : Below C w w') (hC : w.heap.size ≤ C) : RdV w' v L := RdR.below h hb hC
theorem RdV.len {w : World} {v : Value} {L : List (List Int)} (h : RdV w v L) : ∃ a cap, v = .slice a L.length cap := by
  obtain ⟨a, cap, hv, -⟩ := RdR.len h
  exact ⟨a, cap, by rw [hv, vws_len]⟩
theorem RdV.at_ {w : World} {a : Option Addr} {n cap : Nat} {L : List (List Int)} (h : RdV w (.slice a n cap) L) (hn : n = L.length) (i : Nat) (hi : i < n) :
    ∃ g off, a = some ⟨g, off, none⟩ ∧ g < w.heap.size ∧ w.cell? ⟨g, off + i, none⟩ = some (.int .u64 (vw L i)) := by
  obtain ⟨g, off, ha, hg, hc⟩ := RdR.at_ h (by rw [vws_len]; exact hn) i hi
  refine ⟨g, off, ha, hg, ?_⟩
  have := hc 0 (by decide)
  rw [vws_at _ _ _ (by omega)] at this
  simpa [cU] using this

/-- While the sets are made. -/
structure ObI (w wr : World) (N : Nat) (L : List (List Int)) (k : Nat) (u : Value) : Prop where
  bel : Below w.heap.size w wr
  res : Var2 wr w.heap.size (.int .u64 0) (.slice none 0 0)
  var : Var2 wr (w.heap.size + 1) (.int .u64 N) u
  row : OwnR 62 cU 1 wr (w.heap.size + 2) u (vws L k)
theorem ObI.next {w wr w' : World} {N k : Nat} {L : List (List Int)} {u : Value} (h : ObI w wr N L k u) (hb : Below wr.heap.size wr w') : ObI w w' N L k u :=
  ⟨h.bel.trans (hb.mono h.bel.size), h.res.next hb, h.var.next hb, h.row.later hb⟩
set_option maxRecDepth 100000 in
set_option maxHeartbeats 2000000 in
theorem outlookOf_any (v : Value) (L : List (List Int)) (n : Nat) (w : World) (ok : StOk L n) (hr : RdJ w v L) :
    Calls Try.prog 55 #[v, .int .i64 n] w fun e w' => ∃ u, e = .returned (.agg #[.int .u64 ((2 ^ n - 1 : Nat) : Int), u]) ∧ RdV w' u L ∧ Below w.heap.size w w' := by
  have hn2 := ok.n2
  have hm2 := ok.m2
  obtain ⟨a, cap, rfl, -⟩ := hr.len
  obtain ⟨m, hme⟩ : ∃ m, m = L.length := ⟨_, rfl⟩
  have HM := Lib.hid hme
  have HR := Lib.hid hr
  have OK := Lib.hid ok
  rw [← hme] at hm2 ⊢
  clear hme hr ok
  have HA := fun W => Lib.hid (allBelow_any n W hn2)
  obtain ⟨N, hN⟩ : ∃ N : Nat, N = 2 ^ n - 1 := ⟨_, rfl⟩
  simp only [← hN] at HA ⊢
  clear hN
  have hv0 := Var2.new w (.int .u64 0) (.slice none 0 0) 65
  go_enter Try.func55, Try.ntmps55
  go_wp2_with (go_at_call 69; refine (HA _).out.mono ?_; rintro e w' ⟨rfl, rfl⟩)
  go_loopw [13] (fun i wr => ∃ (k : Nat) (u : Value), k ≤ m ∧ i = .int .i64 k ∧ ObI w wr N L k u) (fun i wr => m - (intOf i).toNat)
  case atStart =>
    refine ⟨0, .slice none 0 0, Nat.zero_le _, rfl, ?_⟩
    have hv1 := Var2.new (w.alloc (.cells #[.int .u64 0, .slice none 0 0] 65)) (.int .u64 N) (.slice none 0 0) 65
    simp only [World.size_alloc] at hv1
    exact ⟨((Below.refl w.heap.size w).alloc (Nat.le_refl _) _).alloc (by simp) _, hv0.next ((Below.refl _ _).alloc (Nat.le_refl _) _), hv1, OwnR.nil _ _⟩
  case round =>
    clear hv0
    obtain ⟨k, u, hk, rfl, hO⟩ := hrel
    by_cases hlt : k < m
    · obtain ⟨g, off, ur, rfl, hg, hc0, hru⟩ := HR.out.at_ rfl k (by rw [← HM.out]; exact hlt)
      have hcr := (hO.bel.cell (p := ⟨g, off + k, none⟩) hg).trans hc0
      have HRU := Lib.hid (fun W (h : Below w.heap.size w W) => hru.below h (Nat.le_refl _))
      have hz16 : Hid (∀ x ∈ rowAt L k, 0 ≤ x ∧ x < 16) := Lib.hid fun x hx => by have := (OK.out.ris k).2 x hx; omega
      clear hru hc0
      have hl : Hid ((vws L k).length ≤ 4194304) := Lib.hid (by rw [vws_len]; omega)
      go_wp2
      have hOr := hO
      refine wp_region_E_drew (S := (fun w' => w'.cell? ⟨w.heap.size + 1, 1, none⟩ = some u)) (E := fun i => i == 7) (by kernel_rfl) ?_ (fun hHeld => ?_)
      · exact (hO.next (Below.refl _ _).drew).var.c1
      refine wpAnyE_name ?_
      intro wS hwS
      rw [← hwS] at hHeld
      have hbS := below_named hwS
      clear hwS
      replace hO := hO.next hbS
      refine wpAnyE_take (i := 0) (oi := { dst := some 17, op := Go.Op.fieldAddr 65 (Go.Operand.tmp 5) 1, type := 0, pos := "l8_site.go:204", after := #[], guard := none }) (v := ?_) [1, 5, 6, 7] rfl (by kernel_rfl) (by kernel_rfl) (by kernel_rfl) (by kernel_rfl) (fun j hj => by first | (have e : j = 7 := by simpa using hj); (subst e; rfl)) (by kernel_rfl) (fun _ _ _ h => h) (Or.inl ⟨by rfl, ?_⟩) hHeld ?_
      rotate_left
      · intro w hSw; (try dsimp only at hSw); go_simp; try with_reducible rfl
      try simp only [Act.put, List.setIfInBounds_toArray, List.set_cons_zero, List.set_cons_succ]
      refine wpAnyE_take (i := 1) (oi := { dst := some 18, op := Go.Op.load 63 (Go.Operand.tmp 17), type := 63, pos := "l8_site.go:204", after := #[{ on := 0, ground := Go.Ground.data }], guard := none }) (v := ?_) [5, 6, 7] rfl (by kernel_rfl) (by kernel_rfl) (by kernel_rfl) (by kernel_rfl) (fun j hj => by first | (have e : j = 7 := by simpa using hj); (subst e; rfl)) (by kernel_rfl) (fun _ _ _ h => h) (Or.inl ⟨by rfl, ?_⟩) hHeld ?_
      rotate_left
      · intro w hSw; (try dsimp only at hSw); go_simp; try with_reducible rfl
      try simp only [Act.put, List.setIfInBounds_toArray, List.set_cons_zero, List.set_cons_succ]
      refine wpAnyE_take (i := 2) (oi := { dst := some 19, op := Go.Op.move (Go.Operand.tmp 7), type := 26, pos := "l8_site.go:204", after := #[], guard := none }) (v := ?_) [3, 4, 5, 6, 7] rfl (by kernel_rfl) (by kernel_rfl) (by kernel_rfl) (by kernel_rfl) (fun j hj => by first | (have e : j = 7 := by simpa using hj); (subst e; rfl)) (by kernel_rfl) (fun _ _ _ h => h) (Or.inl ⟨by rfl, ?_⟩) hHeld ?_
      rotate_left
      · intro w hSw; (try dsimp only at hSw); go_simp; try with_reducible rfl
      try simp only [Act.put, List.setIfInBounds_toArray, List.set_cons_zero, List.set_cons_succ]
      refine wpAnyE_ready (rs := [3]) (by kernel_rfl) (by simp) ?_
      refine AllReadyE.cons (o := { dst := some 20, op := Go.Op.call { callee := Go.Callee.value (Go.Operand.func 73), args := #[Go.Operand.tmp 19], argTypes := #[26] }, type := 62, pos := "l8_site.go:204", after := #[{ on := 2, ground := Go.Ground.data }], guard := none }) rfl (fun K hK => ?_) AllReadyE.nil
      go_simp
      refine (setOf_any ur (rowAt L k) wS hz16.out (HRU.out _ hO.bel).rd).mono ?_
      rintro e w' ⟨rfl, rfl⟩
      try go_simp
      refine hK.out _ _ (fun _ => ?_) (fun hHeld => ?_)
      · exact hO.var.c1
      replace hHeld := hHeld rfl
      clear hK K
      try simp only [Act.put, List.setIfInBounds_toArray, List.set_cons_zero, List.set_cons_succ]
      refine wpAnyE_ready (rs := [4]) (by kernel_rfl) (by simp) ?_
      refine AllReadyE.cons (o := { dst := some 21, op := Go.Op.buildSlice 63 1 #[(0, Go.Operand.tmp 20)], type := 63, pos := "l8_site.go:204", after := #[{ on := 3, ground := Go.Ground.data }], guard := none }) rfl (fun K hK => ?_) AllReadyE.nil
      go_simp
      refine hK.out _ _ (fun _ => ?_) (fun hHeld => ?_)
      · exact (hO.next ((Below.refl _ _).alloc (Nat.le_refl _) _)).var.c1
      replace hHeld := hHeld rfl
      clear hK K
      try simp only [Act.put, List.setIfInBounds_toArray, List.set_cons_zero, List.set_cons_succ]
      refine wpAnyE_name ?_
      intro w2 hw2
      try rw [← hw2] at hHeld
      have hb2 := below_alloc hw2
      have b0 : w2.cell? ⟨wS.heap.size, 0, none⟩ = some (.int .u64 (vw L k)) := by rw [hw2]; exact new_cell _ _ _
      clear hw2
      replace hO := hO.next hb2
      refine wpAnyE_ready (rs := [5]) (by kernel_rfl) (by simp) ?_
      refine AllReadyE.cons (o := { dst := some 22, op := Go.Op.call { callee := Go.Callee.builtin Go.Builtin.append, args := #[Go.Operand.tmp 18, Go.Operand.tmp 21], argTypes := #[63, 63] }, type := 63, pos := "l8_site.go:204", after := #[{ on := 1, ground := Go.Ground.data }, { on := 4, ground := Go.Ground.data }, { on := 3, ground := Go.Ground.chain }], guard := none }) rfl (fun K hK => ?_) AllReadyE.nil
      have hz2 : w.heap.size + 2 ≤ w2.heap.size := hO.var.lt
      refine step_append_U (by rfl) _ _ (by rfl) (w.heap.size + 2) _ (vws L k) (vw L k) _ (by rfl) (by rfl) hO.row b0 hl.out hz2 ?_
      intro v3 w3 ho3 hg3 hat3
      obtain ⟨av, nv, cv, rfl⟩ := ho3.form3
      have hbn3 : Below (w.heap.size + 2) w2 w3 := (Below.refl _ _).grown hg3 hz2 (fun j hj => (hO.row.lt j hj).1)
      have hres := hO.res.below hbn3 (by omega)
      have hvar := hO.var.below hbn3 (by omega)
      have hbel := hO.bel.trans (hbn3.mono (by omega))
      try go_simp
      refine hK.out _ _ (fun _ => ?_) (fun hHeld => ?_)
      · exact hvar.c1
      replace hHeld := hHeld rfl
      clear hK K
      try simp only [Act.put, List.setIfInBounds_toArray, List.set_cons_zero, List.set_cons_succ]
      refine wpAnyE_take (i := 6) (oi := { dst := some 23, op := Go.Op.fieldAddr 65 (Go.Operand.tmp 5) 1, type := 0, pos := "l8_site.go:204", after := #[{ on := 0, ground := Go.Ground.phase }, { on := 1, ground := Go.Ground.phase }, { on := 2, ground := Go.Ground.phase }, { on := 3, ground := Go.Ground.phase }, { on := 4, ground := Go.Ground.phase }, { on := 5, ground := Go.Ground.phase }], guard := none }) (v := ?_) [7] rfl (by kernel_rfl) (by kernel_rfl) (by kernel_rfl) (by kernel_rfl) (fun j hj => by first | (have e : j = 7 := by simpa using hj); (subst e; rfl)) (by kernel_rfl) (fun _ _ _ h => h) (Or.inl ⟨by rfl, ?_⟩) hHeld ?_
      rotate_left
      · intro w hSw; (try dsimp only at hSw); go_simp; try with_reducible rfl
      try simp only [Act.put, List.setIfInBounds_toArray, List.set_cons_zero, List.set_cons_succ]
      refine wpAnyE_ready (rs := [7]) (by kernel_rfl) (by simp) ?_
      refine AllReadyE.cons (o := { dst := none, op := Go.Op.store 63 (Go.Operand.tmp 23) (Go.Operand.tmp 22), type := 0, pos := "l8_site.go:204", after := #[{ on := 6, ground := Go.Ground.data }, { on := 5, ground := Go.Ground.data }, { on := 5, ground := Go.Ground.chain }, { on := 0, ground := Go.Ground.phase }, { on := 1, ground := Go.Ground.phase }, { on := 2, ground := Go.Ground.phase }, { on := 3, ground := Go.Ground.phase }, { on := 4, ground := Go.Ground.phase }, { on := 5, ground := Go.Ground.phase }], guard := none }) rfl (fun K hK => ?_) AllReadyE.nil
      have hf1 := hvar.fz 1
      have hc1 := hvar.c1
      go_simp
      refine hK.out _ _ (fun h => absurd h (by decide)) (fun _ => ?_)
      clear hK K
      try simp only [Act.put, List.setIfInBounds_toArray, List.set_cons_zero, List.set_cons_succ]
      refine wpAnyE_done (by kernel_rfl) ?_ _
      have hO' : Hid (ObI w (w3.setCell ⟨w.heap.size + 1, 1, none⟩ (.slice av nv cv)) N L (k + 1) (.slice av nv cv)) := Lib.hid ⟨hbel.setCell (by show w.heap.size ≤ w.heap.size + 1; omega) _, hres.set (by omega), hvar.put1, by rw [vws_succ]; exact ho3.setFar (by omega)⟩
      clear hvar hres hbel hO hOr
      go_wp2
      go_roundw
      case rel => exact ⟨k + 1, (.slice av nv cv), by omega, by go_num, hO'.out⟩
      case measure => simp [intOf]; omega
    · obtain rfl : k = m := by omega
      obtain ⟨au, nu, cu, rfl⟩ := hO.row.form3
      have q0 := hO.var.c0
      have q1 := hO.var.c1
      have r0 := hO.res.c0
      have r1 := hO.res.c1
      have f0 := hO.res.fz 0
      have f1 := hO.res.fz 1
      have HO := Lib.hid hO
      clear hO
      go_wp2
      have HB : Hid (Below w.heap.size w ((wr.setCell ⟨w.heap.size, 0, none⟩ (.int .u64 N)).setCell ⟨w.heap.size, 1, none⟩ (.slice au nu cu))) := Lib.hid ((HO.out.bel.setCell (p := ⟨w.heap.size, 0, none⟩) (Nat.le_refl _) _).setCell (p := ⟨w.heap.size, 1, none⟩) (Nat.le_refl _) _)
      have HV : Hid (RdV ((wr.setCell ⟨w.heap.size, 0, none⟩ (.int .u64 N)).setCell ⟨w.heap.size, 1, none⟩ (.slice au nu cu)) (.slice au nu cu) L) := Lib.hid (by
        unfold RdV
        rw [← HM.out]
        exact ((HO.out.row.setFar (by omega)).setFar (by omega)).rd)
      refine bodyPost_ret (v := .agg #[.int .u64 N, .slice au nu cu]) (by simp [results, Try.results55, go_sem, *]) rfl ⟨_, rfl, HV.out, HB.out⟩
end Go.Proofs.Ytpmdjdlojbpcfaa
