/- The laws' helpers on Ground and slices of them. Written by a generator of this claim's author. -/
import Derived.Test.YtkdmjeonlghnjaaTy2
import Derived.Test.YtkdmjeonlghnjaaHelp
import Derived.Deep.RegionWith
import Derived.Deep.AppendLies
import Derived.Maps.AppendAt
namespace Go.Proofs.Ytkdmjeonlghnjaa
open Go.RowKit
set_option linter.unusedSimpArgs false
set_option linter.unusedVariables false

theorem Try_info_Ground : (Try.prog.info? 72).map (fun i => (i.zero, i.size, i.bytes)) = some (some (.agg #[.int .i64 0, .int .i64 0]), 2, 16) := by kernel_rfl

set_option maxHeartbeats 400000 in
theorem toGround_any (x0 x1 : Int) (w : World) :
    Calls Try.prog 98 #[.agg #[.int .i64 x0, .int .i64 x1]] w fun e w' => e = .returned (.agg #[.int .i64 x0, .int .i64 x1]) ∧ Below w.heap.size w w' := by
  go_enter Try.func98, Try.ntmps98
  go_wp2
  refine bodyPost_ret (v := .agg #[.int .i64 x0, .int .i64 x1]) (by simp [results, Try.results98, go_sem]) rfl ⟨rfl, ?_⟩
  repeat' first
    | exact Below.refl _ _
    | exact Nat.le_refl _
    | (refine Below.setCell ?_ ?_ _)
    | (refine Below.alloc ?_ ?_ _)
    | (simp; done)
    | (simp; omega)

theorem eqGround_true (x0 x1 : Int) (w : World) :
    Calls Try.prog 99 #[.agg #[.int .i64 x0, .int .i64 x1], .agg #[.int .i64 x0, .int .i64 x1]] w fun e w' => e = .returned (.bool true) ∧ Below w.heap.size w w' := by
  go_enter Try.func99, Try.ntmps99
  go_wp2
  go_ret
  exact ⟨rfl, ((Below.refl _ _).alloc (Nat.le_refl _) _).alloc (by simp) _⟩

theorem szGroundS_any (v : Value) (ts : List T2) (left : Int) (w : World) (h0 : 0 ≤ left) (h1 : left ≤ 1048576) (hr : RdR c2 2 w v ts) :
    Calls Try.prog 84 #[v, .int .i64 left] w fun e w' => w = w' ∧ ∃ r : Int, e = .returned (.int .i64 r) ∧ (r = -1 ∨ (0 ≤ r ∧ r = left - ts.length)) := by
  have hm := hr.max
  unfold maxLen at hm
  obtain ⟨a, cap, rfl, -⟩ := hr.len
  by_cases h : (ts.length : Int) ≤ left
  · go_enter Try.func84, Try.ntmps84
    go_wp2
    go_ret
    exact ⟨rfl, _, rfl, .inr ⟨by omega, rfl⟩⟩
  · go_enter Try.func84, Try.ntmps84
    go_wp2
    go_ret
    exact ⟨rfl, _, rfl, .inl rfl⟩

set_option maxHeartbeats 400000 in
theorem toGroundS_any (v : Value) (ts : List T2) (w : World) (hz : ts.length ≤ 1048576) (hr : RdR c2 2 w v ts) :
    Calls Try.prog 85 #[v] w fun e w' => ∃ v', e = .returned v' ∧ OwnR 72 c2 2 w' w.heap.size v' ts ∧ Below w.heap.size w w' := by
  obtain ⟨i0, hi, hz0, hz1, hz2⟩ := info_parts Try_info_Ground
  obtain ⟨a, cap, hv, -⟩ := hr.len
  obtain ⟨n, hn⟩ : ∃ n, ts.length = n := ⟨_, rfl⟩
  have HR := Lib.hid hr
  clear hr
  rw [hn] at hz hv
  subst hv
  have HN := Lib.hid hn
  clear hn
  go_enter Try.func85, Try.ntmps85
  go_wp2_with (refine wpList_make_full _ rfl _ _ 23 rfl w.heap.size 72 i0 (.agg #[.int .i64 0, .int .i64 0]) 2 Try.underlying23 hi hz0 hz1 .i64 .i64 _ _ n rfl rfl rfl rfl (by rw [hz2]; omega) (by unfold maxLen; omega) (Nat.le_refl _) ?_; intro w1 hown1 hgrow1)
  have ho0 : OwnR 72 c2 2 w1 w.heap.size (.slice (some ⟨w.heap.size, 0, none⟩) n n) (padR2 ts n 0) := OwnR.made2 HN.out hown1
  have hb0 : Below w.heap.size w w1 := (Below.refl _ _).grown hgrow1 (Nat.le_refl _) (fun k h => by cases h)
  clear hown1 hgrow1
  go_loopw [4] (fun i wr => ∃ i0 : Nat, i0 ≤ n ∧ i = .int .i64 i0 ∧ OwnR 72 c2 2 wr w.heap.size (.slice (some ⟨w.heap.size, 0, none⟩) n n) (padR2 ts n i0) ∧ Below w.heap.size w wr ∧ w.heap.size < wr.heap.size) (fun i wr => n - (intOf i).toNat)
  case atStart => exact ⟨0, Nat.zero_le _, rfl, ho0, hb0, (ho0.lt _ rfl).2⟩
  case round =>
    obtain ⟨i, hi, rfl, hown, hbel, hsz⟩ := hrel
    by_cases hlt : i < n
    · obtain ⟨g, off, rfl, hg, q0, q1⟩ := (HR.out.below hbel (Nat.le_refl _)).at2 HN.out.symm i hlt
      go_wp2_with fail
      refine (toGround_any _ _ _).mono ?_
      rintro e w1 ⟨rfl, hb⟩
      have hsz1 := hb.size
      have hown1 := hown.later hb
      have hP := hown1.put2 (rAt ts i) (by rw [padR2_len HN.out hi]; exact hlt)
      rw [padR2_step HN.out hlt] at hP
      obtain ⟨o0, o1⟩ := hown1.at2 i (by rw [padR2_len HN.out hi]; exact hlt)
      have f0 := hown1.frozen (i * 2)
      have f1 := hown1.frozen (i * 2 + 1)
      have HP := Lib.hid hP
      have hb2 := hbel.trans (hb.mono hbel.size)
      clear hP hown1
      go_wp2
      go_roundw
      case rel => exact ⟨i + 1, by omega, by go_num, HP.out.1, hb2.grown HP.out.2 (by omega) (fun j hj => by cases hj; exact Nat.le_refl _), by simp; omega⟩
      case measure => simp [intOf]; omega
    · have : i = n := by omega
      subst this
      go_wp2
      go_ret
      exact ⟨_, rfl, by rw [← padR2_all HN.out]; exact hown, hbel⟩

set_option maxHeartbeats 400000 in
theorem eqGroundS_true (v1 v2 : Value) (ts : List T2) (w : World) (h1 : RdR c2 2 w v1 ts) (h2 : RdR c2 2 w v2 ts) :
    Calls Try.prog 86 #[v1, v2] w fun e w' => e = .returned (.bool true) ∧ Below w.heap.size w w' := by
  have hm := h1.max
  unfold maxLen at hm
  obtain ⟨a1, c1, rfl, -⟩ := h1.len
  obtain ⟨a2, c2, rfl, -⟩ := h2.len
  obtain ⟨n, hn⟩ : ∃ n, n = ts.length := ⟨_, rfl⟩
  have HN := Lib.hid hn
  have H1 := Lib.hid h1
  have H2 := Lib.hid h2
  rw [← hn] at hm ⊢
  clear hn h1 h2
  go_enter Try.func86, Try.ntmps86
  go_wp2
  go_loopw [5] (fun i wr => ∃ i0 : Nat, i0 ≤ n ∧ i = .int .i64 i0 ∧ Below w.heap.size w wr) (fun i wr => n - (intOf i).toNat)
  case atStart => exact ⟨0, Nat.zero_le _, rfl, Below.refl _ _⟩
  case round =>
    obtain ⟨i, hi, rfl, hb⟩ := hrel
    by_cases hlt : i < n
    · obtain ⟨g1, o1, rfl, hg1, p0, p1⟩ := (H1.out.below hb (Nat.le_refl _)).at2 (by rw [← HN.out]) i (by rw [← HN.out]; exact hlt)
      obtain ⟨g2, o2, rfl, hg2, q0, q1⟩ := (H2.out.below hb (Nat.le_refl _)).at2 (by rw [← HN.out]) i (by rw [← HN.out]; exact hlt)
      have hbd := hb.drew
      go_wp2
      go_region_with ((go_at_call 99; refine (eqGround_true (rAt ts i).x0 (rAt ts i).x1 wr.drew).mono ?_; rintro e w' ⟨rfl, hb'⟩))
      all_goals
        go_wp2
        go_roundw
        case rel => exact ⟨i + 1, by omega, by go_num, hbd.trans (hb'.mono hbd.size)⟩
        case measure => simp [intOf]; omega
    · go_wp2
      go_ret
      exact ⟨rfl, hb⟩

set_option maxHeartbeats 800000 in
theorem markGroundS_any (B : Nat) (v : Value) (ts : List T2) (k0 : Int) (w : World) (h0 : 0 ≤ k0) (h1 : k0 ≤ 1099511627776) (hz : ts.length ≤ 1048576) (ho : OwnR 72 c2 2 w B v ts) :
    Calls Try.prog 87 #[v, .int .i64 k0] w fun e w' => e = .returned (.int .i64 (k0 + 2 * ts.length)) ∧ OwnR 72 c2 2 w' B v (markR2 k0 ts.length) ∧ w.grownBy w' v.ownBlock := by
  rcases ho.cases with ⟨rfl, rfl⟩ | ⟨g, cap, rfl, hB, hg, hl, hm⟩
  · go_enter Try.func87, Try.ntmps87
    go_wp2
    go_loopw [1, 5] (fun t i wr => i = .int .i64 0 ∧ t = .int .i64 k0 ∧ wr = w) (fun t i wr => 0)
    case atStart => exact ⟨rfl, rfl, rfl⟩
    case round =>
      obtain ⟨rfl, rfl, rfl⟩ := hrel
      go_wp2
      go_ret
      exact ⟨by simp, by simpa [markR2] using ho, World.grownBy.refl _ _⟩
  · obtain ⟨n, hn⟩ : ∃ n, n = ts.length := ⟨_, rfl⟩
    have HN := Lib.hid hn
    have HO : Hid (OwnR 72 c2 2 w B (.slice (some ⟨g, 0, none⟩) n cap) (markR2 k0 0 ++ ts.drop 0)) := Lib.hid (by rw [markR2_zero, hn]; exact ho)
    rw [← hn] at hz hl ⊢
    clear hn ho
    unfold maxLen at hm
    go_enter Try.func87, Try.ntmps87
    go_wp2
    go_loopw [1, 5] (fun t i wr => ∃ i0 : Nat, i0 ≤ n ∧ i = .int .i64 i0 ∧ t = .int .i64 (k0 + 2 * i0) ∧ OwnR 72 c2 2 wr B (.slice (some ⟨g, 0, none⟩) n cap) (markR2 k0 i0 ++ ts.drop i0) ∧ w.grownBy wr (some g)) (fun t i wr => n - (intOf i).toNat)
    case atStart => exact ⟨0, Nat.zero_le _, rfl, by simp, HO.out, World.grownBy.refl _ _⟩
    case round =>
      obtain ⟨i, hi, rfl, rfl, hown, hgr⟩ := hrel
      by_cases hlt : i < n
      · have hle : (markR2 k0 i ++ ts.drop i).length = n := by rw [markR2_cat _ _ _ (by rw [← HN.out]; exact hi), HN.out]
        have hP := hown.put2 ⟨k0 + 2 * (i : Int), k0 + 2 * (i : Int) + 1⟩ (i := i) (by rw [hle]; exact hlt)
        rw [markR2_step k0 ts i (by rw [← HN.out]; exact hlt)] at hP
        obtain ⟨o0, o1⟩ := hown.at2 i (by rw [hle]; exact hlt)
        have f0 := hown.frozen (i * 2)
        have f1 := hown.frozen (i * 2 + 1)
        have HP := Lib.hid hP
        clear hP hown hle
        go_wp2
        go_roundw
        case rel => exact ⟨i + 1, by omega, by go_num, by go_num, HP.out.1, hgr.trans HP.out.2⟩
        case measure => simp [intOf]; omega
      · have : i = n := by omega
        subst this
        go_wp2
        go_ret
        exact ⟨rfl, by rw [HN.out] at hown ⊢; rw [markR2_all] at hown; exact hown, hgr⟩

set_option maxHeartbeats 400000 in
theorem heldGroundS_any (v : Value) (n : Nat) (k0 : Int) (w : World) (h0 : 0 ≤ k0) (h1 : k0 ≤ 1099511627776) (hz : n ≤ 1048576) (hr : RdR c2 2 w v (markR2 k0 n)) :
    Calls Try.prog 88 #[v, .int .i64 k0] w fun e w' => e = .returned (.int .i64 (k0 + 2 * n)) ∧ w' = w := by
  obtain ⟨a, cap, rfl, -⟩ := hr.len
  rw [markR2_len] at hr ⊢
  have HR := Lib.hid hr
  clear hr
  go_enter Try.func88, Try.ntmps88
  go_wp2
  go_loopw [1, 5] (fun t i wr => ∃ i0 : Nat, i0 ≤ n ∧ i = .int .i64 i0 ∧ t = .int .i64 (k0 + 2 * i0) ∧ wr = w) (fun t i wr => n - (intOf i).toNat)
  case atStart => exact ⟨0, Nat.zero_le _, rfl, by simp, rfl⟩
  case round =>
    obtain ⟨i, hi, rfl, rfl, rfl⟩ := hrel
    by_cases hlt : i < n
    · obtain ⟨g1, o1, rfl, hg1, p0, p1⟩ := HR.out.at2 (by rw [markR2_len]) i hlt
      rw [markR2_at _ _ _ hlt] at p0 p1
      go_wp2
      go_roundw
      case rel => exact ⟨i + 1, by omega, by go_num, by go_num, by first | rfl | trivial⟩
      case measure => simp [intOf]; omega
    · have : i = n := by omega
      subst this
      go_wp2
      go_ret
      exact ⟨rfl, rfl⟩

/-! ### append -/
theorem OwnR.emptyGround (w : World) (B : Nat) (hB : B ≤ w.heap.size) : OwnR 72 c2 2 (w.alloc (.cells #[] 72)) B (.slice (some ⟨w.heap.size, 0, none⟩) 0 0) ([] : List T2) :=
  World.ownsRow_made w #[] 0 hB (by decide) rfl
theorem wp_append_GroundS {w : World} {o : Oper} {a : Act} {K : Act → World → Prop} {Q : Exit → Act → World → Prop} (s x : Operand)
    (ho : o.op = .call { callee := .builtin .append, args := #[s, x], argTypes := #[23, 23] })
    (B : Nat) (v u : Value) (ts us : List T2) (hs : a.eval s = v) (hx : a.eval x = u) (hown : OwnR 72 c2 2 w B v ts) (hrd : RdR c2 2 w u us) (hlen : ts.length + us.length ≤ 4194304) (hB : B ≤ w.heap.size)
    (hK : ∀ v' w', OwnR 72 c2 2 w' B v' (ts ++ us) → w.grownBy w' v.ownBlock → (v'.ownBlock = v.ownBlock ∨ v'.ownBlock = some w.heap.size) → K (a.put o.dst v') w') : o.wp Try.prog a w K Q := by
  obtain ⟨i0, hi, hz0, hz1, hz2⟩ := info_parts Try_info_Ground
  have main : ∀ (ad : Addr) (c : Nat), a.eval x = .slice (some ad) us.length c → (∀ i, i < us.length → ∀ f, f < 2 → w.cell? (ad.add (i * 2 + f)) = some (c2 (rAt us i) f)) → o.wp Try.prog a w K Q := by
    intro ad c hxa hc
    obtain ⟨v', w', hr, h2, h3, h4, h5⟩ := run_append_own_at (P := Try.prog) w B 23 o.type 72 i0 _ 2 16 Try.underlying23 hi hz0 hz1 hz2 rfl (by decide) v ts.length (flatR c2 2 ts) hown
      ad us.length c (flatR c2 2 us) (flatR_len _ _ _) (fun j u' hj => by
        have hjl : j < us.length * 2 := by rw [← flatR_len c2 2 us]; exact (List.getElem?_eq_some_iff.1 hj).1
        obtain ⟨h1, h2, h3⟩ := flatR_split hjl
        rw [h3, flatR_get _ _ _ _ _ h1 h2] at hj
        cases hj
        conv => lhs; rw [h3]
        exact hc _ h1 _ h2) (by
        intro u' hu
        obtain ⟨j, hj, e⟩ := List.getElem_of_mem hu
        have hjl : j < us.length * 2 := by rw [← flatR_len c2 2 us]; exact hj
        obtain ⟨h1, h2, h3⟩ := flatR_split hjl
        have e' : (flatR c2 2 us)[j]? = some u' := by rw [List.getElem?_eq_getElem hj, e]
        rw [h3, flatR_get _ _ _ _ _ h1 h2] at e'
        cases e'
        match j % 2, h2 with
        | 0, _ => rfl
        | 1, _ => rfl
        | n + 2, h => omega) (by unfold maxLen; omega) (by omega) hB
    unfold Oper.wp execOp
    simp only [ho, resolve, invoke, builtin, Sem.run_bind, Sem.run_pure, Result.andThen_ok, List.map_toArray, List.map_cons, List.map_nil, hs, hxa, hr]
    refine hK v' w' ?_ h3 h5
    unfold OwnR
    rw [flatR_append, List.length_append]
    exact h2
  rcases hrd with ⟨rfl, ad, cap, rfl, hn⟩ | ⟨g, off, cap, rfl, hg, hl, hm, hc⟩
  · cases ad with
    | none =>
      obtain rfl := hn rfl
      have hrun := run_append_owned_none (P := Try.prog) (w := w) B 23 o.type 72 i0 2 Try.underlying23 hi v ts.length (flatR c2 2 ts) hown
      unfold Oper.wp
      simp [execOp, ho, resolve, invoke, builtin, hs, hx, hrun, Result.andThen]
      exact hK v w (by simpa using hown) (World.grownBy.refl _ _) (.inl rfl)
    | some ad => exact main ad cap hx (fun i hi => absurd hi (by simp))
  · refine main ⟨g, off, none⟩ cap hx fun i hi f hf => ?_
    have ha : (⟨g, off, none⟩ : Addr).add (i * 2 + f) = ⟨g, off + i * 2 + f, none⟩ := by unfold Addr.add; split <;> simp_all <;> omega
    rw [ha]
    exact hc i hi f hf
theorem append_GroundS {w : World} {ops : Array Oper} {rest : List Oper} {o : Oper} {a : Act} {Q : Exit → Act → World → Prop} (hgd : o.guard = none) (s x : Operand)
    (ho : o.op = .call { callee := .builtin .append, args := #[s, x], argTypes := #[23, 23] })
    (B : Nat) (v u : Value) (ts us : List T2) (hs : a.eval s = v) (hx : a.eval x = u) (hown : OwnR 72 c2 2 w B v ts) (hrd : RdR c2 2 w u us) (hlen : ts.length + us.length ≤ 4194304) (hB : B ≤ w.heap.size)
    (hK : ∀ v' w', OwnR 72 c2 2 w' B v' (ts ++ us) → w.grownBy w' v.ownBlock → (v'.ownBlock = v.ownBlock ∨ v'.ownBlock = some w.heap.size) → wpList Try.prog ops Q rest (a.put o.dst v') w') : wpList Try.prog ops Q (o :: rest) a w :=
  wpList_plain hgd fun _ hK' => wp_append_GroundS s x ho B v u ts us hs hx hown hrd hlen hB fun v' w' h1 h2 h3 => hK' _ _ (hK v' w' h1 h2 h3)
theorem step_append_GroundS {w : World} {ops : Array Oper} {o : Oper} {a : Act} {K : Act → World → Prop} {Q : Exit → Act → World → Prop} {E : Prop} (hgd : o.guard = none) (s x : Operand)
    (ho : o.op = .call { callee := .builtin .append, args := #[s, x], argTypes := #[23, 23] })
    (B : Nat) (v u : Value) (ts us : List T2) (hs : a.eval s = v) (hx : a.eval x = u) (hown : OwnR 72 c2 2 w B v ts) (hrd : RdR c2 2 w u us) (hlen : ts.length + us.length ≤ 4194304) (hB : B ≤ w.heap.size)
    (hK : ∀ v' w', OwnR 72 c2 2 w' B v' (ts ++ us) → w.grownBy w' v.ownBlock → (v'.ownBlock = v.ownBlock ∨ v'.ownBlock = some w.heap.size) → K (a.put o.dst v') w') : if Region.wanted o (yielded ops a.tmps) = true then Oper.wp Try.prog o a w K Q else E := by
  have hw : Region.wanted o (yielded ops a.tmps) = true := by simp [Region.wanted, hgd]
  rw [if_pos hw]
  exact wp_append_GroundS s x ho B v u ts us hs hx hown hrd hlen hB hK
end Go.Proofs.Ytkdmjeonlghnjaa
