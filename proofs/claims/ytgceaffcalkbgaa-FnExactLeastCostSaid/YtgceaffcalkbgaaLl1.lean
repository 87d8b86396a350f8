/- Chapter 4: the order of weights by the model. -/
import Derived.Test.YtgceaffcalkbgaaLl0
import Derived.Test.YtgceaffcalkbgaaCo3
import Derived.Deep.RegionHeld3
import Derived.Maps.AppendAt
namespace Go.Proofs.Ytgceaffcalkbgaa
open Go.RowKit
set_option linter.unusedSimpArgs false
set_option linter.unusedVariables false

theorem l1Own_any (v : Value) (zs : List Int) (w : World) (hz : zs.length ≤ 1099511627776) (hr : Rd w v zs) :
    Calls Try.prog 100 #[v] w fun e w' => ∃ v', e = .returned v' ∧ Own w' w.heap.size v' zs ∧ Below w.heap.size w w' := by
  have he := Own.empty w w.heap.size (Nat.le_refl _)
  have hb := (Below.refl w.heap.size w).alloc (Nat.le_refl _) (.cells #[] 3)
  have hr1 := hr.later hb
  obtain ⟨a, cap, hv⟩ := hr.len
  subst hv
  have HR := Lib.hid hr1
  have HE := Lib.hid he
  clear hr hr1 he
  go_enter Try.func100, Try.ntmps100
  go_wp2_with (at_builtin; refine append_ints rfl _ _ rfl w.heap.size _ [] zs _ rfl rfl HE.out HR.out (by simpa using hz) (by simp) ?_; intro v' w1 hown1 hgrow1)
  go_ret
  exact ⟨_, rfl, by simpa using hown1, hb.grown hgrow1 (by simp) (fun k hk => (HE.out.lt k hk).1)⟩

theorem step_append_int {w : World} {ops : Array Oper} {o : Oper} {a : Act} {K : Act → World → Prop} {Q : Exit → Act → World → Prop} {E : Prop} (hgd : o.guard = none) (s x : Operand)
    (ho : o.op = .call { callee := .builtin .append, args := #[s, x], argTypes := #[23, 23] })
    (B : Nat) (v : Value) (zs : List Int) (z : Int) (h : Nat) (hs : a.eval s = v) (hx : a.eval x = .slice (some ⟨h, 0, none⟩) 1 1)
    (hown : Own w B v zs) (hcell : w.cell? ⟨h, 0, none⟩ = some (.int .i64 z)) (hlen : zs.length ≤ 1099511627776) (hB : B ≤ w.heap.size)
    (hK : ∀ v' w', Own w' B v' (zs ++ [z]) → w.grownBy w' v.ownBlock → K (a.put o.dst v') w') : if Region.wanted o (yielded ops a.tmps) = true then Oper.wp Try.prog o a w K Q else E := by
  have hw : Region.wanted o (yielded ops a.tmps) = true := by simp [Region.wanted, hgd]
  rw [if_pos hw]
  obtain ⟨i0, hi, hz0, hz1, hz2⟩ := info_parts Try_info_int
  refine wp_append_own w s x 23 ho B 3 i0 (.int .i64 0) 1 8 Try.underlying23 hi hz0 hz1 hz2 rfl (by decide) v zs.length (zs.map (Value.int .i64)) hs hown
    ⟨h, 0, none⟩ 1 1 [.int .i64 z] hx rfl ?_ ?_ (by unfold maxLen; omega) (by omega) hB ?_
  · intro j u hj
    match j, hj with
    | 0, hj => simp at hj; subst hj; simpa [Addr.add] using hcell
  · intro u hu; simp at hu; subst hu; rfl
  · intro v' w' h1 h2 _
    refine hK v' w' ?_ h2
    unfold Own
    simpa using h1
theorem step_append_ints {w : World} {ops : Array Oper} {o : Oper} {a : Act} {K : Act → World → Prop} {Q : Exit → Act → World → Prop} {E : Prop} (hgd : o.guard = none) (s x : Operand)
    (ho : o.op = .call { callee := .builtin .append, args := #[s, x], argTypes := #[23, 23] })
    (B : Nat) (v : Value) (zs ys : List Int) (u : Value) (hs : a.eval s = v) (hx : a.eval x = u)
    (hown : Own w B v zs) (hrd : ∃ ad c, u = .slice (some ad) ys.length c ∧ ∀ j, j < ys.length → w.cell? (ad.add j) = some (.int .i64 (ys[j]?.getD 0))) (hlen : zs.length + ys.length ≤ 1099511627776) (hB : B ≤ w.heap.size)
    (hK : ∀ v' w', Own w' B v' (zs ++ ys) → w.grownBy w' v.ownBlock → K (a.put o.dst v') w') : if Region.wanted o (yielded ops a.tmps) = true then Oper.wp Try.prog o a w K Q else E := by
  have hw : Region.wanted o (yielded ops a.tmps) = true := by simp [Region.wanted, hgd]
  rw [if_pos hw]
  obtain ⟨i0, hi, hz0, hz1, hz2⟩ := info_parts Try_info_int
  obtain ⟨ad, c, rfl, hc⟩ := hrd
  refine wp_append_own w s x 23 ho B 3 i0 (.int .i64 0) 1 8 Try.underlying23 hi hz0 hz1 hz2 rfl (by decide) v zs.length (zs.map (Value.int .i64)) hs hown
    ad ys.length c (ys.map (Value.int .i64)) hx (by simp) ?_ (ints_oneCell _ _) (by unfold maxLen; omega) (by omega) hB ?_
  · intro j u hj
    have hjl : j < ys.length := by
      have := (List.getElem?_eq_some_iff.1 hj).1
      simpa using this
    rw [hc j hjl]
    rw [List.getElem?_map, List.getElem?_eq_getElem hjl] at hj
    simp at hj
    subst hj
    simp [hjl]
  · intro v' w' h1 h2 _
    refine hK v' w' ?_ h2
    unfold Own
    simpa using h1
theorem step_append_none {w : World} {ops : Array Oper} {o : Oper} {a : Act} {K : Act → World → Prop} {Q : Exit → Act → World → Prop} {E : Prop} (hgd : o.guard = none) (s x : Operand)
    (ho : o.op = .call { callee := .builtin .append, args := #[s, x], argTypes := #[23, 23] })
    (B : Nat) (v : Value) (zs : List Int) (hs : a.eval s = v) (hx : a.eval x = .slice none 0 0)
    (hown : Own w B v zs) (hK : K (a.put o.dst v) w) : if Region.wanted o (yielded ops a.tmps) = true then Oper.wp Try.prog o a w K Q else E := by
  have hw : Region.wanted o (yielded ops a.tmps) = true := by simp [Region.wanted, hgd]
  rw [if_pos hw]
  obtain ⟨i0, hi, hz0, hz1, hz2⟩ := info_parts Try_info_int
  have hrun := run_append_owned_none (P := Try.prog) (w := w) B 23 o.type 3 i0 1 Try.underlying23 hi v _ _ hown
  unfold Oper.wp
  simp [execOp, ho, resolve, invoke, builtin, hs, hx, hrun, Result.andThen]
  exact hK
/-- The rest of an own slice, behind a copy's growth. -/
theorem own_after {w w1 w2 : World} {B : Nat} {v u : Value} {zs ys : List Int} {o : Obj} (h : Own w B v zs) (hb : Below w.heap.size w w1) (ho : Own w1 w.heap.size u ys) (hg : (w1.alloc o).grownBy w2 u.ownBlock) : Own w2 B v zs :=
  Own.kept ((h.later hb).alloc o) hg (h.apart (Nat.le_refl _) ho)
theorem own_cells {w : World} {B g n cap : Nat} {zs : List Int} (h : Own w B (.slice (some ⟨g, 0, none⟩) n cap) zs) (k : Nat) (hk : k ≤ n) (hn : zs.length = n) : ∀ j, j < (zs.drop k).length → w.cell? ((⟨g, k, none⟩ : Addr).add j) = some (.int .i64 ((zs.drop k)[j]?.getD 0)) := by
  intro j hj
  rw [List.length_drop] at hj
  have ha : (⟨g, k, none⟩ : Addr).add j = ⟨g, k + j, none⟩ := by unfold Addr.add; split <;> simp_all
  have h' : w.ownsRow B 3 1 (.slice (some ⟨g, 0, none⟩) n cap) n (zs.map (Value.int .i64)) := by unfold Own at h; rw [hn] at h; exact h
  rw [ha, h'.cellAt (k + j) (by omega), List.getElem?_map, List.getElem?_drop, List.getElem?_eq_getElem (by omega)]
  rfl
theorem insR_ints {p : Nat → Bool} {x : Nat} {S : List Nat} {k : Nat} (h : posF p S S.length = k) : (ints S).take k ++ [(x : Int)] ++ (ints S).drop k = ints (insR p x S) := by
  unfold insR ints
  rw [h, List.map_append, List.map_cons, List.map_take, List.map_drop, List.append_assoc]; rfl

set_option maxRecDepth 100000 in
set_option maxHeartbeats 4000000 in
theorem cmOrder_any (v : Value) (ws : List Int) (w : World) (hr : Rd w v ws) (h20 : ws.length ≤ 20) :
    Calls Try.prog 93 #[v] w fun e w' => ∃ v', e = .returned v' ∧ Own w' w.heap.size v' (ints (ordTo (ltW ws) ws.length)) ∧ Below w.heap.size w w' := by
  obtain ⟨a, cap, rfl⟩ := hr.len
  obtain ⟨n, hn⟩ : ∃ n, n = ws.length := ⟨_, rfl⟩
  rw [← hn] at h20 ⊢
  have HN := Lib.hid hn
  have HR := Lib.hid hr
  clear hn hr
  go_enter Try.func93, Try.ntmps93
  go_wp2
  go_loopw [3, 9] (fun u i wr => ∃ k : Nat, k ≤ n ∧ i = .int .i64 k ∧ Own wr w.heap.size u (ints (ordTo (ltW ws) k)) ∧ Below w.heap.size w wr ∧ (k = 0 → u = .slice none 0 0)) (fun u i wr => n - (intOf i).toNat)
  case atStart => exact ⟨0, Nat.zero_le _, rfl, Own.nil _ _, Below.refl _ _, fun _ => rfl⟩
  case round =>
    obtain ⟨k, hk, rfl, hown, hbl, hnil⟩ := hrel
    by_cases hlt : k < n
    · obtain ⟨g1, o1, e1, hg1, p1⟩ := (HR.out.below hbl (Nat.le_refl _)).at_ rfl k (by rw [← HN.out]; exact hlt)
      subst e1
      have hlk : (ints (ordTo (ltW ws) k)).length = k := by rw [ints_len, ordTo_len]
      by_cases hk0 : k = 0
      · have hu := hnil hk0
        subst hu
        have hfin : Hid (∀ (W : World) (v : Value), Own W w.heap.size v ([] ++ [(k : Int)]) → Own W w.heap.size v (ints (ordTo (ltW ws) (k + 1)))) := Lib.hid fun W v h => by subst hk0; exact h
        clear hnil hown hk0 hlk
        have hbD := hbl.drew
        have hsz := hbl.size
        have HNr := Lib.hid (fun W : World => (Own.nil W w.heap.size).rd)
        go_wp2
        go_loop [6] (fun i => i = .int .i64 0) (fun i => 0)
        case atStart => rfl
        case round =>
          obtain rfl := hrel
          go_wp2
          go_region_held3 (fun _ => True)
            (trivial)
            (first | (go_at_call 100; refine (l1Own_any _ [] _ (by decide) (HNr.out _)).mono ?_; rintro e w1 ⟨u1, rfl, ho1, hb1⟩) | (have t1 := hb1.size; have hoB := ho1.base (B' := w.heap.size) (by simp at *; omega); refine step_append_int (by rfl) _ _ (by rfl) w.heap.size _ [] k w1.heap.size (by rfl) (by rfl) (hoB.alloc _) (new_cell _ _ _) (by decide) (by simp at *; omega) ?_; intro v2 w2 ho2 hg2; have hbF := ((hbD.trans (hb1.mono (by simp at *; omega))).alloc (by simp at *; omega) _).grown hg2 (by simp at *; omega) (fun j hj => (hoB.lt j hj).1); have hs2 := hbF.size) | (have t1 := hb1.size; have hoB := ho1.base (B' := w.heap.size) (by simp at *; omega); refine step_append_int (by rfl) _ _ (by rfl) w.heap.size _ [] k wr.heap.size (by rfl) (by rfl) hoB (by rw [hb1.cell (p := ⟨wr.heap.size, 0, none⟩) (by simp)]; exact new_cell _ _ _) (by decide) (by simp at *; omega) ?_; intro v2 w2 ho2 hg2; have hbF := ((hbl.alloc hsz _).drew.trans (hb1.mono (by simp at *; omega))).grown hg2 (by simp at *; omega) (fun j hj => (hoB.lt j hj).1); have hs2 := hbF.size) | (refine step_append_none (by rfl) _ _ (by rfl) w.heap.size _ [(k : Int)] (by rfl) (by rfl) ho2 ?_))
          all_goals
            have HF := Lib.hid (hfin.out _ _ ho2)
            clear ho2
            go_wp2
            go_roundw
            case rel => exact ⟨k + 1, by omega, by go_num, HF.out, hbF, by omega⟩
            case measure => simp [intOf]; omega
      · obtain ⟨g, cp, rfl, hBg, hgs⟩ := hown.nonnil (k - 1) (by omega)
        rw [show k - 1 + 1 = k by omega] at hown ⊢
        have HO := Lib.hid hown
        clear hown hnil
        obtain ⟨k1, hk1⟩ : ∃ k1, k1 = k := ⟨_, rfl⟩
        subst hk1
        have hk1p : 1 ≤ k1 := by omega
        obtain ⟨x, hx⟩ : ∃ x, x = ws[k1]?.getD 0 := ⟨_, rfl⟩
        rw [← hx] at p1
        have HX := Lib.hid hx
        clear hx
        go_wp2
        go_loop [6] (fun i => ∃ j : Nat, j ≤ k1 ∧ i = .int .i64 j ∧ Hid (posF (fun y => ltW ws k1 y) (ordTo (ltW ws) k1) k1 = posF (fun y => ltW ws k1 y) (ordTo (ltW ws) k1) j)) (fun i => (intOf i).toNat)
        case atStart => exact ⟨k1, Nat.le_refl _, rfl, Lib.hid rfl⟩
        case round =>
          obtain ⟨j, hj, rfl, hpos⟩ := hrel
          have hown' : wr.ownsRow w.heap.size 3 1 (.slice (some ⟨g, 0, none⟩) k1 cp) k1 ((ints (ordTo (ltW ws) k1)).map (Value.int .i64)) := by
            have := HO.out; unfold Own at this; rw [hlk] at this; exact this
          have hbD := hbl.drew
          have hsz := hbl.size
          have HOD : Hid (Own wr.drew w.heap.size (.slice (some ⟨g, 0, none⟩) k1 cp) (ints (ordTo (ltW ws) k1))) := Lib.hid (HO.out.drewN 1)
          have HLK := Lib.hid hlk
          have HLT : Hid (((ints (ordTo (ltW ws) k1)).take j).length ≤ 1099511627776) := Lib.hid (by rw [List.length_take, hlk]; omega)
          have HLD : Hid (((ints (ordTo (ltW ws) k1)).drop j).length = k1 - j) := Lib.hid (by rw [List.length_drop, hlk])
          have HLN : Hid (((ints (ordTo (ltW ws) k1)).take j ++ [(k1 : Int)]).length + ((ints (ordTo (ltW ws) k1)).drop j).length ≤ 1099511627776) := Lib.hid (by rw [List.length_append, List.length_take, List.length_drop, hlk]; simp; omega)
          have hcp : k1 ≤ cp := by obtain ⟨-, x, y, hv, hxy⟩ := HO.out.rdc; simp only [Value.slice.injEq] at hv; rw [hlk] at hxy; omega
          have HTK : Hid (∀ W, Below wr.heap.size wr W → Rd W (.slice (some ⟨g, 0, none⟩) j cp) ((ints (ordTo (ltW ws) k1)).take j)) := Lib.hid fun W hW => by
            have h := HO.out.rdc.later hW
            exact (h.take j hj).rd
          have hjc : j ≤ cp := by omega
          by_cases hj0 : 0 < (j : Int)
          · obtain ⟨j1, hj1⟩ : ∃ j1, j = j1 + 1 := ⟨j - 1, by omega⟩
            obtain ⟨y, hy⟩ : ∃ y, y = (ordTo (ltW ws) k1).getD j1 0 := ⟨_, rfl⟩
            have hyk : y < k1 := by rw [hy]; exact ordTo_lt (by omega)
            have c0 : wr.cell? ⟨g, j1, none⟩ = some (.int .i64 y) := by
              rw [hown'.cellAt j1 (by omega), List.getElem?_map, ints, List.getElem?_map, List.getElem?_eq_getElem (by rw [ordTo_len]; omega), hy, List.getD_eq_getElem?_getD, List.getElem?_eq_getElem (by rw [ordTo_len]; omega)]; rfl
            have hjm : (j : Int) - 1 = (j1 : Int) := by omega
            obtain ⟨g2, o2, e2, hg2', p2⟩ := (HR.out.below hbl (Nat.le_refl _)).at_ rfl y (by rw [← HN.out]; omega)
            simp only [Option.some.injEq, Addr.mk.injEq, and_true] at e2
            obtain ⟨rfl, rfl⟩ := e2
            have hyn : y < n := by omega
            obtain ⟨z, hz⟩ : ∃ z, z = ws[y]?.getD 0 := ⟨_, rfl⟩
            rw [← hz] at p2
            by_cases hzx : z < x
            · have hpos' : Hid (posF (fun y => ltW ws k1 y) (ordTo (ltW ws) k1) k1 = posF (fun y => ltW ws k1 y) (ordTo (ltW ws) k1) j1) := Lib.hid (by
                rw [hpos.out, hj1]; exact posF_yes (by rw [← hy]; exact decide_eq_true (by rw [show nth ws y = z from hz.symm, show nth ws k1 = x from HX.out.symm]; exact hzx)))
              have hj1k : j1 ≤ k1 := by omega
              clear hz hy hj1 hown' hlk
              go_wp2
              go_round
              case rel => exact ⟨j1, hj1k, by first | rfl | go_num, hpos'⟩
              case measure => simp [intOf]; omega
            · have hpst : posF (fun y => ltW ws k1 y) (ordTo (ltW ws) k1) j = j := by
                rw [hj1]; exact posF_no (by rw [← hy]; exact decide_eq_false (by rw [show nth ws y = z from hz.symm, show nth ws k1 = x from HX.out.symm]; exact hzx))
              have HPST := Lib.hid hpst
              clear hz hy hj1 hpst
              have HFIN : Hid ((ints (ordTo (ltW ws) k1)).take j ++ [(k1 : Int)] ++ (ints (ordTo (ltW ws) k1)).drop j = ints (ordTo (ltW ws) (k1 + 1))) := Lib.hid (by
                rw [insR_ints (p := fun y => ltW ws k1 y) (by rw [ordTo_len, hpos.out]; exact HPST.out)]; rfl)
              clear hlk hown'
              by_cases hcap : cp = j
              · have hcap' : j = cp := hcap.symm
                subst hcap'
                clear hcap
                go_wp2
                go_region_held3 (fun _ => True)
                  (trivial)
                  (first | (go_at_call 100; refine (l1Own_any _ ((ints (ordTo (ltW ws) k1)).take j) _ HLT.out (HTK.out _ (by first | exact (Below.refl _ wr).drew | exact ((Below.refl _ wr).alloc (Nat.le_refl _) _).drew))).mono ?_; rintro e w1 ⟨u1, rfl, ho1, hb1⟩) | (have t1 := hb1.size; have hoB := ho1.base (B' := w.heap.size) (by simp at *; omega); refine step_append_int (by rfl) _ _ (by rfl) w.heap.size _ ((ints (ordTo (ltW ws) k1)).take j) k1 w1.heap.size (by rfl) (by rfl) (hoB.alloc _) (new_cell _ _ _) HLT.out (by simp at *; omega) ?_; intro v2 w2 ho2 hg2; have hbF := ((hbD.trans (hb1.mono (by simp at *; omega))).alloc (by simp at *; omega) _).grown hg2 (by simp at *; omega) (fun j hj => (hoB.lt j hj).1); have hoO : Own w2 w.heap.size (.slice (some ⟨g, 0, none⟩) k1 j) ((ints (ordTo (ltW ws) k1))) := own_after (HOD.out) hb1 ho1 hg2; have hs2 := hbF.size) | (have t1 := hb1.size; have hoB := ho1.base (B' := w.heap.size) (by simp at *; omega); refine step_append_int (by rfl) _ _ (by rfl) w.heap.size _ ((ints (ordTo (ltW ws) k1)).take j) k1 wr.heap.size (by rfl) (by rfl) hoB (by rw [hb1.cell (p := ⟨wr.heap.size, 0, none⟩) (by simp)]; exact new_cell _ _ _) HLT.out (by simp at *; omega) ?_; intro v2 w2 ho2 hg2; have hbF := ((hbl.alloc hsz _).drew.trans (hb1.mono (by simp at *; omega))).grown hg2 (by simp at *; omega) (fun j hj => (hoB.lt j hj).1); have hoO : Own w2 w.heap.size (.slice (some ⟨g, 0, none⟩) k1 j) ((ints (ordTo (ltW ws) k1))) := Own.kept (Own.later ((HO.out.alloc _).drewN 1) hb1) hg2 (Own.apart ((HO.out.alloc _).drewN 1) (Nat.le_refl _) ho1); have hs2 := hbF.size) | (refine step_append_ints (by rfl) _ _ (by rfl) w.heap.size _ ((ints (ordTo (ltW ws) k1)).take j ++ [(k1 : Int)]) ((ints (ordTo (ltW ws) k1)).drop j) (.slice (some ⟨g, 0, none⟩) 0 0) (by rfl) (by rfl) ho2 ⟨⟨g, 0, none⟩, 0, (by rw [HLD.out, show k1 - j = 0 by omega]), (fun j' hj' => by rw [HLD.out] at hj'; omega)⟩ HLN.out hs2 ?_; intro v3 w3 ho3 hg3; have hbG := hbF.grown hg3 hs2 (fun j hj => (ho2.lt j hj).1)))
                all_goals
                  have HF : Hid (Own w3 w.heap.size v3 (ints (ordTo (ltW ws) (k1 + 1)))) := Lib.hid (by rw [← HFIN.out]; exact ho3)
                  clear ho3 ho2 hoO
                  go_wp2
                  go_roundw
                  case rel => exact ⟨k1 + 1, by omega, by go_num, HF.out, hbG, by omega⟩
                  case measure => simp [intOf]; omega
              · go_wp2
                go_region_held3 (fun _ => True)
                  (trivial)
                  (first | (go_at_call 100; refine (l1Own_any _ ((ints (ordTo (ltW ws) k1)).take j) _ HLT.out (HTK.out _ (by first | exact (Below.refl _ wr).drew | exact ((Below.refl _ wr).alloc (Nat.le_refl _) _).drew))).mono ?_; rintro e w1 ⟨u1, rfl, ho1, hb1⟩) | (have t1 := hb1.size; have hoB := ho1.base (B' := w.heap.size) (by simp at *; omega); refine step_append_int (by rfl) _ _ (by rfl) w.heap.size _ ((ints (ordTo (ltW ws) k1)).take j) k1 w1.heap.size (by rfl) (by rfl) (hoB.alloc _) (new_cell _ _ _) HLT.out (by simp at *; omega) ?_; intro v2 w2 ho2 hg2; have hbF := ((hbD.trans (hb1.mono (by simp at *; omega))).alloc (by simp at *; omega) _).grown hg2 (by simp at *; omega) (fun j hj => (hoB.lt j hj).1); have hoO : Own w2 w.heap.size (.slice (some ⟨g, 0, none⟩) k1 cp) ((ints (ordTo (ltW ws) k1))) := own_after (HOD.out) hb1 ho1 hg2; have hs2 := hbF.size) | (have t1 := hb1.size; have hoB := ho1.base (B' := w.heap.size) (by simp at *; omega); refine step_append_int (by rfl) _ _ (by rfl) w.heap.size _ ((ints (ordTo (ltW ws) k1)).take j) k1 wr.heap.size (by rfl) (by rfl) hoB (by rw [hb1.cell (p := ⟨wr.heap.size, 0, none⟩) (by simp)]; exact new_cell _ _ _) HLT.out (by simp at *; omega) ?_; intro v2 w2 ho2 hg2; have hbF := ((hbl.alloc hsz _).drew.trans (hb1.mono (by simp at *; omega))).grown hg2 (by simp at *; omega) (fun j hj => (hoB.lt j hj).1); have hoO : Own w2 w.heap.size (.slice (some ⟨g, 0, none⟩) k1 cp) ((ints (ordTo (ltW ws) k1))) := Own.kept (Own.later ((HO.out.alloc _).drewN 1) hb1) hg2 (Own.apart ((HO.out.alloc _).drewN 1) (Nat.le_refl _) ho1); have hs2 := hbF.size) | (refine step_append_ints (by rfl) _ _ (by rfl) w.heap.size _ ((ints (ordTo (ltW ws) k1)).take j ++ [(k1 : Int)]) ((ints (ordTo (ltW ws) k1)).drop j) (.slice (some ⟨g, j, none⟩) (k1 - j) (cp - j)) (by rfl) (by rfl) ho2 ⟨⟨g, j, none⟩, (cp - j), (by rw [HLD.out]), (own_cells hoO j hj HLK.out)⟩ HLN.out hs2 ?_; intro v3 w3 ho3 hg3; have hbG := hbF.grown hg3 hs2 (fun j hj => (ho2.lt j hj).1)))
                all_goals
                  have HF : Hid (Own w3 w.heap.size v3 (ints (ordTo (ltW ws) (k1 + 1)))) := Lib.hid (by rw [← HFIN.out]; exact ho3)
                  clear ho3 ho2 hoO
                  go_wp2
                  go_roundw
                  case rel => exact ⟨k1 + 1, by omega, by go_num, HF.out, hbG, by omega⟩
                  case measure => simp [intOf]; omega
          · have hpst : posF (fun y => ltW ws k1 y) (ordTo (ltW ws) k1) j = j := by
              have : j = 0 := by omega
              rw [this]; rfl
            have HPST := Lib.hid hpst
            clear hpst
            have HFIN : Hid ((ints (ordTo (ltW ws) k1)).take j ++ [(k1 : Int)] ++ (ints (ordTo (ltW ws) k1)).drop j = ints (ordTo (ltW ws) (k1 + 1))) := Lib.hid (by
              rw [insR_ints (p := fun y => ltW ws k1 y) (by rw [ordTo_len, hpos.out]; exact HPST.out)]; rfl)
            clear hlk hown'
            by_cases hcap : cp = j
            · exfalso; omega
            · go_wp2
              go_region_held3 (fun _ => True)
                (trivial)
                (first | (go_at_call 100; refine (l1Own_any _ ((ints (ordTo (ltW ws) k1)).take j) _ HLT.out (HTK.out _ (by first | exact (Below.refl _ wr).drew | exact ((Below.refl _ wr).alloc (Nat.le_refl _) _).drew))).mono ?_; rintro e w1 ⟨u1, rfl, ho1, hb1⟩) | (have t1 := hb1.size; have hoB := ho1.base (B' := w.heap.size) (by simp at *; omega); refine step_append_int (by rfl) _ _ (by rfl) w.heap.size _ ((ints (ordTo (ltW ws) k1)).take j) k1 w1.heap.size (by rfl) (by rfl) (hoB.alloc _) (new_cell _ _ _) HLT.out (by simp at *; omega) ?_; intro v2 w2 ho2 hg2; have hbF := ((hbD.trans (hb1.mono (by simp at *; omega))).alloc (by simp at *; omega) _).grown hg2 (by simp at *; omega) (fun j hj => (hoB.lt j hj).1); have hoO : Own w2 w.heap.size (.slice (some ⟨g, 0, none⟩) k1 cp) ((ints (ordTo (ltW ws) k1))) := own_after (HOD.out) hb1 ho1 hg2; have hs2 := hbF.size) | (have t1 := hb1.size; have hoB := ho1.base (B' := w.heap.size) (by simp at *; omega); refine step_append_int (by rfl) _ _ (by rfl) w.heap.size _ ((ints (ordTo (ltW ws) k1)).take j) k1 wr.heap.size (by rfl) (by rfl) hoB (by rw [hb1.cell (p := ⟨wr.heap.size, 0, none⟩) (by simp)]; exact new_cell _ _ _) HLT.out (by simp at *; omega) ?_; intro v2 w2 ho2 hg2; have hbF := ((hbl.alloc hsz _).drew.trans (hb1.mono (by simp at *; omega))).grown hg2 (by simp at *; omega) (fun j hj => (hoB.lt j hj).1); have hoO : Own w2 w.heap.size (.slice (some ⟨g, 0, none⟩) k1 cp) ((ints (ordTo (ltW ws) k1))) := Own.kept (Own.later ((HO.out.alloc _).drewN 1) hb1) hg2 (Own.apart ((HO.out.alloc _).drewN 1) (Nat.le_refl _) ho1); have hs2 := hbF.size) | (refine step_append_ints (by rfl) _ _ (by rfl) w.heap.size _ ((ints (ordTo (ltW ws) k1)).take j ++ [(k1 : Int)]) ((ints (ordTo (ltW ws) k1)).drop j) (.slice (some ⟨g, j, none⟩) (k1 - j) (cp - j)) (by rfl) (by rfl) ho2 ⟨⟨g, j, none⟩, (cp - j), (by rw [HLD.out]), (own_cells hoO j hj HLK.out)⟩ HLN.out hs2 ?_; intro v3 w3 ho3 hg3; have hbG := hbF.grown hg3 hs2 (fun j hj => (ho2.lt j hj).1)))
              all_goals
                have HF : Hid (Own w3 w.heap.size v3 (ints (ordTo (ltW ws) (k1 + 1)))) := Lib.hid (by rw [← HFIN.out]; exact ho3)
                clear ho3 ho2 hoO
                go_wp2
                go_roundw
                case rel => exact ⟨k1 + 1, by omega, by go_num, HF.out, hbG, by omega⟩
                case measure => simp [intOf]; omega
    · obtain rfl : k = n := by omega
      go_wp2
      go_ret
      exact ⟨_, rfl, hown, hbl⟩
end Go.Proofs.Ytgceaffcalkbgaa
