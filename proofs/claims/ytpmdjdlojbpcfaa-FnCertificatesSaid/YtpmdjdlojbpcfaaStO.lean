/- Chapter 8: thin covers of the model. Written by a generator of this claim's author. -/
import Derived.Test.YtpmdjdlojbpcfaaStN
import Derived.Test.YtpmdjdlojbpcfaaRgE
namespace Go.Proofs.Ytpmdjdlojbpcfaa
open Go.RowKit
set_option linter.unusedSimpArgs false
set_option linter.unusedVariables false

theorem wp_append_I {w : World} {o : Oper} {a : Act} {K : Act → World → Prop} {Q : Exit → Act → World → Prop} (s x : Operand)
    (ho : o.op = .call { callee := .builtin .append, args := #[s, x], argTypes := #[26, 26] })
    (B : Nat) (v u : Value) (zs ys : List Int) (hs : a.eval s = v) (hx : a.eval x = u) (hown : Own w B v zs) (hrd : Rd w u ys) (hlen : zs.length + ys.length ≤ 1099511627776) (hB : B ≤ w.heap.size)
    (hK : ∀ v' w', Own w' B v' (zs ++ ys) → w.grownBy w' v.ownBlock → (v'.ownBlock = v.ownBlock ∨ v'.ownBlock = some w.heap.size) → K (a.put o.dst v') w') : o.wp Try.prog a w K Q := by
  obtain ⟨i0, hi, hz0, hz1, hz2⟩ := info_parts Try_info_int
  have main : ∀ (ad : Addr) (c : Nat), a.eval x = .slice (some ad) ys.length c → (∀ j u', (ys.map (Value.int .i64))[j]? = some u' → w.cell? (ad.add j) = some u') → o.wp Try.prog a w K Q := by
    intro ad c hxa hcells
    obtain ⟨v', w', hr, h2, h3, h4, h5⟩ := run_append_own_at (P := Try.prog) w B 26 o.type 3 i0 _ 1 8 Try.underlying26 hi hz0 hz1 hz2 rfl (by decide) v zs.length (zs.map (Value.int .i64)) hown
      ad ys.length c (ys.map (Value.int .i64)) (by simp) hcells (ints_oneCell _ _) (by unfold maxLen; omega) (by omega) hB
    unfold Oper.wp execOp
    simp only [ho, resolve, invoke, builtin, Sem.run_bind, Sem.run_pure, Result.andThen_ok, List.map_toArray, List.map_cons, List.map_nil, hs, hxa, hr]
    refine hK v' w' ?_ h3 h5
    unfold Own
    simpa using h2
  rcases hrd with ⟨rfl, ad, cap, rfl, hn⟩ | ⟨g, off, cap, rfl, hg, hm, hc⟩
  · cases ad with
    | none =>
      obtain rfl := hn rfl
      have hrun := run_append_owned_none (P := Try.prog) (w := w) B 26 o.type 3 i0 1 Try.underlying26 hi v zs.length (zs.map (Value.int .i64)) hown
      unfold Oper.wp
      simp [execOp, ho, resolve, invoke, builtin, hs, hx, hrun, Result.andThen]
      exact hK v w (by simpa using hown) (World.grownBy.refl _ _) (.inl rfl)
    | some ad => exact main ad cap hx (by intro j u' h; simp at h)
  · refine main ⟨g, off, none⟩ cap hx ?_
    intro j u' h
    have hj : j < ys.length := by
      have := (List.getElem?_eq_some_iff.1 h).1
      simpa using this
    have ha : (⟨g, off, none⟩ : Addr).add j = ⟨g, off + j, none⟩ := by unfold Addr.add; split <;> simp_all
    rw [ha, hc j hj]
    rw [List.getElem?_map, List.getElem?_eq_getElem hj] at h
    simp at h
    subst h
    simp [hj]
theorem step_append_I {w : World} {ops : Array Oper} {o : Oper} {a : Act} {K : Act → World → Prop} {Q : Exit → Act → World → Prop} {E : Prop} (hgd : o.guard = none) (s x : Operand)
    (ho : o.op = .call { callee := .builtin .append, args := #[s, x], argTypes := #[26, 26] })
    (B : Nat) (v u : Value) (zs ys : List Int) (hs : a.eval s = v) (hx : a.eval x = u) (hown : Own w B v zs) (hrd : Rd w u ys) (hlen : zs.length + ys.length ≤ 1099511627776) (hB : B ≤ w.heap.size)
    (hK : ∀ v' w', Own w' B v' (zs ++ ys) → w.grownBy w' v.ownBlock → (v'.ownBlock = v.ownBlock ∨ v'.ownBlock = some w.heap.size) → K (a.put o.dst v') w') : if Region.wanted o (yielded ops a.tmps) = true then Oper.wp Try.prog o a w K Q else E := by
  have hw : Region.wanted o (yielded ops a.tmps) = true := by simp [Region.wanted, hgd]
  rw [if_pos hw]
  exact wp_append_I s x ho B v u zs ys hs hx hown hrd hlen hB hK

set_option maxRecDepth 100000 in
set_option maxHeartbeats 4000000 in
theorem specThinCover_any (v u : Value) (L : List (List Int)) (n : Int) (zs : List Int) (w : World) (hr : RdJ w v L) (hu : Rd w u zs) :
    Calls Try.prog 25 #[v, .int .i64 n, u] w (TcPost L n zs w) := by
  have C0 := Lib.hid (stAsked_any v u L n zs w hr hu)
  cases hs : askB L n zs with
  | false =>
    have hf : Hid (tcA L n zs = false) := Lib.hid (by simp [tcA, hs])
    rw [hs] at C0
    clear hs hr hu
    go_enter Try.func25, Try.ntmps25
    go_wp2_with fail
    refine C0.out.mono ?_
    rintro e w1 ⟨rfl, rfl⟩
    go_wp2
    go_ret2
    exact TcPost.no hf.out (Below.refl _ _)
  | true =>
    rw [hs] at C0
    obtain ⟨⟨ok, hne⟩, hz⟩ := askB_iff.1 hs
    obtain ⟨N, hN⟩ : ∃ N, n.toNat = N := ⟨_, rfl⟩
    rw [hN] at ok hne
    subst hne
    have hm2 := ok.m2
    have hn2 := ok.n2
    have hzl := hz.len (by omega)
    have CC := Lib.hid (fun (x : Value) (o : List Int) (W : World) (hW : Below w.heap.size w W) (hz : Ris o 0 L.length) (hx : Rd W x o) => stCovers_any v x L N o 1 W ok hz (hr.below hW (Nat.le_refl _)) hx)
    have C1 := Lib.hid (CC.out u zs w (Below.refl _ _) hz hu)
    have HTH : Hid (∀ k, k ≤ zs.length → ThI L.length zs k (thT L N zs k)) := Lib.hid (fun k hk => thT_ok hz k hk)
    have HU := Lib.hid hu
    have hta : tcA L (N : Int) zs = covB L N zs 1 := by simp [tcA, hs]
    cases hc : covB L N zs 1 with
    | false =>
      have hf : Hid (tcA L (N : Int) zs = false) := Lib.hid (by rw [hta, hc])
      rw [hc] at C1
      clear hs hr hu hc hta CC HTH ok hz hN
      go_enter Try.func25, Try.ntmps25
      go_wp2_with fail
      refine C0.out.mono ?_
      rintro e w1 ⟨rfl, rfl⟩
      go_wp2_with fail
      refine C1.out.mono ?_
      rintro e w1 ⟨rfl, hb1⟩
      go_wp2
      go_ret2
      exact TcPost.no hf.out hb1
    | true =>
      have hf : Hid (tcA L (N : Int) zs = true) := Lib.hid (by rw [hta, hc])
      rw [hc] at C1
      obtain ⟨a, cap, rfl, -⟩ := hr.len
      obtain ⟨b, cb, rfl⟩ := hu.len
      obtain ⟨z, hze⟩ : ∃ z, z = zs.length := ⟨_, rfl⟩
      rw [← hze] at hzl HTH C0 C1 HU ⊢
      have HZ := Lib.hid hze
      clear hs hr hu hc hta ok hz hN hze
      go_enter Try.func25, Try.ntmps25
      go_wp2_with fail
      refine C0.out.mono ?_
      rintro e w1 ⟨rfl, rfl⟩
      go_wp2_with fail
      refine C1.out.mono ?_
      rintro e w1 ⟨rfl, hb1⟩
      go_wp2_with fail
      refine (l1Own_any _ zs _ (by rw [← HZ.out]; omega) (HU.out.later hb1)).mono ?_
      rintro e w2 ⟨v2, rfl, ho2, hb2⟩
      have hB2 := hb1.trans (hb2.mono hb1.size)
      have HO2 : Hid (Own w2 w.heap.size v2 (thT L N zs (z - z))) := Lib.hid (by rw [Nat.sub_self]; exact ho2.base hb1.size)
      clear hb2 hb1
      obtain ⟨a2, y2, c2, rfl, hy2⟩ := ho2.f
      obtain rfl : y2 = z := by rw [← hy2, HZ.out]
      clear ho2 hy2
      go_wp2
      go_loopw [8, 9] (fun ov cv wr => ∃ c : Nat, c ≤ y2 ∧ dnS cv c ∧ Own wr w.heap.size ov (thT L N zs (y2 - c)) ∧ Below w.heap.size w wr) (fun _ cv _ => (intOf cv + 1).toNat)
      case atStart => exact ⟨y2, Nat.le_refl _, dnS_next y2, HO2.out, hB2⟩
      case round =>
        obtain ⟨c, hc, hcv, hown, hb⟩ := hrel
        rcases hcv with ⟨rfl, rfl⟩ | ⟨i, rfl, rfl⟩
        · have HO := Lib.hid hown
          obtain ⟨a3, y3, c3, rfl, -⟩ := hown.f
          clear hown
          go_wp2
          go_ret2
          exact TcPost.yes hf.out (by rw [Int.toNat_natCast, ← HZ.out]; exact HO.out) hb
        · have hth := HTH.out (y2 - (i + 1)) (by omega)
          have hat := hth.at_ (by rw [← HZ.out]; omega)
          have hidx : zs.length - 1 - (y2 - (i + 1)) = i := by rw [← HZ.out]; omega
          rw [hidx] at hat
          have hlo := hth.ris.len (by omega)
          obtain ⟨o, hoe⟩ : ∃ o, o = thT L N zs (y2 - (i + 1)) := ⟨_, rfl⟩
          have hTE : thT L N zs (y2 - i) = thStep L N o i := by
            rw [show y2 - i = y2 - (i + 1) + 1 by omega]
            show thStep L N (thT L N zs (y2 - (i + 1))) (zs.length - 1 - (y2 - (i + 1))) = _
            rw [hidx, hoe]
          rw [← hoe] at hown hat hlo hth
          have HLR := Lib.hid (lessAt_ris i hth.ris)
          have hox := hat.1
          obtain ⟨g3, c3, hv3, hg3, hgw⟩ := hown.nonnil (o.length - 1) (by omega)
          obtain ⟨y, hy⟩ : ∃ y, y = o.length := ⟨_, rfl⟩
          rw [show o.length - 1 + 1 = o.length by omega, ← hy] at hv3
          subst hv3
          have hcy : y ≤ c3 := by
            obtain ⟨-, a', c', hv, hcc⟩ := hown.rdc
            simp only [Value.slice.injEq] at hv
            omega
          rw [← hy] at hox hlo
          have HO := Lib.hid hown
          have HTK := Lib.hid (fun W (hW : Below wr.heap.size wr W) => (OwnRd.take hown (show i ≤ y by omega)).later hW)
          have HY := Lib.hid hy
          have HTE := Lib.hid hTE
          have hsz := hb.size
          obtain ⟨k1, hk1⟩ : ∃ k1, k1 = i + 1 := ⟨_, rfl⟩
          have e1 : IntKind.i64.wrap ((i : Int) + 1) = (k1 : Int) := by rw [IntWalk.i64_in _ (by omega)]; omega
          have hk2 : (k1 : Int) ≤ (y : Int) := by omega
          have hk3 : k1 ≤ y := by omega
          have hik : (i : Int) ≤ (c3 : Int) := by omega
          have hkc : k1 ≤ c3 := by omega
          have HK := Lib.hid hk1
          have hl1 : Hid ((o.take i).length ≤ 1099511627776) := Lib.hid (by simp; omega)
          have hl2 : Hid ((o.take i).length + (o.drop k1).length ≤ 1099511627776) := Lib.hid (by simp; omega)
          clear hth hat hidx hoe hTE hown hy hgw
          have HDR : Hid (∀ W, Below wr.heap.size wr W → ¬ c3 = k1 → Rd W (.slice (some ⟨g3, k1, none⟩) (y - k1) (c3 - k1)) (o.drop k1)) := Lib.hid fun W hW hne => by
            have := (OwnRd.drop HO.out hk3 hne).later hW
            rwa [Nat.zero_add] at this
          have HDE : Hid (c3 = k1 → o.drop k1 = []) := Lib.hid fun h => List.drop_of_length_le (by rw [← HY.out]; omega)
          clear hk1
          by_cases hcap : c3 = k1
          · have HDE1 := Lib.hid (HDE.out hcap)
            clear HDE HDR
            subst hcap
            go_wp2
            refine wp_region_held_drew (S := (fun _ => True)) (by kernel_rfl) ?_ (fun hHeld => ?_)
            · trivial
            refine wpAnyH_name ?_
            intro wS hwS
            try rw [← hwS] at hHeld
            have hbS := below_named hwS
            clear hwS
            refine wpAnyH_take (i := 0) (oi := { dst := some 32, op := Go.Op.move (Go.Operand.tmp 8), type := 26, pos := "l8_site.go:154", after := #[], guard := none }) (v := ?_) rfl (by kernel_rfl) (by kernel_rfl) (by kernel_rfl) (fun _ _ _ h => h) (Or.inl ⟨by rfl, ?_⟩) (by assumption) ?_
            rotate_left
            · intro w hSw; (try dsimp only at hSw); go_simp; try with_reducible rfl
            try simp only [Act.put, List.setIfInBounds_toArray, List.set_cons_zero, List.set_cons_succ]
            refine wpAnyH_take (i := 1) (oi := { dst := some 33, op := Go.Op.move (Go.Operand.tmp 9), type := 3, pos := "l8_site.go:154", after := #[], guard := none }) (v := ?_) rfl (by kernel_rfl) (by kernel_rfl) (by kernel_rfl) (fun _ _ _ h => h) (Or.inl ⟨by rfl, ?_⟩) (by assumption) ?_
            rotate_left
            · intro w hSw; (try dsimp only at hSw); go_simp; try with_reducible rfl
            try simp only [Act.put, List.setIfInBounds_toArray, List.set_cons_zero, List.set_cons_succ]
            refine wpAnyH_take (i := 2) (oi := { dst := some 34, op := Go.Op.slice 26 (Go.Operand.tmp 32) none (some (Go.Operand.tmp 33)) none, type := 26, pos := "l8_site.go:154", after := #[{ on := 0, ground := Go.Ground.data }, { on := 1, ground := Go.Ground.data }], guard := none }) (v := ?_) rfl (by kernel_rfl) (by kernel_rfl) (by kernel_rfl) (fun _ _ _ h => h) (Or.inl ⟨by rfl, ?_⟩) (by assumption) ?_
            rotate_left
            · intro w hSw; (try dsimp only at hSw); go_simp; try with_reducible rfl
            try simp only [Act.put, List.setIfInBounds_toArray, List.set_cons_zero, List.set_cons_succ]
            refine wpAnyH_take (i := 4) (oi := { dst := some 36, op := Go.Op.move (Go.Operand.tmp 8), type := 26, pos := "l8_site.go:154", after := #[], guard := none }) (v := ?_) rfl (by kernel_rfl) (by kernel_rfl) (by kernel_rfl) (fun _ _ _ h => h) (Or.inl ⟨by rfl, ?_⟩) (by assumption) ?_
            rotate_left
            · intro w hSw; (try dsimp only at hSw); go_simp; try with_reducible rfl
            try simp only [Act.put, List.setIfInBounds_toArray, List.set_cons_zero, List.set_cons_succ]
            refine wpAnyH_take (i := 5) (oi := { dst := some 37, op := Go.Op.move (Go.Operand.tmp 9), type := 3, pos := "l8_site.go:154", after := #[], guard := none }) (v := ?_) rfl (by kernel_rfl) (by kernel_rfl) (by kernel_rfl) (fun _ _ _ h => h) (Or.inl ⟨by rfl, ?_⟩) (by assumption) ?_
            rotate_left
            · intro w hSw; (try dsimp only at hSw); go_simp; try with_reducible rfl
            try simp only [Act.put, List.setIfInBounds_toArray, List.set_cons_zero, List.set_cons_succ]
            refine wpAnyH_take (i := 6) (oi := { dst := some 38, op := Go.Op.binOp Go.BinOp.add 3 (Go.Operand.tmp 37) (Go.Operand.const (Go.Value.int Go.IntKind.i64 1)) 3, type := 3, pos := "l8_site.go:154", after := #[{ on := 5, ground := Go.Ground.data }], guard := none }) (v := ?_) rfl (by kernel_rfl) (by kernel_rfl) (by kernel_rfl) (fun _ _ _ h => h) (Or.inl ⟨by rfl, ?_⟩) (by assumption) ?_
            rotate_left
            · intro w hSw; (try dsimp only at hSw); go_simp; try with_reducible rfl
            try simp only [Act.put, List.setIfInBounds_toArray, List.set_cons_zero, List.set_cons_succ]
            refine wpAnyH_take (i := 7) (oi := { dst := some 39, op := Go.Op.slice 26 (Go.Operand.tmp 36) (some (Go.Operand.tmp 38)) none none, type := 26, pos := "l8_site.go:154", after := #[{ on := 4, ground := Go.Ground.data }, { on := 6, ground := Go.Ground.data }], guard := none }) (v := ?_) rfl (by kernel_rfl) (by kernel_rfl) (by kernel_rfl) (fun _ _ _ h => h) (Or.inl ⟨by rfl, ?_⟩) (by assumption) ?_
            rotate_left
            · intro w hSw; (try dsimp only at hSw); go_simp; try with_reducible rfl
            try simp only [Act.put, List.setIfInBounds_toArray, List.set_cons_zero, List.set_cons_succ]
            refine wpAnyH_ready (rs := [3]) (by kernel_rfl) (by simp) ?_
            refine AllReadyH.cons (o := { dst := some 35, op := Go.Op.call { callee := Go.Callee.value (Go.Operand.func 77), args := #[Go.Operand.tmp 34], argTypes := #[26] }, type := 26, pos := "l8_site.go:154", after := #[{ on := 2, ground := Go.Ground.data }], guard := none }) rfl (fun K hK => ?_) AllReadyH.nil
            go_simp
            refine (l1Own_any _ (o.take i) wS hl1.out (HTK.out _ hbS)).mono ?_
            rintro e w1 ⟨v1, rfl, ho1, hb1⟩
            have hbt1 := hbS.trans (hb1.mono hbS.size)
            have hz1 := hb1.size
            try go_simp
            refine hK.out _ _ ?_ (fun hHeld => ?_)
            · trivial
            clear hK K
            try simp only [Act.put, List.setIfInBounds_toArray, List.set_cons_zero, List.set_cons_succ]
            refine wpAnyH_ready (rs := [8]) (by kernel_rfl) (by simp) ?_
            refine AllReadyH.cons (o := { dst := some 40, op := Go.Op.call { callee := Go.Callee.builtin Go.Builtin.append, args := #[Go.Operand.tmp 35, Go.Operand.tmp 39], argTypes := #[26, 26] }, type := 26, pos := "l8_site.go:154", after := #[{ on := 3, ground := Go.Ground.data }, { on := 7, ground := Go.Ground.data }, { on := 3, ground := Go.Ground.chain }], guard := none }) rfl (fun K hK => ?_) AllReadyH.nil
            have hap := HTK
            refine step_append_I (by rfl) _ _ (by rfl) wS.heap.size _ _ (o.take i) (o.drop c3) (by rfl) (by rfl) ho1 (.inl ⟨HDE1.out, some ⟨g3, 0, none⟩, 0, rfl, fun h => by cases h⟩) hl2.out hz1 ?_
            intro v2 w2 ho2 hg2 hat2
            have hb2_2 : Below wS.heap.size wS w2 := hb1.grown hg2 hz1 (fun i hi => (ho1.lt i hi).1)
            try go_simp
            refine hK.out _ _ ?_ (fun hHeld => ?_)
            · trivial
            clear hK K
            try simp only [Act.put, List.setIfInBounds_toArray, List.set_cons_zero, List.set_cons_succ]
            refine wpAnyH_take (i := 9) (oi := { dst := some 10, op := Go.Op.assign (Go.Operand.tmp 40), type := 26, pos := "l8_site.go:154", after := #[{ on := 8, ground := Go.Ground.data }, { on := 8, ground := Go.Ground.chain }, { on := 0, ground := Go.Ground.phase }, { on := 1, ground := Go.Ground.phase }, { on := 2, ground := Go.Ground.phase }, { on := 3, ground := Go.Ground.phase }, { on := 4, ground := Go.Ground.phase }, { on := 5, ground := Go.Ground.phase }, { on := 6, ground := Go.Ground.phase }, { on := 7, ground := Go.Ground.phase }, { on := 8, ground := Go.Ground.phase }], guard := none }) (v := ?_) rfl (by kernel_rfl) (by kernel_rfl) (by kernel_rfl) (fun _ _ _ h => h) (Or.inl ⟨by rfl, ?_⟩) (by assumption) ?_
            rotate_left
            · intro w hSw; (try dsimp only at hSw); go_simp; try with_reducible rfl
            try simp only [Act.put, List.setIfInBounds_toArray, List.set_cons_zero, List.set_cons_succ]
            refine wpAnyH_done (by kernel_rfl) ?_ _
            have hbl := hbS.trans (hb2_2.mono hbS.size)
            replace ho2 : Own w2 wS.heap.size v2 (lessAt o i) := by unfold lessAt; rw [← HK.out]; exact ho2
            have hBl := hb.trans (hbl.mono hsz)
            have C5 := CC.out v2 (lessAt o i) w2 hBl HLR.out ho2.rd
            have HLO : Hid (Own w2 w.heap.size v2 (lessAt o i)) := Lib.hid (ho2.base (Nat.le_trans hsz hbS.size))
            have HOL := Lib.hid (HO.out.later hbl)
            obtain ⟨a9, y9, c9, rfl, -⟩ := ho2.f
            clear ho2
            cases hcv : covB L N (lessAt o i) 1 with
            | true =>
              rw [hcv] at C5
              have C6 := Lib.hid C5
              have HE : Hid (thT L N zs (y2 - i) = lessAt o i) := Lib.hid (by rw [HTE.out, thStep, hcv]; rfl)
              clear C5 hcv
              go_wp2_with fail
              refine C6.out.mono ?_
              rintro e w9 ⟨rfl, hb9⟩
              have hB9 := hBl.trans (hb9.mono hBl.size)
              go_wp2
              go_roundw
              case rel => exact ⟨i, by omega, dnS_next i, by rw [HE.out]; exact HLO.out.later hb9, hB9⟩
              case measure => simp only [intOf]; omega
            | false =>
              rw [hcv] at C5
              have C6 := Lib.hid C5
              have HE : Hid (thT L N zs (y2 - i) = o) := Lib.hid (by rw [HTE.out, thStep, hcv]; rfl)
              clear C5 hcv
              go_wp2_with fail
              refine C6.out.mono ?_
              rintro e w9 ⟨rfl, hb9⟩
              have hB9 := hBl.trans (hb9.mono hBl.size)
              go_wp2
              go_roundw
              case rel => exact ⟨i, by omega, dnS_next i, by rw [HE.out]; exact HOL.out.later hb9, hB9⟩
              case measure => simp only [intOf]; omega
          · go_wp2
            refine wp_region_held_drew (S := (fun _ => True)) (by kernel_rfl) ?_ (fun hHeld => ?_)
            · trivial
            refine wpAnyH_name ?_
            intro wS hwS
            try rw [← hwS] at hHeld
            have hbS := below_named hwS
            clear hwS
            refine wpAnyH_take (i := 0) (oi := { dst := some 32, op := Go.Op.move (Go.Operand.tmp 8), type := 26, pos := "l8_site.go:154", after := #[], guard := none }) (v := ?_) rfl (by kernel_rfl) (by kernel_rfl) (by kernel_rfl) (fun _ _ _ h => h) (Or.inl ⟨by rfl, ?_⟩) (by assumption) ?_
            rotate_left
            · intro w hSw; (try dsimp only at hSw); go_simp; try with_reducible rfl
            try simp only [Act.put, List.setIfInBounds_toArray, List.set_cons_zero, List.set_cons_succ]
            refine wpAnyH_take (i := 1) (oi := { dst := some 33, op := Go.Op.move (Go.Operand.tmp 9), type := 3, pos := "l8_site.go:154", after := #[], guard := none }) (v := ?_) rfl (by kernel_rfl) (by kernel_rfl) (by kernel_rfl) (fun _ _ _ h => h) (Or.inl ⟨by rfl, ?_⟩) (by assumption) ?_
            rotate_left
            · intro w hSw; (try dsimp only at hSw); go_simp; try with_reducible rfl
            try simp only [Act.put, List.setIfInBounds_toArray, List.set_cons_zero, List.set_cons_succ]
            refine wpAnyH_take (i := 2) (oi := { dst := some 34, op := Go.Op.slice 26 (Go.Operand.tmp 32) none (some (Go.Operand.tmp 33)) none, type := 26, pos := "l8_site.go:154", after := #[{ on := 0, ground := Go.Ground.data }, { on := 1, ground := Go.Ground.data }], guard := none }) (v := ?_) rfl (by kernel_rfl) (by kernel_rfl) (by kernel_rfl) (fun _ _ _ h => h) (Or.inl ⟨by rfl, ?_⟩) (by assumption) ?_
            rotate_left
            · intro w hSw; (try dsimp only at hSw); go_simp; try with_reducible rfl
            try simp only [Act.put, List.setIfInBounds_toArray, List.set_cons_zero, List.set_cons_succ]
            refine wpAnyH_take (i := 4) (oi := { dst := some 36, op := Go.Op.move (Go.Operand.tmp 8), type := 26, pos := "l8_site.go:154", after := #[], guard := none }) (v := ?_) rfl (by kernel_rfl) (by kernel_rfl) (by kernel_rfl) (fun _ _ _ h => h) (Or.inl ⟨by rfl, ?_⟩) (by assumption) ?_
            rotate_left
            · intro w hSw; (try dsimp only at hSw); go_simp; try with_reducible rfl
            try simp only [Act.put, List.setIfInBounds_toArray, List.set_cons_zero, List.set_cons_succ]
            refine wpAnyH_take (i := 5) (oi := { dst := some 37, op := Go.Op.move (Go.Operand.tmp 9), type := 3, pos := "l8_site.go:154", after := #[], guard := none }) (v := ?_) rfl (by kernel_rfl) (by kernel_rfl) (by kernel_rfl) (fun _ _ _ h => h) (Or.inl ⟨by rfl, ?_⟩) (by assumption) ?_
            rotate_left
            · intro w hSw; (try dsimp only at hSw); go_simp; try with_reducible rfl
            try simp only [Act.put, List.setIfInBounds_toArray, List.set_cons_zero, List.set_cons_succ]
            refine wpAnyH_take (i := 6) (oi := { dst := some 38, op := Go.Op.binOp Go.BinOp.add 3 (Go.Operand.tmp 37) (Go.Operand.const (Go.Value.int Go.IntKind.i64 1)) 3, type := 3, pos := "l8_site.go:154", after := #[{ on := 5, ground := Go.Ground.data }], guard := none }) (v := ?_) rfl (by kernel_rfl) (by kernel_rfl) (by kernel_rfl) (fun _ _ _ h => h) (Or.inl ⟨by rfl, ?_⟩) (by assumption) ?_
            rotate_left
            · intro w hSw; (try dsimp only at hSw); go_simp; try with_reducible rfl
            try simp only [Act.put, List.setIfInBounds_toArray, List.set_cons_zero, List.set_cons_succ]
            refine wpAnyH_take (i := 7) (oi := { dst := some 39, op := Go.Op.slice 26 (Go.Operand.tmp 36) (some (Go.Operand.tmp 38)) none none, type := 26, pos := "l8_site.go:154", after := #[{ on := 4, ground := Go.Ground.data }, { on := 6, ground := Go.Ground.data }], guard := none }) (v := ?_) rfl (by kernel_rfl) (by kernel_rfl) (by kernel_rfl) (fun _ _ _ h => h) (Or.inl ⟨by rfl, ?_⟩) (by assumption) ?_
            rotate_left
            · intro w hSw; (try dsimp only at hSw); go_simp; try with_reducible rfl
            try simp only [Act.put, List.setIfInBounds_toArray, List.set_cons_zero, List.set_cons_succ]
            refine wpAnyH_ready (rs := [3]) (by kernel_rfl) (by simp) ?_
            refine AllReadyH.cons (o := { dst := some 35, op := Go.Op.call { callee := Go.Callee.value (Go.Operand.func 77), args := #[Go.Operand.tmp 34], argTypes := #[26] }, type := 26, pos := "l8_site.go:154", after := #[{ on := 2, ground := Go.Ground.data }], guard := none }) rfl (fun K hK => ?_) AllReadyH.nil
            go_simp
            refine (l1Own_any _ (o.take i) wS hl1.out (HTK.out _ hbS)).mono ?_
            rintro e w1 ⟨v1, rfl, ho1, hb1⟩
            have hbt1 := hbS.trans (hb1.mono hbS.size)
            have hz1 := hb1.size
            try go_simp
            refine hK.out _ _ ?_ (fun hHeld => ?_)
            · trivial
            clear hK K
            try simp only [Act.put, List.setIfInBounds_toArray, List.set_cons_zero, List.set_cons_succ]
            refine wpAnyH_ready (rs := [8]) (by kernel_rfl) (by simp) ?_
            refine AllReadyH.cons (o := { dst := some 40, op := Go.Op.call { callee := Go.Callee.builtin Go.Builtin.append, args := #[Go.Operand.tmp 35, Go.Operand.tmp 39], argTypes := #[26, 26] }, type := 26, pos := "l8_site.go:154", after := #[{ on := 3, ground := Go.Ground.data }, { on := 7, ground := Go.Ground.data }, { on := 3, ground := Go.Ground.chain }], guard := none }) rfl (fun K hK => ?_) AllReadyH.nil
            have hap := HTK
            refine step_append_I (by rfl) _ _ (by rfl) wS.heap.size _ _ (o.take i) (o.drop k1) (by rfl) (by rfl) ho1 (HDR.out _ hbt1 hcap) hl2.out hz1 ?_
            intro v2 w2 ho2 hg2 hat2
            have hb2_2 : Below wS.heap.size wS w2 := hb1.grown hg2 hz1 (fun i hi => (ho1.lt i hi).1)
            try go_simp
            refine hK.out _ _ ?_ (fun hHeld => ?_)
            · trivial
            clear hK K
            try simp only [Act.put, List.setIfInBounds_toArray, List.set_cons_zero, List.set_cons_succ]
            refine wpAnyH_take (i := 9) (oi := { dst := some 10, op := Go.Op.assign (Go.Operand.tmp 40), type := 26, pos := "l8_site.go:154", after := #[{ on := 8, ground := Go.Ground.data }, { on := 8, ground := Go.Ground.chain }, { on := 0, ground := Go.Ground.phase }, { on := 1, ground := Go.Ground.phase }, { on := 2, ground := Go.Ground.phase }, { on := 3, ground := Go.Ground.phase }, { on := 4, ground := Go.Ground.phase }, { on := 5, ground := Go.Ground.phase }, { on := 6, ground := Go.Ground.phase }, { on := 7, ground := Go.Ground.phase }, { on := 8, ground := Go.Ground.phase }], guard := none }) (v := ?_) rfl (by kernel_rfl) (by kernel_rfl) (by kernel_rfl) (fun _ _ _ h => h) (Or.inl ⟨by rfl, ?_⟩) (by assumption) ?_
            rotate_left
            · intro w hSw; (try dsimp only at hSw); go_simp; try with_reducible rfl
            try simp only [Act.put, List.setIfInBounds_toArray, List.set_cons_zero, List.set_cons_succ]
            refine wpAnyH_done (by kernel_rfl) ?_ _
            have hbl := hbS.trans (hb2_2.mono hbS.size)
            replace ho2 : Own w2 wS.heap.size v2 (lessAt o i) := by unfold lessAt; rw [← HK.out]; exact ho2
            have hBl := hb.trans (hbl.mono hsz)
            have C5 := CC.out v2 (lessAt o i) w2 hBl HLR.out ho2.rd
            have HLO : Hid (Own w2 w.heap.size v2 (lessAt o i)) := Lib.hid (ho2.base (Nat.le_trans hsz hbS.size))
            have HOL := Lib.hid (HO.out.later hbl)
            obtain ⟨a9, y9, c9, rfl, -⟩ := ho2.f
            clear ho2
            cases hcv : covB L N (lessAt o i) 1 with
            | true =>
              rw [hcv] at C5
              have C6 := Lib.hid C5
              have HE : Hid (thT L N zs (y2 - i) = lessAt o i) := Lib.hid (by rw [HTE.out, thStep, hcv]; rfl)
              clear C5 hcv
              go_wp2_with fail
              refine C6.out.mono ?_
              rintro e w9 ⟨rfl, hb9⟩
              have hB9 := hBl.trans (hb9.mono hBl.size)
              go_wp2
              go_roundw
              case rel => exact ⟨i, by omega, dnS_next i, by rw [HE.out]; exact HLO.out.later hb9, hB9⟩
              case measure => simp only [intOf]; omega
            | false =>
              rw [hcv] at C5
              have C6 := Lib.hid C5
              have HE : Hid (thT L N zs (y2 - i) = o) := Lib.hid (by rw [HTE.out, thStep, hcv]; rfl)
              clear C5 hcv
              go_wp2_with fail
              refine C6.out.mono ?_
              rintro e w9 ⟨rfl, hb9⟩
              have hB9 := hBl.trans (hb9.mono hBl.size)
              go_wp2
              go_roundw
              case rel => exact ⟨i, by omega, dnS_next i, by rw [HE.out]; exact HOL.out.later hb9, hB9⟩
              case measure => simp only [intOf]; omega
end Go.Proofs.Ytpmdjdlojbpcfaa
