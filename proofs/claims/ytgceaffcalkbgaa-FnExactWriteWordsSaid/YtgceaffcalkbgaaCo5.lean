/- Chapter 4: ReadWords of both sides. -/
import Derived.Test.YtgceaffcalkbgaaCo4
import Derived.RegionTactic
import Derived.StillTailTactics
import Derived.Deep.LoopGhost
namespace Go.Proofs.Ytgceaffcalkbgaa
open Go.RowKit
set_option linter.unusedSimpArgs false
set_option linter.unusedVariables false

/-- append of one integer; where the new slice lies. -/
theorem append_int_at {w : World} {ops : Array Oper} {rest : List Oper} {o : Oper} {a : Act} {Q : Exit → Act → World → Prop} (hgd : o.guard = none) (s x : Operand)
    (ho : o.op = .call { callee := .builtin .append, args := #[s, x], argTypes := #[23, 23] })
    (B : Nat) (v : Value) (zs : List Int) (z : Int) (h : Nat) (hs : a.eval s = v) (hx : a.eval x = .slice (some ⟨h, 0, none⟩) 1 1)
    (hown : Own w B v zs) (hcell : w.cell? ⟨h, 0, none⟩ = some (.int .i64 z)) (hlen : zs.length ≤ 1099511627776) (hB : B ≤ w.heap.size)
    (hK : ∀ v' w', Own w' B v' (zs ++ [z]) → w.grownBy w' v.ownBlock → (v'.ownBlock = v.ownBlock ∨ v'.ownBlock = some w.heap.size) → wpList Try.prog ops Q rest (a.put o.dst v') w') : wpList Try.prog ops Q (o :: rest) a w := by
  obtain ⟨i0, hi, hz0, hz1, hz2⟩ := info_parts Try_info_int
  refine wpList_append_own_at w hgd s x 23 ho B 3 i0 (.int .i64 0) 1 8 Try.underlying23 hi hz0 hz1 hz2 rfl (by decide) v zs.length (zs.map (Value.int .i64)) hs hown
    ⟨h, 0, none⟩ 1 1 [.int .i64 z] hx rfl ?_ ?_ (by unfold maxLen; omega) (by omega) hB ?_
  · intro j u hj
    match j, hj with
    | 0, hj => simp at hj; subst hj; simpa [Addr.add] using hcell
  · intro u hu; simp at hu; subst hu; rfl
  · intro v' w' h1 h2 _ h3
    refine hK v' w' ?_ h2 h3
    unfold Own
    simpa using h1

set_option maxRecDepth 100000 in
set_option maxHeartbeats 2000000 in
theorem specReadYes (v1 v2 : Value) (L : List (List Int)) (ds : List Int) (w : World) (h1 : RdJ w v1 L) (h2 : RdC w v2 ds) (hc : codB L = true) (h180 : ds.length ≤ 180) (ha : allIn ds 0 59 = true) :
    Calls Try.prog 38 #[v1, v2] w fun e w' => ∃ v, e = .returned (.tuple #[v, .bool (rdB L ds)]) ∧ OwnI w' w.heap.size w'.heap.size v (rdL L ds) ∧ Below w.heap.size w w' := by
  obtain ⟨a1, c1, rfl, hlc⟩ := h1.len
  obtain ⟨a2, c2, e2, hc2⟩ := h2.2
  subst e2
  have H1 := Lib.hid h1
  have H2 := Lib.hid h2
  have HC := Lib.hid hc
  have HA := Lib.hid ha
  have H180 := Lib.hid h180
  have hc20 := codB_len hc
  have hl60 : (ds.length : Int) ≤ 180 := by omega
  obtain ⟨nL, hnL⟩ : ∃ n, n = L.length := ⟨_, rfl⟩
  have HNL := Lib.hid hnL
  rw [← hnL] at hc20 hlc ⊢
  clear h1 h2 h180 hnL
  go_enter Try.func38, Try.ntmps38
  go_wp2_with fail
  refine (cmCode_any _ L _ (by rw [HNL.out]; exact H1.out)).mono ?_
  rintro e w1 ⟨rfl, hb1⟩
  rw [hc]
  clear hc
  go_wp2_with fail
  refine (l1All_any _ ds _ _ _ (H2.out.rd.later hb1)).mono ?_
  rintro e w2 ⟨rfl, rfl⟩
  rw [ha]
  clear ha
  go_wp2
  go_loopg [1, 6] (ds.length) (fun f d u wr => ∃ (acc rest : List Int) (da : Option Addr) (dc : Nat), d = .slice da rest.length dc ∧ RdC w d rest ∧ Own wr w.heap.size u acc ∧ Below w.heap.size w wr ∧ rest.length ≤ f ∧ acc.length + rest.length ≤ 180 ∧ Hid (Rdg L ds acc rest))
  case atStart => exact ⟨[], ds, _, _, rfl, H2.out, Own.nil _ _, hb1, Nat.le_refl _, by simp; exact H180.out, Lib.hid (Rdg.start L ds)⟩
  case round =>
    obtain ⟨acc, rest, da, dc, rfl, hrd, hown, hbl, hfu, htot, hg⟩ := hrel
    obtain ⟨ws, hws⟩ : ∃ ws, ws = wr := ⟨_, rfl⟩
    subst hws
    by_cases hlt : 0 < rest.length
    · have hlt' : 0 < (rest.length : Int) := by omega
      have HRD := Lib.hid hrd
      have HOWN := Lib.hid hown
      have hrc : rest.length ≤ dc := by obtain ⟨-, x, y, hv, hxy⟩ := hrd; simp only [Value.slice.injEq] at hv; omega
      obtain ⟨dg, doff, rfl⟩ := hrd.some_ hlt
      obtain ⟨rl, hrl⟩ : ∃ n, n = rest.length := ⟨_, rfl⟩
      have HRL := Lib.hid hrl
      have hlz := Lib.hid (lastTo_all (ds := rest) HC.out)
      rw [← HNL.out] at hlz
      rw [← hrl] at hlt' hlt hrc hfu htot ⊢
      clear hrd hown hrl
      go_wp2
      go_loopw [7, 28] (fun z i wq => ∃ j : Nat, j ≤ nL ∧ i = .int .i64 j ∧ z = .int .i64 (lastTo L rest j) ∧ Below ws.heap.size ws wq) (fun z i wq => nL - (intOf i).toNat)
      case atStart => exact ⟨0, Nat.zero_le _, rfl, rfl, Below.refl _ _⟩
      case round =>
        obtain ⟨j, hj, rfl, rfl, hbq⟩ := hrel
        by_cases hjn : j < nL
        · have hbw := hbl.trans (hbq.mono hbl.size)
          obtain ⟨g, off, x, e3, hg3, hx0, hrx⟩ := (H1.out.below hbw (Nat.le_refl _)).at_ rfl j (by rw [← HNL.out]; exact hjn)
          subst e3
          obtain ⟨xa, xc, rfl⟩ := hrx.rd.len
          have HX := Lib.hid hrx
          clear hrx
          cases hb : begsB (rowAt L j) rest with
          | true =>
            have hs : Hid (lastTo L rest (j + 1) = j) := Lib.hid (by rw [lastTo, if_pos hb])
            go_wp2_with fail
            refine (bkBegins_any _ _ (rowAt L j) rest _ HX.out (by have := HRD.out.later hbw; rw [← HRL.out] at this; exact this)).mono ?_
            rintro e w3 ⟨rfl, hb3⟩
            rw [hb]
            go_wp2
            go_roundw
            case rel => exact ⟨j + 1, by omega, by go_num, by rw [hs.out], hbq.trans (hb3.mono hbq.size)⟩
            case measure => simp [intOf]; omega
          | false =>
            have hs : Hid (lastTo L rest (j + 1) = lastTo L rest j) := Lib.hid (by rw [lastTo, hb, if_neg (by simp)])
            go_wp2_with fail
            refine (bkBegins_any _ _ (rowAt L j) rest _ HX.out (by have := HRD.out.later hbw; rw [← HRL.out] at this; exact this)).mono ?_
            rintro e w3 ⟨rfl, hb3⟩
            rw [hb]
            go_wp2
            go_roundw
            case rel => exact ⟨j + 1, by omega, by go_num, by rw [hs.out], hbq.trans (hb3.mono hbq.size)⟩
            case measure => simp [intOf]; omega
        · have : j = nL := by omega
          subst this
          have hbw := hbl.trans (hbq.mono hbl.size)
          rw [hlz.out]
          cases hf : fwI L rest with
          | none =>
            have hz := fwZ_none hf
            have hno := Lib.hid (rdB_none (hg.out.fail (by rw [← HRL.out]; exact hlt) hf))
            rw [hz]
            clear hz hf
            go_wp2
            go_ret2
            exact ⟨_, by rw [hno.out]; rfl, by rw [rdL_no hno.out]; exact (Own.nil _ _).iv, hbw⟩
          | some i =>
            have hz := fwZ_some hf
            obtain ⟨hi, hbg⟩ := fwI_some hf
            have hst := Lib.hid (hg.out.step HC.out (by rw [← HRL.out]; exact hlt) hf)
            have hwl := codB_word HC.out hi
            have hle := (begsB_iff.1 hbg).1
            rw [← HRL.out] at hle
            rw [hz]
            clear hz hf hbg
            have hi' : i < j := by rw [HNL.out]; exact hi
            have hq : ¬ ((i : Int) < 0) := by omega
            obtain ⟨g, off, x, e3, hg3, hx0, hrx⟩ := H1.out.at_ rfl i hi
            subst e3
            obtain ⟨xa, xc, rfl⟩ := hrx.rd.len
            have hown2 := HOWN.out.later hbq
            have hs1 := hbw.size
            obtain ⟨m, hm⟩ : ∃ m, m = (rowAt L i).length := ⟨_, rfl⟩
            have hm1 : 1 ≤ m := by rw [hm]; exact hwl.1
            have HM := Lib.hid hm
            rw [← hm] at hle hx0
            have HB4 : Hid (∀ o w4, (wr.alloc o).grownBy w4 u6.ownBlock → Below w.heap.size w w4 ∧ w4.cell? ⟨g, off + i, none⟩ = some (.slice xa m xc)) := Lib.hid fun o w4 hg4 => by
              have h4 : Below w.heap.size w w4 := (hbw.alloc hs1 o).grown hg4 (by simp; omega) (fun k hk => (HOWN.out.lt k hk).1)
              exact ⟨h4, by rw [h4.cell (p := ⟨g, off + i, none⟩) hg3]; exact hx0⟩
            have hacc : acc.length ≤ 1099511627776 := by omega
            clear hwl hrx hm
            by_cases hcap : dc = m
            · go_wp2_with (at_builtin; refine append_int rfl _ _ rfl w.heap.size _ acc i wr.heap.size rfl rfl (hown2.alloc _) (new_cell _ _ _) hacc (by simp; omega) ?_; intro v' w4 hown4 hgrow4; obtain ⟨hb4, hx4⟩ := HB4.out _ _ hgrow4)
              have hd : rest.drop m = [] := List.drop_eq_nil_of_le (by rw [← HRL.out]; omega)
              have hz : rl - m = 0 := by omega
              rw [hz]
              go_roundg 0
              case measure => omega
              case rel => exact ⟨acc ++ [(i : Int)], [], _, 0, rfl, ⟨.inl ⟨rfl, _, _, rfl, fun h => by cases h⟩, _, _, rfl, Nat.zero_le _⟩, hown4, hb4, Nat.le_refl _, by simp; omega, by have := hst; rw [← HM.out, hd] at this; exact this⟩
            · go_wp2_with (at_builtin; refine append_int rfl _ _ rfl w.heap.size _ acc i wr.heap.size rfl rfl (hown2.alloc _) (new_cell _ _ _) hacc (by simp; omega) ?_; intro v' w4 hown4 hgrow4; obtain ⟨hb4, hx4⟩ := HB4.out _ _ hgrow4)
              have hdl : (rest.drop m).length = rl - m := by rw [List.length_drop, ← HRL.out]
              have hdr : RdC w (.slice (some ⟨dg, doff + m, none⟩) (rl - m) (dc - m)) (rest.drop m) := by
                by_cases e : m < rl
                · have := HRD.out; rw [← HRL.out] at this; exact this.drop m e
                · have h0 : rl - m = 0 := by omega
                  have hd : rest.drop m = [] := List.eq_nil_of_length_eq_zero (by omega)
                  rw [h0, hd]
                  exact ⟨.inl ⟨rfl, _, _, rfl, fun h => by cases h⟩, _, _, rfl, Nat.zero_le _⟩
              go_roundg (rl - m)
              case measure => omega
              case rel => exact ⟨acc ++ [(i : Int)], rest.drop m, _, _, by rw [hdl], hdr, hown4, hb4, by rw [hdl]; exact Nat.le_refl _, by rw [hdl]; simp; omega, by have := hst; rw [← HM.out] at this; exact this⟩
    · have h0 : rest.length = 0 := by omega
      have hlt' : ¬ 0 < (rest.length : Int) := by omega
      have hrd' := hg.out.end_ h0
      have hyes := Lib.hid (rdB_yes HC.out H180.out HA.out hrd')
      have hval := Lib.hid (rdL_yes hyes.out hrd')
      rw [h0]
      clear hrd hrd' hlt
      go_wp2
      go_ret2
      exact ⟨_, by rw [hyes.out]; rfl, by rw [hval.out]; exact hown.iv, hbl⟩
end Go.Proofs.Ytgceaffcalkbgaa
