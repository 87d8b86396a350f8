/- Chapter 4: LeastLengths of the program. -/
import Derived.Test.YtgceaffcalkbgaaTl1
import Derived.Test.YtgceaffcalkbgaaLl9
namespace Go.Proofs.Ytgceaffcalkbgaa
open Go.RowKit
set_option linter.unusedSimpArgs false
set_option linter.unusedVariables false

/-- The weights in their order, as far as they are stored. -/
def filT (ws : List Int) (t : Nat) : List Int := (srt ws).take t ++ List.replicate (ws.length - t) 0
theorem filT_len {ws : List Int} {t : Nat} (h : t ≤ ws.length) : (filT ws t).length = ws.length := by simp [filT, srt_len]; omega
theorem filT_all (ws : List Int) : filT ws ws.length = srt ws := by
  unfold filT
  rw [Nat.sub_self, List.replicate_zero, List.append_nil, ← srt_len ws, List.take_length]
theorem filT_step {ws : List Int} {t : Nat} (h : t < ws.length) : (filT ws t).set t (nth ws (oI ws t)) = filT ws (t + 1) := by
  unfold filT
  have hs : t < (srt ws).length := by rw [srt_len]; exact h
  rw [List.set_append_right _ _ (by simp; omega), show t - ((srt ws).take t).length = 0 by rw [List.length_take]; omega, show ws.length - t = (ws.length - (t + 1)) + 1 by omega, List.replicate_succ, List.set_cons_zero,
    List.take_succ_eq_append_getElem hs, List.append_assoc]
  have : (srt ws)[t] = nth ws (oI ws t) := by rw [← srt_at h]; simp [nth, hs]
  rw [this]
  rfl

/-- What the program's last loops hold. -/
def GoodP (w0 w : World) (ob oc b g n : Nat) (v1 : Value) (ws : List Int) (xs : List Value) (out : List Int) : Prop :=
  OwnI w g (g + 1) (.slice (some ⟨g, 0, none⟩) n n) out ∧ RowX w b xs ∧ OwnI w ob oc v1 (ints (oL ws)) ∧ Below w0.heap.size w0 w
theorem GoodP.put {w0 w : World} {ob oc b g n d : Nat} {v1 : Value} {ws q : List Int} {xs : List Value} {x : Int} (h : GoodP w0 w ob oc b g n v1 ws xs (outT ws q d)) (hn : ws.length = n) (hd : d < n) (hx : nth q d = x) (hbg : b < g) (hoc : oc ≤ g) (h0 : w0.heap.size ≤ g) :
    GoodP w0 (w.setCell ⟨g, oI ws d, none⟩ (.int .i64 x)) ob oc b g n v1 ws xs (outT ws q (d + 1)) ∧ (∃ u, w.cell? ⟨g, oI ws d, none⟩ = some u) ∧ w.frozen? ⟨g, oI ws d, none⟩ = false := by
  obtain ⟨h1, h2, h3, h4⟩ := h
  have hl : (outT ws q d).length = n := by rw [outT_len, hn]
  have hl' : (outT ws q (d + 1)).length = n := by rw [outT_len, hn]
  have ho : oI ws d < n := by have := oI_lt (ws := ws) (t := d) (by omega); omega
  have o1 : w.ownsRow g 3 1 (.slice (some ⟨g, 0, none⟩) n n) n ((outT ws q d).map (Value.int .i64)) := by have := h1.1; unfold Own at this; rw [hl] at this; exact this
  have hst := World.ownsRow.stored (g := g) (n := n) (cap := n) o1 (oI ws d) (.int .i64 x)
  have e : ((outT ws q d).map (Value.int .i64)).set (oI ws d) (.int .i64 x) = (outT ws q (d + 1)).map (Value.int .i64) := by
    rw [outT, List.map_set, hx]
  rw [e] at hst
  have hk : Kp g (g + 1) w (w.setCell ⟨g, oI ws d, none⟩ (.int .i64 x)) := (Kp.refl _ _ _).setCell (by constructor <;> show _ <;> simp) _
  refine ⟨⟨⟨by unfold Own; rw [hl']; exact hst.1, h1.2⟩, row_at h2 fun k hk' => ?_, h3.kept hk (.inl hoc), h4.setCell (p := ⟨g, oI ws d, none⟩) h0 _⟩, ?_, o1.frozenAt _⟩
  · have : b = k := by simpa [Value.ownBlock] using hk'
    exact hk.block k (World.ownsRow.lt h2 k hk').2 (by omega)
  · rw [o1.cellAt _ (by omega)]
    exact ⟨_, List.getElem?_eq_getElem (by simp only [List.length_map]; rw [hl]; exact ho)⟩

set_option maxRecDepth 100000 in
set_option maxHeartbeats 8000000 in
theorem implLeast_aux (v : Value) (ws : List Int) (R lim : Nat) (w : World) (hs : Bool) (LL : List Int) (HHS : Hid (hasL ws R lim = hs)) (HLL : Hid (LL = if hs then outT ws (seqL ws R lim) ws.length else [])) (hw : wtB ws = true) (hR2 : 2 ≤ R) (hR : R ≤ 60) (hl1 : 1 ≤ lim) (hlim : lim ≤ 6) (h1 : Rd w v ws) :
    Calls Try.prog 15 #[v, .int .i64 (R : Int), .int .i64 (lim : Int)] w fun e w' => ∃ v', e = .returned (.tuple #[v', .bool hs]) ∧ OwnI w' w.heap.size w'.heap.size v' LL ∧ Below w.heap.size w w' := by
  have hmf : ∀ (fn : Fn) (first cap : Array Value) (w : World), (Instr.makeFunc fn first cap).run Try.prog w = .ok (.func fn first cap) w := fun _ _ _ _ => rfl
  obtain ⟨i0, hi, hz0, hz1, hz2⟩ := info_parts Try_info_int
  obtain ⟨zz1, zz2⟩ := zero_of_info tab_info
  obtain ⟨cz, hcz⟩ : ∃ c, c = cZ := ⟨_, rfl⟩
  rw [← hcz] at zz1
  obtain ⟨a1, c1, rfl⟩ := h1.len
  have h20 := wtB_len hw
  have hB : baB (R : Int) = true := inB_yes (by omega) (by omega)
  have hL : liB (lim : Int) = true := inB_yes (by omega) (by omega)
  have hbW := (Below.refl w.heap.size w).alloc (Nat.le_refl _) (.cells #[.slice a1 ws.length c1] 23)
  have hxW : (w.alloc (.cells #[.slice a1 ws.length c1] 23)).cell? ⟨w.heap.size, 0, none⟩ = some (.slice a1 ws.length c1) := by simp [go_sem]
  have hsW : w.heap.size < (w.alloc (.cells #[.slice a1 ws.length c1] 23)).heap.size := by simp
  have HS := Lib.hid (srt_sm hw)
  have H1 := Lib.hid h1
  have HCZ := Lib.hid hcz
  have HZ2 := Lib.hid zz2
  obtain ⟨n, hn⟩ : ∃ n, n = ws.length := ⟨_, rfl⟩
  rw [← hn] at h20 hbW hxW hsW HLL
  have HN := Lib.hid hn
  rw [← hn]
  clear h1 hn hcz zz2
  go_enter Try.func15, Try.ntmps15
  go_wp2_with fail
  generalize w.alloc (.cells #[.slice a1 n c1] 23) = W at *
  have hrW := Lib.hid (H1.out.later hbW)
  go_wp2_with fail
  refine (areWeights_any _ ws _ (by rw [HN.out]; exact hrW.out)).mono ?_
  rintro e w0 ⟨rfl, rfl⟩
  rw [hw]
  go_wp2_with fail
  refine (isBase_any _ _).mono ?_
  rintro e w0 ⟨rfl, rfl⟩
  rw [hB]
  go_wp2_with fail
  refine (isLimit_any _ _).mono ?_
  rintro e w0 ⟨rfl, rfl⟩
  rw [hL]
  clear hw hB hL
  go_wp2_with fail
  refine (orderedW_any ws (.slice a1 n c1) w.heap.size n _ h20.2 h20.1 HN.out.symm hsW hxW (by rw [HN.out]; exact hrW.out)).mono ?_
  rintro e w1 ⟨vo, rfl, hoo, hb1⟩
  have hoo' : Own w1 W.heap.size vo (ints (oL ws)) := by unfold oL; rw [← HN.out]; exact hoo
  have s1 := hb1.size
  have x1 := hxW ▸ hb1.cell (p := ⟨w.heap.size, 0, none⟩) hsW
  have hlo : (ints (oL ws)).length = n := by rw [ints_len, oL_len, HN.out]
  obtain ⟨oa, oc, hvo⟩ := hoo'.rd.len
  rw [hlo] at hvo
  subst hvo
  clear hoo
  go_wp2_with (refine wpList_make_full _ rfl _ _ 23 rfl w1.heap.size 3 i0 (.int .i64 0) 1 Try.underlying23 hi hz0 hz1 .i64 .i64 _ _ n rfl rfl rfl rfl (by rw [hz2]; omega) (by unfold maxLen; omega) (Nat.le_refl _) ?_; intro w2 hown2 hgrow2)
  --REST
  have hzw : Own w2 w1.heap.size (.slice (some ⟨w1.heap.size, 0, none⟩) n n) (filT ws 0) := by
    have := Own.zeros (B := w1.heap.size) hown2
    unfold filT
    rw [List.take_zero, List.nil_append, Nat.sub_zero, ← HN.out]
    exact this
  have hb2 : Below w1.heap.size w1 w2 := (Below.refl _ _).grown hgrow2 (Nat.le_refl _) (fun k h => by cases h)
  have HOO := Lib.hid hoo'.iv
  have HX1 := Lib.hid x1
  have H2 := Lib.hid (And.intro hzw hb2)
  clear hown2 hgrow2 hzw hb2 hoo' x1 hxW
  go_loopw [42] (fun i wr => ∃ t : Nat, t ≤ n ∧ i = .int .i64 t ∧ Hid (Own wr w1.heap.size (.slice (some ⟨w1.heap.size, 0, none⟩) n n) (filT ws t) ∧ Below w1.heap.size w1 wr)) (fun i wr => n - (intOf i).toNat)
  case atStart => exact ⟨0, Nat.zero_le _, rfl, H2⟩
  case round =>
    obtain ⟨t, ht, rfl, hh⟩ := hrel
    by_cases hlt : t < n
    · obtain ⟨hown, hbl⟩ := hh.out
      obtain ⟨g1, e1, p1⟩ := ord_at (HOO.out.later hbl).1 HN.out hlt
      subst e1
      have hyn : oI ws t < n := by rw [HN.out]; exact oI_lt (by rw [← HN.out]; exact hlt)
      have xD := HX1.out ▸ hbl.cell (p := ⟨w.heap.size, 0, none⟩) (by show w.heap.size < w1.heap.size; omega)
      obtain ⟨g2, o2, e2, hg2, p2⟩ := ((hrW.out.later hb1).later hbl).at_ rfl (oI ws t) (by rw [← HN.out]; exact hyn)
      subst e2
      rw [show ws[oI ws t]?.getD 0 = nth ws (oI ws t) from rfl] at p2
      have hl0 : (filT ws t).length = n := by rw [filT_len (by rw [← HN.out]; exact ht), HN.out]
      have hl1' : (filT ws (t + 1)).length = n := by rw [filT_len (by rw [← HN.out]; omega), HN.out]
      have hown' : wr.ownsRow w1.heap.size 3 1 (.slice (some ⟨w1.heap.size, 0, none⟩) n n) n ((filT ws t).map (Value.int .i64)) := by unfold Own at hown; rw [hl0] at hown; exact hown
      have hst := World.ownsRow.stored (g := w1.heap.size) (n := n) (cap := n) hown' t (.int .i64 (nth ws (oI ws t)))
      have hfz : wr.frozen? ⟨w1.heap.size, t, none⟩ = false := World.ownsRow.frozenAt hown' t
      obtain ⟨u, hcell⟩ : ∃ u, wr.cell? ⟨w1.heap.size, t, none⟩ = some u := by
        rw [World.ownsRow.cellAt hown' t (by omega)]
        exact ⟨_, List.getElem?_eq_getElem (by simp only [List.length_map]; rw [hl0]; exact hlt)⟩
      have hstep : ((filT ws t).map (Value.int .i64)).set t (.int .i64 (nth ws (oI ws t))) = (filT ws (t + 1)).map (Value.int .i64) := by
        rw [← List.map_set, filT_step (by rw [← HN.out]; exact hlt)]
      rw [hstep] at hst
      have HF : Hid (Own (wr.setCell ⟨w1.heap.size, t, none⟩ (.int .i64 (nth ws (oI ws t)))) w1.heap.size (.slice (some ⟨w1.heap.size, 0, none⟩) n n) (filT ws (t + 1)) ∧ Below w1.heap.size w1 (wr.setCell ⟨w1.heap.size, t, none⟩ (.int .i64 (nth ws (oI ws t))))) :=
        Lib.hid ⟨by unfold Own; rw [hl1']; exact hst.1, hbl.setCell (p := ⟨w1.heap.size, t, none⟩) (Nat.le_refl _) _⟩
      obtain ⟨z, hz⟩ : ∃ z, z = nth ws (oI ws t) := ⟨_, rfl⟩
      obtain ⟨y, hy⟩ : ∃ y, y = oI ws t := ⟨_, rfl⟩
      rw [← hz] at HF p2
      rw [← hy] at p1 p2 hyn
      clear hst hl0 hl1' hown hown' hstep hh hbl hz hy
      go_wp2
      go_roundw
      case rel => exact ⟨t + 1, by omega, by go_num, HF⟩
      case measure => simp [intOf]; omega
    · have : n = t := by omega
      subst this
      obtain ⟨hown, hbl⟩ := hh.out
      have hfa := filT_all ws
      rw [← HN.out] at hfa
      rw [hfa] at hown
      have hHd := Lib.hid hown.rd
      have hs3 := hbl.size
      have HBL := Lib.hid hbl
      clear hown hh hfa hbl
      go_wp2_with fail
      refine (rests_any _ (srt ws) R lim _ HS.out (by omega) hR hl1 hlim hHd.out).mono ?_
      rintro e w3 ⟨xs, rfl, hT, hb3⟩
      have HT := Lib.hid hT
      have hsz : (Try.prog.info? 75).map (·.size) = some xs.toArray.size := by rw [HZ2.out, List.size_toArray, hT.1]
      have hold : cz.size = xs.toArray.size := by rw [show xs.toArray.size = xs.length from List.size_toArray, hT.1, HCZ.out, cZ_size]
      have hone : xs.toArray.all (·.oneCell') = true := by have := hT.2.1; simpa using this
      have HSZ := Lib.hid hsz
      have HOL := Lib.hid hold
      have HON := Lib.hid hone
      have hrow := RowX.made w3 xs.toArray (by rw [← hold, HCZ.out]; exact cZ_size)
      rw [show xs.toArray.toList = xs from rfl] at hrow
      have hb4 := (Below.refl w3.heap.size w3).alloc (Nat.le_refl _) (.cells xs.toArray 75)
      have hb14 : Below w1.heap.size w1 (w3.alloc (.cells xs.toArray 75)) := (HBL.out.trans (hb3.mono hs3)).trans (hb4.mono (by have := hb3.size; omega))
      have HROW := Lib.hid hrow
      have HB14 := Lib.hid hb14
      have hs4 : w1.heap.size ≤ w3.heap.size := by have := hb3.size; omega
      clear hT hsz hold hone hrow hb4 hb14 hb3
      have hsl : Hid ((srt ws).length = n) := Lib.hid (by rw [srt_len, HN.out])
      have HBW : Hid (Below w.heap.size w (w3.alloc (.cells xs.toArray 75))) := Lib.hid ((hbW.trans (hb1.mono hbW.size)).trans (HB14.out.mono (by omega)))
      by_cases hRn : (R : Int) ≤ (n : Int)
      · have hmin : min R n = R := by omega
        have hE := (HT.out.2.2 1 n R (by unfold DoneAt; omega) (Nat.le_refl _) (by omega) (by rw [hsl.out]; exact Nat.le_refl _) (by omega)).1
        rw [show lim + 1 - 1 = lim by omega, hsl.out, Nat.sub_self] at hE
        have hEs : tE (srt ws) R lim 0 R = hs := by rw [← HHS.out, hasL, ← HN.out, hmin]; rfl
        rw [hEs, show 1 * 1323 + n * 63 + R * 3 = 1323 + n * 63 + R * 3 by omega] at hE
        have y0 := HROW.out.cell hE
        have hfl : R ≤ n := by omega
        have hn21 : (n : Int) < 21 := by omega
        have hf21 : (R : Int) < 21 := by omega
        have hseq : Hid ((seqL ws R lim).drop 0 = runW (srt ws) R lim lim 0 R) := Lib.hid (by rw [List.drop_zero, seqL, ← HN.out, hmin])
        have hhas : Hid (hs = true → cC (srt ws) R lim 0 R < never) := Lib.hid fun h => by rw [h] at hEs; simpa [tE] using hEs
        clear hE hEs hmin
        cases hs with
        | false =>
          go_wp2_with (refine wpList_store_row rfl 75 _ _ rfl w3.heap.size xs.toArray rfl rfl 75 cz (heap_alloc_last w3 _) HSZ.out HOL.out HON.out ?_; rw [World.setRow_alloc_new])
          go_ret2
          exact ⟨_, rfl, by rw [HLL.out]; exact OwnI.nil _ _ _, HBW.out⟩
        | true =>
          go_wp2_with (first
            | (refine wpList_store_row rfl 75 _ _ rfl w3.heap.size xs.toArray rfl rfl 75 cz (heap_alloc_last w3 _) HSZ.out HOL.out HON.out ?_; rw [World.setRow_alloc_new])
            | (refine wpList_make_full _ rfl _ _ 23 rfl (w3.alloc (.cells xs.toArray 75)).heap.size 3 i0 (.int .i64 0) 1 Try.underlying23 hi hz0 hz1 .i64 .i64 _ _ n rfl rfl rfl rfl (by rw [hz2]; omega) (by unfold maxLen; omega) (Nat.le_refl _) ?_; intro w5 hown5 hgrow5))
          have hg5 : (w3.alloc (.cells xs.toArray 75)).heap.size = w3.heap.size + 1 := by simp
          rw [hg5] at hown5
          have hb5 : Below (w3.heap.size + 1) (w3.alloc (.cells xs.toArray 75)) w5 := by rw [← hg5]; exact (Below.refl _ _).grown hgrow5 (Nat.le_refl _) (fun k h => by cases h)
          have hG0 : Hid (GoodP w w5 W.heap.size w1.heap.size w3.heap.size (w3.heap.size + 1) n (.slice oa n oc) ws xs (outT ws (seqL ws R lim) 0)) := Lib.hid (by
            have hb5' : Below (w3.alloc (.cells xs.toArray 75)).heap.size (w3.alloc (.cells xs.toArray 75)) w5 := by rw [hg5]; exact hb5
            refine ⟨⟨?_, fun k hk => Nat.lt_succ_of_le (Nat.le_of_eq (by simpa [Value.ownBlock] using hk.symm))⟩, HROW.out.later hb5', ((HOO.out.later HB14.out).later hb5'), HBW.out.trans (hb5.mono (by omega))⟩
            have hz := Own.zeros (w := w3.alloc (.cells xs.toArray 75)) (B := w3.heap.size + 1) (n := n) (w1 := w5) (by rw [hg5]; exact hown5)
            rw [hg5] at hz
            rw [outT, ← HN.out]
            exact hz)
          have hh0 := hhas.out (by trivial)
          have hG1 := Lib.hid (And.intro hseq.out hh0)
          clear hown5 hgrow5 hb5 hg5 hh0 y0
          go_loopw [14, 15, 75] (fun lv fr i wr => ∃ l f d : Nat, 1 ≤ l ∧ l ≤ lim + 1 ∧ d ≤ n ∧ f ≤ n - d ∧ lv = .int .i64 l ∧ fr = .int .i64 f ∧ i = .int .i64 d ∧ Hid (GoodP w wr W.heap.size w1.heap.size w3.heap.size (w3.heap.size + 1) n (.slice oa n oc) ws xs (outT ws (seqL ws R lim) d)) ∧
            Hid ((seqL ws R lim).drop d = runW (srt ws) R lim (lim + 1 - l) d f ∧ (d < n → cC (srt ws) R (lim + 1 - l) d f < never))) (fun lv fr i wr => n - (intOf i).toNat)
          case atStart => exact ⟨1, R, 0, Nat.le_refl _, by omega, Nat.zero_le _, hfl, rfl, rfl, rfl, hG0, Lib.hid (by rw [show lim + 1 - 1 = lim by omega]; exact ⟨hG1.out.1, fun _ => hG1.out.2⟩)⟩
          case round =>
            obtain ⟨l, f, d, hl1', hl2, hdn, hfd, rfl, rfl, rfl, hGd, hrun⟩ := hrel
            by_cases hdl : d < n
            · obtain ⟨ws0, hws0⟩ : ∃ x, x = wr := ⟨_, rfl⟩
              subst hws0
              obtain ⟨g1, e1, p1⟩ := ord_at hGd.out.2.2.1.1 HN.out hdl
              subst e1
              have hyn : oI ws d < n := by rw [HN.out]; exact oI_lt (by rw [← HN.out]; exact hdl)
              have hrun' : Hid ((seqL ws R lim).drop d = runW (srt ws) R lim (lim + 1 - l) d f ∧ cC (srt ws) R (lim + 1 - l) d f < never) := Lib.hid ⟨hrun.out.1, hrun.out.2 hdl⟩
              obtain ⟨y, hy⟩ : ∃ y, y = oI ws d := ⟨_, rfl⟩
              rw [← hy] at p1 hyn
              have HY := Lib.hid hy
              have hnd : (0 : Int) ≤ (n : Int) - (d : Int) ∧ (n : Int) - (d : Int) < 21 := by omega
              clear hrun hy
              go_wp2
              go_loopw [14, 15] (fun lv fr wr => ∃ l f : Nat, 1 ≤ l ∧ l ≤ lim + 1 ∧ f ≤ n - d ∧ lv = .int .i64 l ∧ fr = .int .i64 f ∧ wr = ws0 ∧ Hid ((seqL ws R lim).drop d = runW (srt ws) R lim (lim + 1 - l) d f ∧ cC (srt ws) R (lim + 1 - l) d f < never)) (fun lv fr wr => lim + 1 - (intOf lv).toNat)
              case atStart => exact ⟨l, f, hl1', hl2, hfd, rfl, rfl, rfl, hrun'⟩
              case round =>
                obtain ⟨l, f, hl1, hl2, hfd, rfl, rfl, hwe, hrn⟩ := hrel
                obtain ⟨w9, hw9⟩ : ∃ x, x = ws0 := ⟨_, rfl⟩
                rw [hwe]
                clear hwe hw9
                have hdS : d < (srt ws).length := by rw [hsl.out]; exact hdl
                have hl3 : l ≤ lim := by
                  by_cases e : l ≤ lim
                  · exact e
                  · exfalso
                    have h1 := hrn.out.2
                    rw [show lim + 1 - l = 0 by omega, cC_zero hdS] at h1
                    unfold never at h1
                    omega
                have hE := (HT.out.2.2 l (n - d) f (by unfold DoneAt; omega) hl1 hl2 (by rw [hsl.out]; omega) (by omega)).2.2
                rw [hsl.out, show n - (n - d) = d by omega] at hE
                obtain ⟨pv, hpv⟩ : ∃ x, x = pB (srt ws) R (lim + 1 - l) d f := ⟨_, rfl⟩
                rw [← hpv] at hE
                have y1 := hGd.out.2.1.cell hE
                have hf21 : (f : Int) < 21 := by omega
                have hl8 : (l : Int) < 8 := by omega
                have HPV := Lib.hid hpv
                have HDS := Lib.hid hdS
                clear hE hpv hdS
                cases pv with
                | true =>
                  have hf0 := pB_free HPV.out.symm
                  have hr1 := runW_put (lim := lim) HDS.out HPV.out.symm
                  rw [← hrn.out.1, show (lim : Int) + 1 - ((lim + 1 - l : Nat) : Int) = (l : Int) by omega] at hr1
                  have hx : nth (seqL ws R lim) d = (l : Int) := by have := drop_nth (k := 0) hr1; simpa [nth] using this
                  obtain ⟨HP1, ⟨u0, HP2⟩, HP3⟩ := hGd.out.put HN.out.symm hdl hx (by omega) (by omega) (by have := HBW.out.size; simp at this; omega)
                  rw [← HY.out] at HP1 HP2 HP3
                  have HP := Lib.hid HP1
                  have hnx : Hid ((seqL ws R lim).drop (d + 1) = runW (srt ws) R lim (lim + 1 - l) (d + 1) (f - 1) ∧ (d + 1 < n → cC (srt ws) R (lim + 1 - l) (d + 1) (f - 1) < never)) := Lib.hid ⟨by rw [← List.drop_drop, hr1]; rfl, fun _ => pB_next HPV.out.symm⟩
                  clear hr1 hx HP1
                  go_wp2
                  go_roundw
                  case rel => exact ⟨l, f - 1, d + 1, hl1, hl2, by omega, by omega, rfl, by go_num, by go_num, HP, hnx⟩
                  case measure => simp [intOf]; omega
                | false =>
                  obtain ⟨k, hk1, hk2⟩ := pB_skip HS.out (by omega) HDS.out (by rw [hsl.out]; exact hfd) hrn.out.2 HPV.out.symm
                  have hkl : lim + 1 - (l + 1) = k := by omega
                  have hsk := runW_skip (lim := lim) HDS.out (by rw [← hk1]; exact HPV.out.symm)
                  rw [← hk1, ← hrn.out.1, hsl.out] at hsk
                  have hfR : f * R ≤ 1200 := by
                    have := Nat.mul_le_mul (show f ≤ 20 by omega) hR
                    omega
                  have hI : (f : Int) * (R : Int) = ((f * R : Nat) : Int) := by rw [Int.natCast_mul]
                  have hI0 : 0 ≤ (f : Int) * (R : Int) ∧ (f : Int) * (R : Int) ≤ 1200 := by rw [hI]; omega
                  have hcl : cC (srt ws) R k d (min (f * R) (n - d)) < never := by
                    have := cC_clip (S := srt ws) (show 1 ≤ R by omega) k d (f * R) (by have := HDS.out; omega)
                    rw [hsl.out] at this
                    rw [this]; exact hk2
                  have HI := Lib.hid hI
                  have hnx : Hid ((seqL ws R lim).drop d = runW (srt ws) R lim (lim + 1 - (l + 1)) d (min (f * R) (n - d)) ∧ cC (srt ws) R (lim + 1 - (l + 1)) d (min (f * R) (n - d)) < never) := Lib.hid (by rw [hkl]; exact ⟨hsk, hcl⟩)
                  clear hsk hcl hk1 hk2 hkl hI hfR
                  by_cases hm : (f : Int) * (R : Int) ≤ (n : Int) - (d : Int)
                  · have hme : min (f * R) (n - d) = f * R := by have := HI.out; omega
                    rw [hme] at hnx
                    go_wp2
                    go_roundw
                    case rel => exact ⟨l + 1, f * R, by omega, by omega, by have := HI.out; omega, by go_num, by rw [← HI.out], by first | rfl | trivial, hnx⟩
                    case measure => simp [intOf]; omega
                  · have hme : min (f * R) (n - d) = n - d := by have := HI.out; omega
                    rw [hme] at hnx
                    have hm2 : (n : Int) - (d : Int) < (f : Int) * (R : Int) := by omega
                    have HND : Hid ((n : Int) - (d : Int) = ((n - d : Nat) : Int)) := Lib.hid (by omega)
                    go_wp2
                    go_roundw
                    case rel => exact ⟨l + 1, n - d, by omega, by omega, Nat.le_refl _, by go_num, by rw [← HND.out], by first | rfl | trivial, hnx⟩
                    case measure => simp [intOf]; omega
            · have : n = d := by omega
              subst this
              have HF1 := Lib.hid hGd.out.1.1
              have HF2 := Lib.hid hGd.out.2.2.2
              go_wp2
              go_ret2
              exact ⟨_, rfl, by rw [HLL.out]; exact (HF1.out.base (by have := HBW.out.size; simp at this; omega)).iv, HF2.out⟩
      · have hmin : min R n = n := by omega
        have hE := (HT.out.2.2 1 n n (by unfold DoneAt; omega) (Nat.le_refl _) (by omega) (by rw [hsl.out]; exact Nat.le_refl _) (by omega)).1
        rw [show lim + 1 - 1 = lim by omega, hsl.out, Nat.sub_self] at hE
        have hEs : tE (srt ws) R lim 0 n = hs := by rw [← HHS.out, hasL, ← HN.out, hmin]; rfl
        rw [hEs, show 1 * 1323 + n * 63 + n * 3 = 1323 + n * 63 + n * 3 by omega] at hE
        have y0 := HROW.out.cell hE
        have hfl : n ≤ n := by omega
        have hn21 : (n : Int) < 21 := by omega
        have hf21 : (n : Int) < 21 := by omega
        have hseq : Hid ((seqL ws R lim).drop 0 = runW (srt ws) R lim lim 0 n) := Lib.hid (by rw [List.drop_zero, seqL, ← HN.out, hmin])
        have hhas : Hid (hs = true → cC (srt ws) R lim 0 n < never) := Lib.hid fun h => by rw [h] at hEs; simpa [tE] using hEs
        clear hE hEs hmin
        cases hs with
        | false =>
          go_wp2_with (refine wpList_store_row rfl 75 _ _ rfl w3.heap.size xs.toArray rfl rfl 75 cz (heap_alloc_last w3 _) HSZ.out HOL.out HON.out ?_; rw [World.setRow_alloc_new])
          go_ret2
          exact ⟨_, rfl, by rw [HLL.out]; exact OwnI.nil _ _ _, HBW.out⟩
        | true =>
          go_wp2_with (first
            | (refine wpList_store_row rfl 75 _ _ rfl w3.heap.size xs.toArray rfl rfl 75 cz (heap_alloc_last w3 _) HSZ.out HOL.out HON.out ?_; rw [World.setRow_alloc_new])
            | (refine wpList_make_full _ rfl _ _ 23 rfl (w3.alloc (.cells xs.toArray 75)).heap.size 3 i0 (.int .i64 0) 1 Try.underlying23 hi hz0 hz1 .i64 .i64 _ _ n rfl rfl rfl rfl (by rw [hz2]; omega) (by unfold maxLen; omega) (Nat.le_refl _) ?_; intro w5 hown5 hgrow5))
          have hg5 : (w3.alloc (.cells xs.toArray 75)).heap.size = w3.heap.size + 1 := by simp
          rw [hg5] at hown5
          have hb5 : Below (w3.heap.size + 1) (w3.alloc (.cells xs.toArray 75)) w5 := by rw [← hg5]; exact (Below.refl _ _).grown hgrow5 (Nat.le_refl _) (fun k h => by cases h)
          have hG0 : Hid (GoodP w w5 W.heap.size w1.heap.size w3.heap.size (w3.heap.size + 1) n (.slice oa n oc) ws xs (outT ws (seqL ws R lim) 0)) := Lib.hid (by
            have hb5' : Below (w3.alloc (.cells xs.toArray 75)).heap.size (w3.alloc (.cells xs.toArray 75)) w5 := by rw [hg5]; exact hb5
            refine ⟨⟨?_, fun k hk => Nat.lt_succ_of_le (Nat.le_of_eq (by simpa [Value.ownBlock] using hk.symm))⟩, HROW.out.later hb5', ((HOO.out.later HB14.out).later hb5'), HBW.out.trans (hb5.mono (by omega))⟩
            have hz := Own.zeros (w := w3.alloc (.cells xs.toArray 75)) (B := w3.heap.size + 1) (n := n) (w1 := w5) (by rw [hg5]; exact hown5)
            rw [hg5] at hz
            rw [outT, ← HN.out]
            exact hz)
          have hh0 := hhas.out (by trivial)
          have hG1 := Lib.hid (And.intro hseq.out hh0)
          clear hown5 hgrow5 hb5 hg5 hh0 y0
          go_loopw [14, 15, 75] (fun lv fr i wr => ∃ l f d : Nat, 1 ≤ l ∧ l ≤ lim + 1 ∧ d ≤ n ∧ f ≤ n - d ∧ lv = .int .i64 l ∧ fr = .int .i64 f ∧ i = .int .i64 d ∧ Hid (GoodP w wr W.heap.size w1.heap.size w3.heap.size (w3.heap.size + 1) n (.slice oa n oc) ws xs (outT ws (seqL ws R lim) d)) ∧
            Hid ((seqL ws R lim).drop d = runW (srt ws) R lim (lim + 1 - l) d f ∧ (d < n → cC (srt ws) R (lim + 1 - l) d f < never))) (fun lv fr i wr => n - (intOf i).toNat)
          case atStart => exact ⟨1, n, 0, Nat.le_refl _, by omega, Nat.zero_le _, hfl, rfl, rfl, rfl, hG0, Lib.hid (by rw [show lim + 1 - 1 = lim by omega]; exact ⟨hG1.out.1, fun _ => hG1.out.2⟩)⟩
          case round =>
            obtain ⟨l, f, d, hl1', hl2, hdn, hfd, rfl, rfl, rfl, hGd, hrun⟩ := hrel
            by_cases hdl : d < n
            · obtain ⟨ws0, hws0⟩ : ∃ x, x = wr := ⟨_, rfl⟩
              subst hws0
              obtain ⟨g1, e1, p1⟩ := ord_at hGd.out.2.2.1.1 HN.out hdl
              subst e1
              have hyn : oI ws d < n := by rw [HN.out]; exact oI_lt (by rw [← HN.out]; exact hdl)
              have hrun' : Hid ((seqL ws R lim).drop d = runW (srt ws) R lim (lim + 1 - l) d f ∧ cC (srt ws) R (lim + 1 - l) d f < never) := Lib.hid ⟨hrun.out.1, hrun.out.2 hdl⟩
              obtain ⟨y, hy⟩ : ∃ y, y = oI ws d := ⟨_, rfl⟩
              rw [← hy] at p1 hyn
              have HY := Lib.hid hy
              have hnd : (0 : Int) ≤ (n : Int) - (d : Int) ∧ (n : Int) - (d : Int) < 21 := by omega
              clear hrun hy
              go_wp2
              go_loopw [14, 15] (fun lv fr wr => ∃ l f : Nat, 1 ≤ l ∧ l ≤ lim + 1 ∧ f ≤ n - d ∧ lv = .int .i64 l ∧ fr = .int .i64 f ∧ wr = ws0 ∧ Hid ((seqL ws R lim).drop d = runW (srt ws) R lim (lim + 1 - l) d f ∧ cC (srt ws) R (lim + 1 - l) d f < never)) (fun lv fr wr => lim + 1 - (intOf lv).toNat)
              case atStart => exact ⟨l, f, hl1', hl2, hfd, rfl, rfl, rfl, hrun'⟩
              case round =>
                obtain ⟨l, f, hl1, hl2, hfd, rfl, rfl, hwe, hrn⟩ := hrel
                obtain ⟨w9, hw9⟩ : ∃ x, x = ws0 := ⟨_, rfl⟩
                rw [hwe]
                clear hwe hw9
                have hdS : d < (srt ws).length := by rw [hsl.out]; exact hdl
                have hl3 : l ≤ lim := by
                  by_cases e : l ≤ lim
                  · exact e
                  · exfalso
                    have h1 := hrn.out.2
                    rw [show lim + 1 - l = 0 by omega, cC_zero hdS] at h1
                    unfold never at h1
                    omega
                have hE := (HT.out.2.2 l (n - d) f (by unfold DoneAt; omega) hl1 hl2 (by rw [hsl.out]; omega) (by omega)).2.2
                rw [hsl.out, show n - (n - d) = d by omega] at hE
                obtain ⟨pv, hpv⟩ : ∃ x, x = pB (srt ws) R (lim + 1 - l) d f := ⟨_, rfl⟩
                rw [← hpv] at hE
                have y1 := hGd.out.2.1.cell hE
                have hf21 : (f : Int) < 21 := by omega
                have hl8 : (l : Int) < 8 := by omega
                have HPV := Lib.hid hpv
                have HDS := Lib.hid hdS
                clear hE hpv hdS
                cases pv with
                | true =>
                  have hf0 := pB_free HPV.out.symm
                  have hr1 := runW_put (lim := lim) HDS.out HPV.out.symm
                  rw [← hrn.out.1, show (lim : Int) + 1 - ((lim + 1 - l : Nat) : Int) = (l : Int) by omega] at hr1
                  have hx : nth (seqL ws R lim) d = (l : Int) := by have := drop_nth (k := 0) hr1; simpa [nth] using this
                  obtain ⟨HP1, ⟨u0, HP2⟩, HP3⟩ := hGd.out.put HN.out.symm hdl hx (by omega) (by omega) (by have := HBW.out.size; simp at this; omega)
                  rw [← HY.out] at HP1 HP2 HP3
                  have HP := Lib.hid HP1
                  have hnx : Hid ((seqL ws R lim).drop (d + 1) = runW (srt ws) R lim (lim + 1 - l) (d + 1) (f - 1) ∧ (d + 1 < n → cC (srt ws) R (lim + 1 - l) (d + 1) (f - 1) < never)) := Lib.hid ⟨by rw [← List.drop_drop, hr1]; rfl, fun _ => pB_next HPV.out.symm⟩
                  clear hr1 hx HP1
                  go_wp2
                  go_roundw
                  case rel => exact ⟨l, f - 1, d + 1, hl1, hl2, by omega, by omega, rfl, by go_num, by go_num, HP, hnx⟩
                  case measure => simp [intOf]; omega
                | false =>
                  obtain ⟨k, hk1, hk2⟩ := pB_skip HS.out (by omega) HDS.out (by rw [hsl.out]; exact hfd) hrn.out.2 HPV.out.symm
                  have hkl : lim + 1 - (l + 1) = k := by omega
                  have hsk := runW_skip (lim := lim) HDS.out (by rw [← hk1]; exact HPV.out.symm)
                  rw [← hk1, ← hrn.out.1, hsl.out] at hsk
                  have hfR : f * R ≤ 1200 := by
                    have := Nat.mul_le_mul (show f ≤ 20 by omega) hR
                    omega
                  have hI : (f : Int) * (R : Int) = ((f * R : Nat) : Int) := by rw [Int.natCast_mul]
                  have hI0 : 0 ≤ (f : Int) * (R : Int) ∧ (f : Int) * (R : Int) ≤ 1200 := by rw [hI]; omega
                  have hcl : cC (srt ws) R k d (min (f * R) (n - d)) < never := by
                    have := cC_clip (S := srt ws) (show 1 ≤ R by omega) k d (f * R) (by have := HDS.out; omega)
                    rw [hsl.out] at this
                    rw [this]; exact hk2
                  have HI := Lib.hid hI
                  have hnx : Hid ((seqL ws R lim).drop d = runW (srt ws) R lim (lim + 1 - (l + 1)) d (min (f * R) (n - d)) ∧ cC (srt ws) R (lim + 1 - (l + 1)) d (min (f * R) (n - d)) < never) := Lib.hid (by rw [hkl]; exact ⟨hsk, hcl⟩)
                  clear hsk hcl hk1 hk2 hkl hI hfR
                  by_cases hm : (f : Int) * (R : Int) ≤ (n : Int) - (d : Int)
                  · have hme : min (f * R) (n - d) = f * R := by have := HI.out; omega
                    rw [hme] at hnx
                    go_wp2
                    go_roundw
                    case rel => exact ⟨l + 1, f * R, by omega, by omega, by have := HI.out; omega, by go_num, by rw [← HI.out], by first | rfl | trivial, hnx⟩
                    case measure => simp [intOf]; omega
                  · have hme : min (f * R) (n - d) = n - d := by have := HI.out; omega
                    rw [hme] at hnx
                    have hm2 : (n : Int) - (d : Int) < (f : Int) * (R : Int) := by omega
                    have HND : Hid ((n : Int) - (d : Int) = ((n - d : Nat) : Int)) := Lib.hid (by omega)
                    go_wp2
                    go_roundw
                    case rel => exact ⟨l + 1, n - d, by omega, by omega, Nat.le_refl _, by go_num, by rw [← HND.out], by first | rfl | trivial, hnx⟩
                    case measure => simp [intOf]; omega
            · have : n = d := by omega
              subst this
              have HF1 := Lib.hid hGd.out.1.1
              have HF2 := Lib.hid hGd.out.2.2.2
              go_wp2
              go_ret2
              exact ⟨_, rfl, by rw [HLL.out]; exact (HF1.out.base (by have := HBW.out.size; simp at this; omega)).iv, HF2.out⟩
end Go.Proofs.Ytgceaffcalkbgaa
