/- Chapter 4: the lengths of a code of least cost: the model. -/
import Derived.Test.YtgceaffcalkbgaaLl7
namespace Go.Proofs.Ytgceaffcalkbgaa
open Go.RowKit
set_option linter.unusedSimpArgs false
set_option linter.unusedVariables false

/-- What the model's last loops hold. -/
def Hold (w0 w : World) (b0 B C D g n t : Nat) (v1 : Value) (ws S : List Int) (R lim : Nat) (A : TbA) (out : List Int) : Prop :=
  OwnI w C D (.slice (some ⟨g, 0, none⟩) n n) out ∧ Tb w t S R lim B C A ∧ OwnI w b0 B v1 (ints (oL ws)) ∧ Below b0 w0 w
theorem Hold.kp {w0 w w' : World} {b0 B C D g n t : Nat} {v1 : Value} {ws S : List Int} {R lim : Nat} {A : TbA} {out : List Int} (h : Hold w0 w b0 B C D g n t v1 ws S R lim A out) (hb : b0 ≤ B ∧ B ≤ C) (ht : Tb w' t S R lim B C A) (hk : Kp B C w w') :
    Hold w0 w' b0 B C D g n t v1 ws S R lim A out :=
  have hw := h.1.1.lt g rfl
  ⟨h.1.kept hk (.inr (Nat.le_refl _)), ht, h.2.2.1.kept hk (.inl (Nat.le_refl _)), h.2.2.2.trans ((show Below b0 w w' from ⟨hk.os, hk.tape, hk.output, hk.size, fun k hk' => hk.block k (by omega) (.inl (by omega))⟩))⟩
theorem Hold.put {w0 w : World} {b0 B C D g n t d : Nat} {v1 : Value} {ws S q : List Int} {R lim : Nat} {A : TbA} {x : Int} (h : Hold w0 w b0 B C D g n t v1 ws S R lim A (outT ws q d)) (hn : ws.length = n) (hd : d < n) (hx : nth q d = x) (hbC : b0 ≤ C) (hBC : B ≤ C) :
    Hold w0 (w.setCell ⟨g, oI ws d, none⟩ (.int .i64 x)) b0 B C D g n t v1 ws S R lim A (outT ws q (d + 1)) ∧ (∃ u, w.cell? ⟨g, oI ws d, none⟩ = some u) ∧ w.frozen? ⟨g, oI ws d, none⟩ = false := by
  obtain ⟨h1, h2, h3, h4⟩ := h
  have hl : (outT ws q d).length = n := by rw [outT_len, hn]
  have hl' : (outT ws q (d + 1)).length = n := by rw [outT_len, hn]
  have ho : oI ws d < n := by have := oI_lt (ws := ws) (t := d) (by omega); omega
  have o1 : w.ownsRow C 3 1 (.slice (some ⟨g, 0, none⟩) n n) n ((outT ws q d).map (Value.int .i64)) := by have := h1.1; unfold Own at this; rw [hl] at this; exact this
  have hst := World.ownsRow.stored (g := g) (n := n) (cap := n) o1 (oI ws d) (.int .i64 x)
  have e : ((outT ws q d).map (Value.int .i64)).set (oI ws d) (.int .i64 x) = (outT ws q (d + 1)).map (Value.int .i64) := by
    rw [outT, List.map_set, hx]
  rw [e] at hst
  have hg := h1.1.lt g rfl
  have hgD := h1.2 g rfl
  have hk : Kp C D w (w.setCell ⟨g, oI ws d, none⟩ (.int .i64 x)) := (Kp.refl _ _ _).setCell ⟨hg.1, hgD⟩ _
  refine ⟨⟨⟨by unfold Own; rw [hl']; exact hst.1, h1.2⟩, h2.kp hk (Nat.le_refl _), h3.kept hk (.inl hBC), h4.setCell (p := ⟨g, oI ws d, none⟩) (by show b0 ≤ g; omega) _⟩, ?_, o1.frozenAt _⟩
  rw [o1.cellAt _ (by omega)]
  exact ⟨_, List.getElem?_eq_getElem (by simp only [List.length_map]; rw [hl]; exact ho)⟩
theorem ord_at {w : World} {b0 n c1 d : Nat} {a1 : Option Addr} {ws : List Int} (h : Own w b0 (.slice a1 n c1) (ints (oL ws))) (hn : n = ws.length) (hd : d < n) :
    ∃ g1, a1 = some ⟨g1, 0, none⟩ ∧ w.cell? ⟨g1, d, none⟩ = some (.int .i64 (oI ws d)) := by
  have hl : (ints (oL ws)).length = n := by rw [ints_len, oL_len, hn]
  have h4 : w.ownsRow b0 3 1 (.slice a1 n c1) n ((ints (oL ws)).map (Value.int .i64)) := by unfold Own at h; rw [hl] at h; exact h
  have h5 := h4
  rcases h4.2 with ⟨-, hz⟩ | ⟨g1, cap, _, hv, -⟩
  · omega
  · simp only [Value.slice.injEq] at hv
    obtain ⟨rfl, hn1, rfl⟩ := hv
    refine ⟨g1, rfl, ?_⟩
    rw [h5.cellAt d (by omega), List.getElem?_map, ints_at (by omega)]
    rfl

set_option maxRecDepth 100000 in
set_option maxHeartbeats 4000000 in
theorem cmLengths_aux (v : Value) (ws : List Int) (R lim : Nat) (w : World) (hs : Bool) (LL : List Int) (HHS : Hid (hasL ws R lim = hs)) (HLL : Hid (LL = if hs then outT ws (seqL ws R lim) ws.length else [])) (hw : wtB ws = true) (hR2 : 2 ≤ R) (hR : R ≤ 60) (hl1 : 1 ≤ lim) (hlim : lim ≤ 6) (hr : Rd w v ws) :
    Calls Try.prog 60 #[v, .int .i64 (R : Int), .int .i64 (lim : Int)] w fun e w' => ∃ v', e = .returned (.tuple #[v', .bool hs]) ∧
      OwnI w' w.heap.size w'.heap.size v' LL ∧ Below w.heap.size w w' := by
  obtain ⟨i0, hi, hz0, hz1, hz2⟩ := info_parts Try_info_int
  obtain ⟨a0, c0, rfl⟩ := hr.len
  have h20 := wtB_len hw
  have HS := Lib.hid (srt_sm hw)
  obtain ⟨n, hn⟩ : ∃ n, n = ws.length := ⟨_, rfl⟩
  have H1 := Lib.hid hr
  have HN := Lib.hid hn
  have hsl : Hid ((srt ws).length = n) := Lib.hid (by rw [srt_len, hn])
  obtain ⟨q, hq⟩ : ∃ q, q = seqL ws R lim := ⟨_, rfl⟩
  obtain ⟨b0, hb0⟩ : ∃ x, x = w.heap.size := ⟨_, rfl⟩
  rw [← hn] at h20 HLL ⊢
  rw [← hq] at HLL
  rw [← hb0]
  have HQ := Lib.hid hq
  have HB0 := Lib.hid hb0
  clear hr hn hw hq hb0
  go_enter Try.func60, Try.ntmps60
  go_wp2_with fail
  refine (cmOrder_any _ ws _ (by rw [HN.out]; exact H1.out) (by rw [← HN.out]; omega)).mono ?_
  rintro e w1 ⟨v1, rfl, ho1, hb1⟩
  have ho1' : Own w1 w.heap.size v1 (ints (oL ws)) := ho1
  clear ho1
  have hol : (ints (oL ws)).length = n := by rw [ints_len, oL_len, HN.out]
  obtain ⟨a1, c1, hv1⟩ := ho1'.rd.len
  rw [hol] at hv1
  subst hv1
  have HO := Lib.hid ho1'.iv
  have hs1 := hb1.size
  clear ho1'
  go_wp2
  go_loopw [9, 23] (fun u i wr => ∃ k : Nat, k ≤ n ∧ i = .int .i64 k ∧ Hid (Own wr w1.heap.size u ((srt ws).take k) ∧ Below w1.heap.size w1 wr)) (fun u i wr => n - (intOf i).toNat)
  case atStart => exact ⟨0, Nat.zero_le _, rfl, Lib.hid ⟨Own.nil _ _, Below.refl _ _⟩⟩
  case round =>
    obtain ⟨k, hk, rfl, hh⟩ := hrel
    by_cases hlt : k < n
    · obtain ⟨hown, hbl⟩ := hh.out
      obtain ⟨g1, e1, p1⟩ := ord_at (HO.out.later hbl).1 HN.out hlt
      subst e1
      obtain ⟨y, hy⟩ : ∃ y, y = oI ws k := ⟨_, rfl⟩
      have hyn : y < n := by rw [hy, HN.out]; exact oI_lt (by rw [← HN.out]; exact hlt)
      obtain ⟨g2, o2, e2, hg2, p2⟩ := (H1.out.below (hb1.trans (hbl.mono hs1)) (Nat.le_refl _)).at_ rfl y (by rw [← HN.out]; exact hyn)
      subst e2
      rw [← hy] at p1
      obtain ⟨z, hz⟩ : ∃ z, z = ws[y]?.getD 0 := ⟨_, rfl⟩
      rw [← hz] at p2
      have HS1 : Hid (∀ (W : World) (v : Value), Own W w1.heap.size v ((srt ws).take k ++ [z]) → Own W w1.heap.size v ((srt ws).take (k + 1))) := Lib.hid fun W v h => by
        have hks : k < (srt ws).length := by rw [hsl.out]; exact hlt
        rw [List.take_succ_eq_append_getElem hks]
        have : (srt ws)[k] = z := by
          have e3 := srt_at (ws := ws) (t := k) (by rw [← HN.out]; exact hlt)
          rw [← hy] at e3
          rw [hz]
          simpa [nth, hks] using e3
        rw [this]; exact h
      have hlen : ((srt ws).take k).length ≤ 1099511627776 := by rw [List.length_take, hsl.out]; omega
      have hszw := hbl.size
      have HLN := Lib.hid hlen
      clear hh hy hz hlen
      go_wp2_with (at_builtin; refine append_int rfl _ _ rfl w1.heap.size _ ((srt ws).take k) z wr.heap.size rfl rfl (hown.alloc _) (new_cell _ _ _) HLN.out (by simp; omega) ?_; intro v' w2 hown2 hgrow2)
      have hb2 := (hbl.alloc hszw _).grown hgrow2 (by simp; omega) (fun j hj => (hown.lt j hj).1)
      have HF := Lib.hid (And.intro (HS1.out _ _ hown2) hb2)
      clear hown2 hgrow2 hown
      go_roundw
      case rel => exact ⟨k + 1, by omega, by go_num, HF⟩
      case measure => simp [intOf]; omega
    · have : n = k := by omega
      subst this
      obtain ⟨hown, hbl⟩ := hh.out
      rw [← hsl.out, List.take_length] at hown
      have hOw := Lib.hid hown
      obtain ⟨a2, c2, hv2⟩ := hown.rd.len
      rw [hsl.out] at hv2
      subst hv2
      clear hown hh
      go_wp2_with fail
      refine (cmNew_any _ (srt ws) R lim _ HS.out hR hlim hOw.out.rd).mono ?_
      rintro e w3 ⟨t, A, rfl, hT, hb3⟩
      have hb0 := HB0.out
      obtain ⟨B, hB⟩ : ∃ x, x = wr.heap.size := ⟨_, rfl⟩
      obtain ⟨C, hC⟩ : ∃ x, x = w3.heap.size := ⟨_, rfl⟩
      obtain ⟨f0, hf0⟩ : ∃ f0 : Nat, f0 = min R n := ⟨_, rfl⟩
      have hs2 := hbl.size
      have hs3 := hb3.size
      have HH : Hid (∀ w4 : World, w4.ownsRow w3.heap.size 3 1 (.slice (some ⟨w3.heap.size, 0, none⟩) n n) n (madeCells (Value.int .i64 0).cells (n * 1)).toList → w3.grownBy w4 none →
          ∃ D, Hold w w4 b0 B C D w3.heap.size n t (.slice a1 n c1) ws (srt ws) R lim A (outT ws (seqL ws R lim) 0)) := Lib.hid fun w4 h1 h2 => by
        have b4 : Below w3.heap.size w3 w4 := (Below.refl _ _).grown h2 (Nat.le_refl _) (fun k h => by cases h)
        refine ⟨w4.heap.size, ?_, ?_, ?_, ?_⟩
        · rw [hC]
          have := Own.iv (Own.zeros h1)
          refine ⟨?_, fun k hk => this.2 k hk⟩
          rw [outT, ← HN.out]
          exact Own.zeros h1
        · rw [hB, hC]; exact hT.later b4
        · rw [hb0, hB]; exact ((HO.out.later hbl).later hb3).later b4 |>.wide (Nat.le_refl _) (by omega)
        · rw [hb0]; exact ((hb1.trans (hbl.mono hs1)).trans (hb3.mono (by omega))).trans (b4.mono (by omega))
      have hBB : b0 ≤ B ∧ B ≤ C := by omega
      have HC1 : Hid (∀ W, Tb W t (srt ws) R lim B C A → Calls Try.prog 96 #[.pointer (some ⟨t, 0, none⟩), .int .i64 1, .int .i64 0, .int .i64 (f0 : Int)] W fun e w' =>
          e = .returned (.int .i64 (cC (srt ws) R lim 0 f0)) ∧ Tb w' t (srt ws) R lim B C A ∧ Kp B C W w') := Lib.hid fun W hW => by
        have := cost_all (B := B) (C := C) (t := t) (A := A) HS.out (by omega) hR hlim lim (Nat.le_refl _) 0 f0 W (Nat.zero_le _) (by omega) hW
        rw [show lim + 1 - lim = 1 by omega] at this
        exact this
      have hfe : Hid (min (R : Int) (n : Int) = (f0 : Int)) := Lib.hid (by omega)
      have hhas : Hid (hasL ws R lim = decide (cC (srt ws) R lim 0 f0 < never)) := Lib.hid (by rw [hasL, ← HN.out, hf0])
      have hseq : Hid ((seqL ws R lim).drop 0 = runW (srt ws) R lim lim 0 f0) := Lib.hid (by rw [List.drop_zero, seqL, ← HN.out, hf0])
      have hcb := cC_le (R := R) HS.out hlim 0 f0 (Nat.zero_le _)
      have hfn : f0 ≤ n := by omega
      have hTd := Lib.hid hT
      have hq := HQ.out
      rw [← hq] at HH hseq
      have HCe := Lib.hid hC
      obtain ⟨cv, hcv⟩ : ∃ x, x = cC (srt ws) R lim 0 f0 := ⟨_, rfl⟩
      rw [← hcv] at hhas hcb HC1
      have HCV := Lib.hid hcv
      unfold never at hcb
      clear hT hb0 hB hf0 hs2 hs3 hb3 hbl hs1 hb1 hq HO hOw hcv
      by_cases hv : cv = 1000000000
      · have hvt : ((cv : Int) == 1000000000) = true := by simpa using hv
        have HV := Lib.hid hv
        clear hv
        go_wp2_with (first
          | (refine wpList_make_full _ rfl _ _ 23 rfl w3.heap.size 3 i0 (.int .i64 0) 1 Try.underlying23 hi hz0 hz1 .i64 .i64 _ _ n rfl rfl rfl rfl (by rw [hz2]; omega) (by unfold maxLen; omega) (Nat.le_refl _) ?_; intro w4 hown4 hg4; obtain ⟨D, hH4⟩ := HH.out w4 hown4 hg4; clear hown4 hg4)
          | (go_at_call 95; refine (l1Least_any _ _ _).mono ?_; rintro e w5 ⟨rfl, rfl⟩; rw [hfe.out])
          | (go_at_call 96; refine (HC1.out _ hH4.2.1).mono ?_; rintro e w5 ⟨rfl, hT5, hk5⟩))
        have hno : Hid (hs = false) := Lib.hid (by rw [← HHS.out, hhas.out, HV.out]; decide)
        have hll : Hid (LL = []) := Lib.hid (by rw [HLL.out, hno.out]; rfl)
        have HF := Lib.hid (hH4.kp hBB hT5 hk5)
        clear hH4 hT5 hk5
        go_ret2
        exact ⟨_, by rw [hno.out]; rfl, by rw [hll.out]; exact OwnI.nil _ _ _, HF.out.2.2.2⟩
      · have hvb : ((cv : Int) == 1000000000) = false := by simpa using hv
        go_wp2_with (first
          | (refine wpList_make_full _ rfl _ _ 23 rfl w3.heap.size 3 i0 (.int .i64 0) 1 Try.underlying23 hi hz0 hz1 .i64 .i64 _ _ n rfl rfl rfl rfl (by rw [hz2]; omega) (by unfold maxLen; omega) (Nat.le_refl _) ?_; intro w4 hown4 hg4; obtain ⟨D, hH4⟩ := HH.out w4 hown4 hg4; clear hown4 hg4)
          | (go_at_call 95; refine (l1Least_any _ _ _).mono ?_; rintro e w5 ⟨rfl, rfl⟩; rw [hfe.out])
          | (go_at_call 96; refine (HC1.out _ hH4.2.1).mono ?_; rintro e w5 ⟨rfl, hT5, hk5⟩))
        have hyes : Hid (hs = true ∧ cC (srt ws) R lim 0 f0 < never) := Lib.hid (by
          have h1 := HCV.out
          have h2 : cv < never := by unfold never; omega
          rw [← h1]
          exact ⟨by rw [← HHS.out, hhas.out, decide_eq_true h2], h2⟩)
        have hll : Hid (LL = outT ws q n) := Lib.hid (by rw [HLL.out, hyes.out.1]; rfl)
        have HF := Lib.hid (hH4.kp hBB hT5 hk5)
        clear hH4 hT5 hk5 HH HCV HC1 hvb hv hfe hhas
        go_loopw [14, 15, 16] (fun lv dn fr wr => ∃ l d f : Nat, 1 ≤ l ∧ l ≤ lim + 1 ∧ d ≤ n ∧ f ≤ n - d ∧ lv = .int .i64 l ∧ dn = .int .i64 d ∧ fr = .int .i64 f ∧ Hid (Hold w wr b0 B C D w3.heap.size n t (.slice a1 n c1) ws (srt ws) R lim A (outT ws q d)) ∧
          Hid (q.drop d = runW (srt ws) R lim (lim + 1 - l) d f ∧ (d < n → cC (srt ws) R (lim + 1 - l) d f < never))) (fun lv dn fr wr => lim + 1 - (intOf lv).toNat)
        case atStart => exact ⟨1, 0, f0, Nat.le_refl _, by omega, Nat.zero_le _, by omega, rfl, rfl, rfl, HF, Lib.hid (by rw [show lim + 1 - 1 = lim by omega]; exact ⟨hseq.out, fun _ => hyes.out.2⟩)⟩
        case round =>
          obtain ⟨l, d, f, hl1', hl2, hdn, hfn', rfl, rfl, rfl, hH, hrun⟩ := hrel
          by_cases hdl : d < n
          · have hl3 : l ≤ lim := by
              by_cases e : l ≤ lim
              · exact e
              · exfalso
                have h1 := hrun.out.2 hdl
                rw [show lim + 1 - l = 0 by omega, cC_zero (by rw [hsl.out]; exact hdl)] at h1
                unfold never at h1
                omega
            obtain ⟨h, hhe⟩ : ∃ h, h = lim - l := ⟨_, rfl⟩
            have hsub : lim + 1 - l = h + 1 := by omega
            have hrun' : Hid (q.drop d = runW (srt ws) R lim (h + 1) d f ∧ cC (srt ws) R (h + 1) d f < never) := Lib.hid (by rw [← hsub]; exact ⟨hrun.out.1, hrun.out.2 hdl⟩)
            have hdS : Hid (d < (srt ws).length ∧ f ≤ (srt ws).length - d) := Lib.hid (by rw [hsl.out]; exact ⟨hdl, hfn'⟩)
            have HC2 : Hid (∀ W, Tb W t (srt ws) R lim B C A → Calls Try.prog 96 #[.pointer (some ⟨t, 0, none⟩), .int .i64 (l : Int), .int .i64 (d : Int), .int .i64 (f : Int)] W fun e w' =>
                e = .returned (.int .i64 (cC (srt ws) R (h + 1) d f)) ∧ Tb w' t (srt ws) R lim B C A ∧ Kp B C W w') := Lib.hid fun W hW => by
              have := cost_all (B := B) (C := C) (t := t) (A := A) HS.out (by omega) hR hlim (h + 1) (by omega) d f W (by rw [hsl.out]; omega) (by omega) hW
              rw [show lim + 1 - (h + 1) = l by omega] at this
              exact this
            have HW2 : Hid (∀ k W, k ≤ f → Tb W t (srt ws) R lim B C A → Calls Try.prog 97 #[.pointer (some ⟨t, 0, none⟩), .int .i64 (l : Int), .int .i64 (d : Int), .int .i64 (f : Int), .int .i64 (k : Int)] W fun e w' =>
                e = .returned (.int .i64 (wC (srt ws) R h d f k)) ∧ Tb w' t (srt ws) R lim B C A ∧ Kp B C W w') := Lib.hid fun k W hk hW => by
              have := with_any (B := B) (C := C) (t := t) (A := A) HS.out hR hlim (show h + 1 ≤ lim by omega) (cost_all HS.out (by omega) hR hlim h (by omega)) d f k W (by rw [hsl.out]; exact hdl) hk (by rw [hsl.out]; omega) (by rw [hsl.out]; omega) hW
              rw [show lim - h = l by omega] at this
              exact this
            have HAT : Hid (∃ t, t ≤ f ∧ wC (srt ws) R h d f t = cC (srt ws) R (h + 1) d f) := Lib.hid (by
              obtain ⟨t, h1, h2⟩ := minT_at (wC (srt ws) R h d f) f
              have h3 := cC_succ (R := R) (h := h) (f := f) hdS.out.1
              rw [Nat.min_eq_left hdS.out.2] at h3
              exact ⟨t, h1, by rw [h3, h2]⟩)
            have HLE : Hid (∀ t, t ≤ f → cC (srt ws) R (h + 1) d f ≤ wC (srt ws) R h d f t) := Lib.hid fun t ht => by
              have h3 := cC_succ (R := R) (h := h) (f := f) hdS.out.1
              rw [Nat.min_eq_left hdS.out.2] at h3
              rw [h3]
              exact minT_le _ _ _ ht
            obtain ⟨cq, hcq⟩ : ∃ x, x = cC (srt ws) R (h + 1) d f := ⟨_, rfl⟩
            rw [← hcq] at HC2 HAT HLE
            have HCQ := Lib.hid hcq
            have HHE := Lib.hid hhe
            have hh6 : h + 1 ≤ 6 := by omega
            clear hrun hhe hsub hcq
            go_wp2
            go_loopw [17] (fun tk wr => ∃ T : Nat, T ≤ f ∧ tk = .int .i64 T ∧ Hid (∀ t, T < t → t ≤ f → cq < wC (srt ws) R h d f t) ∧ Hid (Hold w wr b0 B C D w3.heap.size n t (.slice a1 n c1) ws (srt ws) R lim A (outT ws q d))) (fun tk wr => (intOf tk).toNat)
            case atStart => exact ⟨f, Nat.le_refl _, rfl, Lib.hid (fun t h1 h2 => by omega), hH⟩
            case round =>
              obtain ⟨T, hT, rfl, hab, hH2⟩ := hrel
              obtain ⟨wv, hwv⟩ : ∃ x, x = wC (srt ws) R h d f T := ⟨_, rfl⟩
              have HWT := HW2.out T
              rw [← hwv] at HWT
              have HWT := Lib.hid HWT
              have HWV := Lib.hid hwv
              clear hwv
              by_cases hgt : cq < wv
              · have hT0 : 0 < T := by
                  rcases Nat.eq_zero_or_pos T with h0 | h0
                  · exfalso
                    obtain ⟨t', h1, h2⟩ := HAT.out
                    by_cases e : t' = T
                    · rw [e, ← HWV.out] at h2; omega
                    · have := hab.out t' (by omega) h1
                      omega
                  · exact h0
                obtain ⟨T', rfl⟩ : ∃ T', T = T' + 1 := ⟨T - 1, by omega⟩
                have hab' : Hid (∀ t, T' < t → t ≤ f → cq < wC (srt ws) R h d f t) := Lib.hid fun t h1 h2 => by
                  by_cases e : t = T' + 1
                  · rw [e, ← HWV.out]; exact hgt
                  · exact hab.out t (by omega) h2
                go_wp2_with (first
                  | (go_at_call 97; refine (HWT.out _ hT hH2.out.2.1).mono ?_; rintro e w6 ⟨rfl, hT6, hk6⟩; have hH6 := Lib.hid (hH2.out.kp hBB hT6 hk6); clear hT6 hk6)
                  | (go_at_call 96; refine (HC2.out _ hH6.out.2.1).mono ?_; rintro e w7 ⟨rfl, hT7, hk7⟩; have hH7 := Lib.hid (hH6.out.kp hBB hT7 hk7); clear hT7 hk7))
                go_roundw
                case rel => exact ⟨T', by omega, by go_num, hab', hH7⟩
                case measure => simp [intOf]
              · have hch : Hid (Choice (srt ws) R h d f T) := Lib.hid ⟨hT, by
                  rw [← HCQ.out, ← HWV.out]
                  have := HLE.out T hT
                  rw [← HWV.out] at this
                  omega, fun t h1 h2 => by rw [← HCQ.out]; exact hab.out t h1 h2⟩
                have hnx := run_next (lim := lim) HS.out hh6 hdS.out.1 hdS.out.2 hrun'.out.2 hch.out hrun'.out.1
                rw [hsl.out] at hnx
                have hTd : d + T ≤ n := by omega
                have HNX := Lib.hid hnx
                clear hnx
                go_wp2_with (first
                  | (go_at_call 97; refine (HWT.out _ hT hH2.out.2.1).mono ?_; rintro e w6 ⟨rfl, hT6, hk6⟩; have hH6 := Lib.hid (hH2.out.kp hBB hT6 hk6); clear hT6 hk6)
                  | (go_at_call 96; refine (HC2.out _ hH6.out.2.1).mono ?_; rintro e w7 ⟨rfl, hT7, hk7⟩; have hH7 := Lib.hid (hH6.out.kp hBB hT7 hk7); clear hT7 hk7))
                have hlh : Hid ((lim : Int) - h = l) := Lib.hid (by have := HHE.out; omega)
                have hTf : (f - T) * R ≤ 2000 := by
                  have := Nat.mul_le_mul (show f - T ≤ 20 by omega) hR
                  omega
                have hI : ((f : Int) - (T : Int)) * (R : Int) = (((f - T) * R : Nat) : Int) := by
                  rw [Int.natCast_mul, Int.natCast_sub hT]
                have hI0 : 0 ≤ ((f : Int) - (T : Int)) * (R : Int) ∧ ((f : Int) - (T : Int)) * (R : Int) ≤ 2000 := by rw [hI]; omega
                obtain ⟨f', hf'⟩ : ∃ x, x = min ((f - T) * R) (n - (d + T)) := ⟨_, rfl⟩
                have hfl : f' ≤ n - (d + T) := by omega
                have hmin : Hid (min (((f : Int) - (T : Int)) * (R : Int)) ((n : Int) - ((d : Int) + (T : Int))) = (f' : Int)) := Lib.hid (by rw [hI]; omega)
                rw [← hf'] at HNX
                have hl4 : lim + 1 - (l + 1) = h := by have := HHE.out; omega
                have hnext : Hid (q.drop (d + T) = runW (srt ws) R lim (lim + 1 - (l + 1)) (d + T) f' ∧ (d + T < n → cC (srt ws) R (lim + 1 - (l + 1)) (d + T) f' < never)) := Lib.hid (by rw [hl4]; exact HNX.out.2)
                clear hI hf' hTf hl4
                go_loopw [18] (fun i wr => ∃ k : Nat, k ≤ T ∧ i = .int .i64 k ∧ Hid (Hold w wr b0 B C D w3.heap.size n t (.slice a1 n c1) ws (srt ws) R lim A (outT ws q (d + k)))) (fun i wr => T - (intOf i).toNat)
                case atStart => exact ⟨0, Nat.zero_le _, rfl, hH7⟩
                case round =>
                  obtain ⟨k, hkT, rfl, hH3⟩ := hrel
                  by_cases hkT' : k < T
                  · obtain ⟨g1, e1, p1⟩ := ord_at hH3.out.2.2.1.1 HN.out (show d + k < n by omega)
                    subst e1
                    obtain ⟨HP1, ⟨u0, HP2⟩, HP3⟩ := hH3.out.put HN.out.symm (show d + k < n by omega) (HNX.out.1 k hkT') (by omega) hBB.2
                    rw [hlh.out] at HP1
                    obtain ⟨y, hy⟩ : ∃ y, y = oI ws (d + k) := ⟨_, rfl⟩
                    have hyn : y < n := by rw [hy, HN.out]; exact oI_lt (by rw [← HN.out]; omega)
                    rw [← hy] at p1 HP1 HP2 HP3
                    have HP := Lib.hid HP1
                    have hdk : ((d : Int) + (k : Int)).toNat = d + k := by omega
                    have hdk1 : (d : Int) + (k : Int) < (n : Int) := by omega
                    have hdk0 : (0 : Int) ≤ (d : Int) + (k : Int) := by omega
                    clear hy HP1
                    go_wp2
                    go_roundw
                    case rel => exact ⟨k + 1, by omega, by go_num, HP⟩
                    case measure => simp [intOf]; omega
                  · have : T = k := by omega
                    subst this
                    go_wp2_with fail
                    refine (l1Least_any _ _ _).mono ?_
                    rintro e w9 ⟨rfl, rfl⟩
                    rw [hmin.out]
                    go_wp2
                    go_roundw
                    case rel => exact ⟨l + 1, d + T, f', by omega, by omega, by omega, hfl, by go_num, by go_num, rfl, hH3, hnext⟩
                    case measure => simp [intOf]; omega
          · have : n = d := by omega
            subst this
            have HF1 := Lib.hid hH.out.1
            have HF2 := Lib.hid hH.out.2.2.2
            go_wp2
            go_ret2
            exact ⟨_, by rw [hyes.out.1]; rfl, by rw [hll.out]; exact (HF1.out.1.base (by omega)).iv, HF2.out⟩
end Go.Proofs.Ytgceaffcalkbgaa
