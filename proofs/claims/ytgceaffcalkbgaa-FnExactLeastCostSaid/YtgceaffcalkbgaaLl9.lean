/- Chapter 4: LeastLengths and LeastCost of the model. -/
import Derived.Test.YtgceaffcalkbgaaLl8
namespace Go.Proofs.Ytgceaffcalkbgaa
open Go.RowKit
set_option linter.unusedSimpArgs false
set_option linter.unusedVariables false

theorem cmLengths_any (v : Value) (ws : List Int) (R lim : Nat) (w : World) (hw : wtB ws = true) (hR2 : 2 ≤ R) (hR : R ≤ 60) (hl1 : 1 ≤ lim) (hlim : lim ≤ 6) (hr : Rd w v ws) :
    Calls Try.prog 60 #[v, .int .i64 (R : Int), .int .i64 (lim : Int)] w fun e w' => ∃ v', e = .returned (.tuple #[v', .bool (hasL ws R lim)]) ∧
      OwnI w' w.heap.size w'.heap.size v' (if hasL ws R lim then outT ws (seqL ws R lim) ws.length else []) ∧ Below w.heap.size w w' :=
  cmLengths_aux v ws R lim w _ _ (Lib.hid rfl) (Lib.hid rfl) hw hR2 hR hl1 hlim hr

/-- What is asked of the arguments; is there a code; its lengths. -/
def lkB (ws : List Int) (r l : Int) : Bool := wtB ws && (baB r && inB l 1 6)
def leB (ws : List Int) (r l : Int) : Bool := lkB ws r l && hasL ws r.toNat l.toNat
def leL (ws : List Int) (r l : Int) : List Int := if leB ws r l then outT ws (seqL ws r.toNat l.toNat) ws.length else []
theorem leB_no {ws : List Int} {r l : Int} (h : lkB ws r l = false) : leB ws r l = false ∧ leL ws r l = [] := by
  have : leB ws r l = false := by simp [leB, h]
  exact ⟨this, by simp [leL, this]⟩
theorem leL_no {ws : List Int} {r l : Int} (h : leB ws r l = false) : leL ws r l = [] := by simp [leL, h]
theorem leL_yes {ws : List Int} {r l : Int} (h : leB ws r l = true) : leL ws r l = outT ws (seqL ws r.toNat l.toNat) ws.length := by simp [leL, h]
theorem leL_len (ws : List Int) (r l : Int) : (leL ws r l).length ≤ ws.length := by
  unfold leL
  split
  · rw [outT_len]; exact Nat.le_refl _
  · simp
theorem lk_parts {ws : List Int} {r l : Int} (h : lkB ws r l = true) : wtB ws = true ∧ (2 ≤ r ∧ r ≤ 60) ∧ 1 ≤ l ∧ l ≤ 6 := by
  simp only [lkB, Bool.and_eq_true, baB] at h
  exact ⟨h.1, inB_iff.1 h.2.1, inB_iff.1 h.2.2⟩
theorem outT_rng {ws q : List Int} (hq : ∀ t, t < ws.length → 1 ≤ nth q t ∧ nth q t ≤ 6) (t : Nat) (ht : t ≤ ws.length) : ∀ s, s < t → 1 ≤ nth (outT ws q t) (oI ws s) ∧ nth (outT ws q t) (oI ws s) ≤ 6 := by
  induction t with
  | zero => intro s hs; omega
  | succ t ih =>
    intro s hs
    have hl := oI_lt (ws := ws) (t := t) (by omega)
    rw [outT]
    unfold nth
    rw [List.getElem?_set]
    by_cases e : oI ws t = oI ws s
    · rw [if_pos e, if_pos (by rw [outT_len]; exact hl)]
      exact hq t (by omega)
    · rw [if_neg e]
      have : s < t := by
        rcases Nat.lt_or_eq_of_le (Nat.le_of_lt_succ hs) with h | h
        · exact h
        · exact absurd (by rw [h]) e
      exact ih (by omega) s this
theorem oI_onto {ws : List Int} {j : Nat} (h : j < ws.length) : ∃ s, s < ws.length ∧ oI ws s = j := by
  have hm : j ∈ oL ws := ordTo_mem.2 h
  obtain ⟨s, hs, he⟩ := List.mem_iff_getElem.1 hm
  rw [oL_len] at hs
  refine ⟨s, hs, ?_⟩
  unfold oI
  rw [List.getD_eq_getElem?_getD, List.getElem?_eq_getElem (by rw [oL_len]; exact hs), he]
  rfl
theorem seq_rng {ws : List Int} {R lim : Nat} (hw : wtB ws = true) (hR : 1 ≤ R) (hl : lim ≤ 6) (hh : hasL ws R lim = true) : (seqL ws R lim).length = ws.length ∧ ∀ t, t < ws.length → 1 ≤ nth (seqL ws R lim) t ∧ nth (seqL ws R lim) t ≤ 6 := by
  have h1 := runW_len (lim := lim) (srt_sm hw) hR _ lim 0 (min R ws.length) rfl hl (Nat.le_refl _) (Nat.zero_le _) (by rw [srt_len]; omega) (by simpa [hasL] using hh)
  rw [srt_len, Nat.sub_zero] at h1
  refine ⟨h1.1, fun t ht => ?_⟩
  have h2 : nth (seqL ws R lim) t = (seqL ws R lim)[t]'(by rw [show (seqL ws R lim).length = ws.length from h1.1]; exact ht) := by simp [nth, show t < (seqL ws R lim).length from by rw [show (seqL ws R lim).length = ws.length from h1.1]; exact ht]
  rw [h2]
  have := h1.2 _ (List.getElem_mem (l := seqL ws R lim) (by rw [show (seqL ws R lim).length = ws.length from h1.1]; exact ht))
  omega
theorem leL_co {ws : List Int} {r l : Int} (h : leB ws r l = true) : coB ws (leL ws r l) = true := by
  have h' := h
  simp only [leB, Bool.and_eq_true] at h'
  obtain ⟨hk, hh⟩ := h'
  obtain ⟨hw, ⟨r1, r2⟩, l1, l2⟩ := lk_parts hk
  have h2 := (seq_rng hw (by omega) (by omega) hh).2
  have h20 := wtB_len hw
  rw [leL_yes h]
  have hlg : lgB (outT ws (seqL ws r.toNat l.toNat) ws.length) = true := by
    unfold lgB
    rw [outT_len, decide_eq_true h20.1, decide_eq_true h20.2, Bool.true_and, Bool.true_and]
    refine allIn_true _ _ _ fun k hk => ?_
    rw [outT_len] at hk
    obtain ⟨s, hs, rfl⟩ := oI_onto hk
    have := outT_rng h2 ws.length (Nat.le_refl _) s hs
    exact inB_yes this.1 this.2
  simp [coB, hw, hlg, outT_len]

theorem cmAsked_any (v : Value) (ws : List Int) (r l : Int) (w : World) (hr : Rd w v ws) :
    Calls Try.prog 59 #[v, .int .i64 r, .int .i64 l] w fun e w' => e = .returned (.bool (lkB ws r l)) ∧ w = w' := by
  have HR := Lib.hid hr
  obtain ⟨a, c, rfl⟩ := hr.len
  have HB : Hid (lkB ws r l = (wtB ws && (baB r && inB l 1 6))) := Lib.hid rfl
  rw [HB.out]
  clear hr
  cases h1 : wtB ws <;> cases h2 : baB r <;> cases h3 : inB l 1 6
  all_goals
    go_enter Try.func59, Try.ntmps59
    go_wp2_with (first
      | (go_at_call 66; refine (cmWeights_any _ ws _ HR.out).mono ?_; rintro e w' ⟨rfl, rfl⟩; rw [h1])
      | (go_at_call 70; refine (cmBase_any _ _).mono ?_; rintro e w' ⟨rfl, rfl⟩; rw [h2])
      | (go_at_call 69; refine (l1In_any _ _ _ _).mono ?_; rintro e w' ⟨rfl, rfl⟩; rw [h3]))
    go_ret
    exact ⟨rfl, rfl⟩

theorem specLeast_any (v : Value) (ws : List Int) (r l : Int) (w : World) (hr : Rd w v ws) :
    Calls Try.prog 16 #[v, .int .i64 r, .int .i64 l] w fun e w' => ∃ v', e = .returned (.tuple #[v', .bool (leB ws r l)]) ∧ OwnI w' w.heap.size w'.heap.size v' (leL ws r l) ∧ Below w.heap.size w w' := by
  have HR := Lib.hid hr
  obtain ⟨a, c, rfl⟩ := hr.len
  clear hr
  cases hk : lkB ws r l with
  | false =>
    have HN := Lib.hid (leB_no hk)
    rw [HN.out.1, HN.out.2]
    go_enter Try.func16, Try.ntmps16
    go_wp2_with (go_at_call 59; refine (cmAsked_any _ ws _ _ _ HR.out).mono ?_; rintro e w' ⟨rfl, rfl⟩; rw [hk])
    go_ret2
    exact ⟨_, rfl, OwnI.nil _ _ _, Below.refl _ _⟩
  | true =>
    obtain ⟨hw, ⟨r1, r2⟩, l1, l2⟩ := lk_parts hk
    obtain ⟨R, rfl⟩ := Int.eq_ofNat_of_zero_le (show 0 ≤ r by omega)
    obtain ⟨L, rfl⟩ := Int.eq_ofNat_of_zero_le (show 0 ≤ l by omega)
    have HN : Hid (leB ws (R : Int) (L : Int) = hasL ws R L ∧ leL ws (R : Int) (L : Int) = if hasL ws R L then outT ws (seqL ws R L) ws.length else []) := Lib.hid (by
      have : leB ws (R : Int) (L : Int) = hasL ws R L := by simp [leB, hk]
      exact ⟨this, by rw [leL, this]; simp⟩)
    have HC := Lib.hid (cmLengths_any _ ws R L w hw (by omega) (by omega) (by omega) (by omega) HR.out)
    rw [HN.out.1, HN.out.2]
    obtain ⟨bb, hbb⟩ : ∃ bb, bb = hasL ws R L := ⟨_, rfl⟩
    obtain ⟨LL, hLL⟩ : ∃ LL, LL = if hasL ws R L then outT ws (seqL ws R L) ws.length else [] := ⟨_, rfl⟩
    rw [← hLL] at HC ⊢
    rw [← hbb] at HC ⊢
    clear hbb hLL hw r1 r2 l1 l2
    go_enter Try.func16, Try.ntmps16
    go_wp2_with (first
      | (go_at_call 59; refine (cmAsked_any _ ws _ _ _ HR.out).mono ?_; rintro e w' ⟨rfl, rfl⟩; rw [hk])
      | (go_at_call 60; refine HC.out.mono ?_; rintro e w2 ⟨v2, rfl, ho2, hb2⟩))
    go_ret2
    exact ⟨_, rfl, ho2, hb2⟩

theorem specLeastCost_any (v : Value) (ws : List Int) (r l : Int) (w : World) (hr : Rd w v ws) :
    Calls Try.prog 18 #[v, .int .i64 r, .int .i64 l] w fun e w' => e = .returned (.tuple #[.int .i64 (okI (leB ws r l) (costL ws (leL ws r l))), .bool (leB ws r l)]) ∧ Below w.heap.size w w' := by
  have HR := Lib.hid hr
  obtain ⟨a, c, rfl⟩ := hr.len
  clear hr
  cases hk : lkB ws r l with
  | false =>
    have HN := Lib.hid (leB_no hk)
    rw [HN.out.1]
    go_enter Try.func18, Try.ntmps18
    go_wp2_with (go_at_call 59; refine (cmAsked_any _ ws _ _ _ HR.out).mono ?_; rintro e w' ⟨rfl, rfl⟩; rw [hk])
    go_ret2
    exact ⟨by rw [okI_no rfl]; rfl, Below.refl _ _⟩
  | true =>
    obtain ⟨hw, ⟨r1, r2⟩, l1, l2⟩ := lk_parts hk
    obtain ⟨R, rfl⟩ := Int.eq_ofNat_of_zero_le (show 0 ≤ r by omega)
    obtain ⟨L, rfl⟩ := Int.eq_ofNat_of_zero_le (show 0 ≤ l by omega)
    have hle : leB ws (R : Int) (L : Int) = hasL ws R L := by simp [leB, hk]
    have hlL : leL ws (R : Int) (L : Int) = if hasL ws R L then outT ws (seqL ws R L) ws.length else [] := by rw [leL, hle]; simp
    have HC := Lib.hid (cmLengths_any _ ws R L w hw (by omega) (by omega) (by omega) (by omega) HR.out)
    rw [← hlL] at HC
    rw [← hle] at HC
    clear hw r1 r2 l1 l2 hlL
    cases hb : leB ws (R : Int) (L : Int) with
    | false =>
      rw [hb] at HC
      clear hle
      go_enter Try.func18, Try.ntmps18
      go_wp2_with (first
        | (go_at_call 59; refine (cmAsked_any _ ws _ _ _ HR.out).mono ?_; rintro e w' ⟨rfl, rfl⟩; rw [hk])
        | (go_at_call 60; refine HC.out.mono ?_; rintro e w2 ⟨v2, rfl, ho2, hb2⟩))
      go_ret2
      exact ⟨by rw [okI_no rfl]; rfl, hb2⟩
    | true =>
      have hco := Lib.hid (leL_co hb)
      rw [hb] at HC
      clear hle
      go_enter Try.func18, Try.ntmps18
      go_wp2_with (first
        | (go_at_call 59; refine (cmAsked_any _ ws _ _ _ HR.out).mono ?_; rintro e w' ⟨rfl, rfl⟩; rw [hk])
        | (go_at_call 60; refine HC.out.mono ?_; rintro e w2 ⟨v2, rfl, ho2, hb2⟩)
        | (go_at_call 61; refine (cmCost_any _ _ ws _ _ (HR.out.later hb2) ho2.rd hco.out).mono ?_; rintro e w3 ⟨rfl, rfl⟩))
      go_ret2
      exact ⟨by rw [okI_yes rfl]; rfl, hb2⟩
end Go.Proofs.Ytgceaffcalkbgaa
