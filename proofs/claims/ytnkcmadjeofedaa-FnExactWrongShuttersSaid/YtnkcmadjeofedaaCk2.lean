/- Chapter 5: the functions that answer with integers and bools alone. Written by a generator of this claim's author. -/
import Derived.Test.YtnkcmadjeofedaaCk1
namespace Go.Proofs.Ytnkcmadjeofedaa
open Go.RowKit
set_option linter.unusedSimpArgs false
set_option linter.unusedVariables false

theorem ret2 {a b : Int} {c d : Bool} (h : a = b) (h' : c = d) : Ending.returned (.tuple #[.int .i64 a, .bool c]) = .returned (.tuple #[.int .i64 b, .bool d]) := by rw [h, h']
theorem ret2b {a b : Bool} {c d : Bool} (h : a = b) (h' : c = d) : Ending.returned (.tuple #[.bool a, .bool c]) = .returned (.tuple #[.bool b, .bool d]) := by rw [h, h']
theorem ret3 {a b a' b' : Int} {c d : Bool} (h : a = b) (h1 : a' = b') (h' : c = d) : Ending.returned (.tuple #[.int .i64 a, .int .i64 a', .bool c]) = .returned (.tuple #[.int .i64 b, .int .i64 b', .bool d]) := by rw [h, h1, h']
theorem pair_bd {zs : List Int} (hw : ckB 50 zs = true) : 0 ≤ ((zs.length : Int) + 1) * sA zs ∧ ((zs.length : Int) + 1) * sA zs ≤ 3060 := by
  have a := sA_bd zs
  have l := ckB_len hw
  have := mul_bd (a := (zs.length : Int) + 1) (A := 51) (by omega) (by omega) a.1 a.2
  omega
theorem ckPair_any (v : Value) (zs : List Int) (w : World) (hr : Rd w v zs) (hw : ckB 50 zs = true) :
    Calls Try.prog 37 #[v] w fun e w' => e = .returned (.tuple #[.int .i64 (pX zs), .int .i64 (pY zs)]) ∧ w = w' := by
  have hm := hr.max
  unfold maxLen at hm
  obtain ⟨a, cap, hv⟩ := hr.len
  have HR := Lib.hid hr
  clear hr
  subst hv
  have ha := sA_bd zs
  have hb := sB_bd zs
  have hl := ckB_len hw
  have hp := pair_bd hw
  have hs := sgn_bd (((zs.length : Int) + 1) * sA zs - sB zs)
  go_enter Try.func37, Try.ntmps37
  go_wp2_with (first
    | (go_at_call 32; refine (ckSum_any _ zs _ HR.out hw).mono ?_; rintro e w' ⟨rfl, rfl⟩)
    | (go_at_call 33; refine (ckSign_any _ _).mono ?_; rintro e w' ⟨rfl, rfl⟩))
  go_ret2
  exact ⟨rfl, rfl⟩
theorem holds_i (v : Value) (zs : List Int) (w : World) (hr : Rd w v zs) (hw : ckB 50 zs = true) :
    Calls Try.prog 43 #[v] w fun e w' => e = .returned (.bool (hldB zs)) ∧ w = w' := by
  have hm := hr.max
  unfold maxLen at hm
  obtain ⟨a, cap, hv⟩ := hr.len
  have HR := Lib.hid hr
  clear hr
  subst hv
  by_cases h : sA zs = 0
  · have hq : (sA zs == 0) = true := by simpa using h
    have hf : Hid (hldB zs = (sB zs == 0)) := Lib.hid (by simp [hldB, hq])
    clear h
    go_enter Try.func43, Try.ntmps43
    go_wp2_with (first
      | (go_at_call 35; refine (syndromes_any _ zs _ HR.out hw).mono ?_; rintro e w' ⟨rfl, rfl⟩))
    go_ret
    exact ⟨ret_bool hf.out.symm, rfl⟩
  · have hq : (sA zs == 0) = false := by simpa using h
    have hf : Hid (hldB zs = false) := Lib.hid (by simp [hldB, hq])
    clear h
    go_enter Try.func43, Try.ntmps43
    go_wp2_with (first
      | (go_at_call 35; refine (syndromes_any _ zs _ HR.out hw).mono ?_; rintro e w' ⟨rfl, rfl⟩))
    go_ret
    exact ⟨ret_bool hf.out.symm, rfl⟩
theorem holds_s (v : Value) (zs : List Int) (w : World) (hr : Rd w v zs) (hw : ckB 50 zs = true) :
    Calls Try.prog 42 #[v] w fun e w' => e = .returned (.bool (hldB zs)) ∧ w = w' := by
  have hm := hr.max
  unfold maxLen at hm
  obtain ⟨a, cap, hv⟩ := hr.len
  have HR := Lib.hid hr
  clear hr
  subst hv
  by_cases h : sA zs = 0
  · have hq : (sA zs == 0) = true := by simpa using h
    have hf : Hid (hldB zs = (sB zs == 0)) := Lib.hid (by simp [hldB, hq])
    clear h
    go_enter Try.func42, Try.ntmps42
    go_wp2_with (first
      | (go_at_call 32; refine (ckSum_any _ zs _ HR.out hw).mono ?_; rintro e w' ⟨rfl, rfl⟩))
    go_ret
    exact ⟨ret_bool hf.out.symm, rfl⟩
  · have hq : (sA zs == 0) = false := by simpa using h
    have hf : Hid (hldB zs = false) := Lib.hid (by simp [hldB, hq])
    clear h
    go_enter Try.func42, Try.ntmps42
    go_wp2_with (first
      | (go_at_call 32; refine (ckSum_any _ zs _ HR.out hw).mono ?_; rintro e w' ⟨rfl, rfl⟩))
    go_ret
    exact ⟨ret_bool hf.out.symm, rfl⟩
def hasB2 (zs : List Int) (k : Int) : Bool := ckB 50 zs && inB k 0 ((zs.length : Int) - 1)
theorem hasB2_yes {zs : List Int} {k : Int} (h : hasB2 zs k = true) : ckB 50 zs = true ∧ 0 ≤ k ∧ k < zs.length := by
  simp only [hasB2, Bool.and_eq_true] at h
  have := inB_iff.1 h.2
  exact ⟨h.1, this.1, by omega⟩
theorem ckHas_any (v : Value) (zs : List Int) (k : Int) (w : World) (hr : Rd w v zs) :
    Calls Try.prog 40 #[v, .int .i64 k] w fun e w' => e = .returned (.bool (hasB2 zs k)) ∧ w = w' := by
  have hm := hr.max
  unfold maxLen at hm
  obtain ⟨a, cap, hv⟩ := hr.len
  have HR := Lib.hid hr
  clear hr
  subst hv
  cases hw : ckB 50 zs with
  | true =>
    have hf : Hid (hasB2 zs k = inB k 0 ((zs.length : Int) - 1)) := Lib.hid (by simp [hasB2, hw])
    go_enter Try.func40, Try.ntmps40
    go_wp2_with (first
      | (go_at_call 31; refine (ckWord_any _ zs 50 _ HR.out).mono ?_; rintro e w' ⟨rfl, rfl⟩)
      | (go_at_call 45; refine (l1In_any _ _ _ _).mono ?_; rintro e w' ⟨rfl, rfl⟩))
    go_ret
    exact ⟨ret_bool hf.out.symm, rfl⟩
  | false =>
    have hf : Hid (hasB2 zs k = false) := Lib.hid (by simp [hasB2, hw])
    go_enter Try.func40, Try.ntmps40
    go_wp2_with (first
      | (go_at_call 31; refine (ckWord_any _ zs 50 _ HR.out).mono ?_; rintro e w' ⟨rfl, rfl⟩))
    go_ret
    exact ⟨ret_bool hf.out.symm, rfl⟩
theorem specSumHolds_any (v : Value) (zs : List Int) (w : World) (hr : Rd w v zs) :
    Calls Try.prog 15 #[v] w fun e w' => e = .returned (.tuple #[.bool (ckB 50 zs && (sA zs == 0)), .bool (ckB 50 zs)]) ∧ Below w.heap.size w w' := by
  have hm := hr.max
  unfold maxLen at hm
  obtain ⟨a, cap, hv⟩ := hr.len
  have HR := Lib.hid hr
  clear hr
  subst hv
  cases hc : ckB 50 zs with
  | true =>
    have hw : ckB 50 zs = true := ckB_mono hc (by decide)

    go_enter Try.func15, Try.ntmps15
    go_wp2_with (first
      | (go_at_call 31; refine (ckWord_any _ zs 50 _ HR.out).mono ?_; rintro e w' ⟨rfl, rfl⟩)
      | (go_at_call 32; refine (ckSum_any _ zs _ HR.out hw).mono ?_; rintro e w' ⟨rfl, rfl⟩))
    go_ret2
    exact ⟨by first | rfl | simp, Below.refl _ _⟩
  | false =>
    go_enter Try.func15, Try.ntmps15
    go_wp2_with (first
      | (go_at_call 31; refine (ckWord_any _ zs 50 _ HR.out).mono ?_; rintro e w' ⟨rfl, rfl⟩))
    go_ret2
    exact ⟨by first | rfl | simp, Below.refl _ _⟩
theorem implSumHolds_any (v : Value) (zs : List Int) (w : World) (hr : Rd w v zs) :
    Calls Try.prog 16 #[v] w fun e w' => e = .returned (.tuple #[.bool (ckB 50 zs && (sA zs == 0)), .bool (ckB 50 zs)]) ∧ Below w.heap.size w w' := by
  have hm := hr.max
  unfold maxLen at hm
  obtain ⟨a, cap, hv⟩ := hr.len
  have HR := Lib.hid hr
  clear hr
  subst hv
  cases hc : ckB 50 zs with
  | true =>
    have hw : ckB 50 zs = true := ckB_mono hc (by decide)

    go_enter Try.func16, Try.ntmps16
    go_wp2_with (first
      | (go_at_call 34; refine (isCheckedWord_any _ zs _ HR.out).mono ?_; rintro e w' ⟨rfl, rfl⟩)
      | (go_at_call 35; refine (syndromes_any _ zs _ HR.out hw).mono ?_; rintro e w' ⟨rfl, rfl⟩))
    go_ret2
    exact ⟨by first | rfl | simp, Below.refl _ _⟩
  | false =>
    go_enter Try.func16, Try.ntmps16
    go_wp2_with (first
      | (go_at_call 34; refine (isCheckedWord_any _ zs _ HR.out).mono ?_; rintro e w' ⟨rfl, rfl⟩))
    go_ret2
    exact ⟨by first | rfl | simp, Below.refl _ _⟩
theorem specSyndromesOf_any (v : Value) (zs : List Int) (w : World) (hr : Rd w v zs) :
    Calls Try.prog 23 #[v] w fun e w' => e = .returned (.tuple #[.int .i64 (okI (ckB 50 zs) (sA zs)), .int .i64 (okI (ckB 50 zs) (sB zs)), .bool (ckB 50 zs)]) ∧ Below w.heap.size w w' := by
  have hm := hr.max
  unfold maxLen at hm
  obtain ⟨a, cap, hv⟩ := hr.len
  have HR := Lib.hid hr
  clear hr
  subst hv
  cases hc : ckB 50 zs with
  | true =>
    have hw : ckB 50 zs = true := ckB_mono hc (by decide)

    go_enter Try.func23, Try.ntmps23
    go_wp2_with (first
      | (go_at_call 31; refine (ckWord_any _ zs 50 _ HR.out).mono ?_; rintro e w' ⟨rfl, rfl⟩)
      | (go_at_call 32; refine (ckSum_any _ zs _ HR.out hw).mono ?_; rintro e w' ⟨rfl, rfl⟩))
    go_ret3
    exact ⟨rfl, Below.refl _ _⟩
  | false =>
    go_enter Try.func23, Try.ntmps23
    go_wp2_with (first
      | (go_at_call 31; refine (ckWord_any _ zs 50 _ HR.out).mono ?_; rintro e w' ⟨rfl, rfl⟩))
    go_ret3
    exact ⟨rfl, Below.refl _ _⟩
theorem implSyndromesOf_any (v : Value) (zs : List Int) (w : World) (hr : Rd w v zs) :
    Calls Try.prog 24 #[v] w fun e w' => e = .returned (.tuple #[.int .i64 (okI (ckB 50 zs) (sA zs)), .int .i64 (okI (ckB 50 zs) (sB zs)), .bool (ckB 50 zs)]) ∧ Below w.heap.size w w' := by
  have hm := hr.max
  unfold maxLen at hm
  obtain ⟨a, cap, hv⟩ := hr.len
  have HR := Lib.hid hr
  clear hr
  subst hv
  cases hc : ckB 50 zs with
  | true =>
    have hw : ckB 50 zs = true := ckB_mono hc (by decide)

    go_enter Try.func24, Try.ntmps24
    go_wp2_with (first
      | (go_at_call 34; refine (isCheckedWord_any _ zs _ HR.out).mono ?_; rintro e w' ⟨rfl, rfl⟩)
      | (go_at_call 35; refine (syndromes_any _ zs _ HR.out hw).mono ?_; rintro e w' ⟨rfl, rfl⟩))
    go_ret3
    exact ⟨rfl, Below.refl _ _⟩
  | false =>
    go_enter Try.func24, Try.ntmps24
    go_wp2_with (first
      | (go_at_call 34; refine (isCheckedWord_any _ zs _ HR.out).mono ?_; rintro e w' ⟨rfl, rfl⟩))
    go_ret3
    exact ⟨rfl, Below.refl _ _⟩
theorem specSumCheck_any (v : Value) (zs : List Int) (w : World) (hr : Rd w v zs) :
    Calls Try.prog 11 #[v] w fun e w' => e = .returned (.tuple #[.int .i64 (okI (ckB 49 zs) (sgn (-sA zs))), .bool (ckB 49 zs)]) ∧ Below w.heap.size w w' := by
  have hm := hr.max
  unfold maxLen at hm
  obtain ⟨a, cap, hv⟩ := hr.len
  have HR := Lib.hid hr
  clear hr
  subst hv
  cases hc : ckB 49 zs with
  | true =>
    have hw : ckB 50 zs = true := ckB_mono hc (by decide)
    have ha := sA_bd zs
    go_enter Try.func11, Try.ntmps11
    go_wp2_with (first
      | (go_at_call 31; refine (ckWord_any _ zs 49 _ HR.out).mono ?_; rintro e w' ⟨rfl, rfl⟩)
      | (go_at_call 32; refine (ckSum_any _ zs _ HR.out hw).mono ?_; rintro e w' ⟨rfl, rfl⟩)
      | (go_at_call 33; refine (ckSign_any _ _).mono ?_; rintro e w' ⟨rfl, rfl⟩))
    go_ret2
    exact ⟨rfl, Below.refl _ _⟩
  | false =>
    go_enter Try.func11, Try.ntmps11
    go_wp2_with (first
      | (go_at_call 31; refine (ckWord_any _ zs 49 _ HR.out).mono ?_; rintro e w' ⟨rfl, rfl⟩))
    go_ret2
    exact ⟨rfl, Below.refl _ _⟩
theorem implSumCheck_any (v : Value) (zs : List Int) (w : World) (hr : Rd w v zs) :
    Calls Try.prog 13 #[v] w fun e w' => e = .returned (.tuple #[.int .i64 (okI (ckB 49 zs) (sgn (-sA zs))), .bool (ckB 49 zs)]) ∧ Below w.heap.size w w' := by
  have hm := hr.max
  unfold maxLen at hm
  obtain ⟨a, cap, hv⟩ := hr.len
  have HR := Lib.hid hr
  clear hr
  subst hv
  cases hw : ckB 50 zs with
  | false =>
    have hc : Hid (ckB 49 zs = false) := Lib.hid (by
      cases h : ckB 49 zs with
      | false => rfl
      | true => rw [ckB_mono h (by decide)] at hw; cases hw)
    go_enter Try.func13, Try.ntmps13
    go_wp2_with (first
      | (go_at_call 34; refine (isCheckedWord_any _ zs _ HR.out).mono ?_; rintro e w' ⟨rfl, rfl⟩))
    go_ret2
    exact ⟨ret2 (by rw [okI_no hc.out]) hc.out.symm, Below.refl _ _⟩
  | true =>
    by_cases hl : 49 < (zs.length : Int)
    · have hc : Hid (ckB 49 zs = false) := Lib.hid (by simp [ckB]; intro h1; exfalso; omega)
      go_enter Try.func13, Try.ntmps13
      go_wp2_with (first
        | (go_at_call 34; refine (isCheckedWord_any _ zs _ HR.out).mono ?_; rintro e w' ⟨rfl, rfl⟩))
      go_ret2
      exact ⟨ret2 (by rw [okI_no hc.out]) hc.out.symm, Below.refl _ _⟩
    · have hc : Hid (ckB 49 zs = true) := Lib.hid (by have := ckB_all hw; simp [ckB, this]; omega)
      have ha := sA_bd zs
      go_enter Try.func13, Try.ntmps13
      go_wp2_with (first
        | (go_at_call 34; refine (isCheckedWord_any _ zs _ HR.out).mono ?_; rintro e w' ⟨rfl, rfl⟩)
        | (go_at_call 35; refine (syndromes_any _ zs _ HR.out hw).mono ?_; rintro e w' ⟨rfl, rfl⟩)
        | (go_at_call 36; refine (signalOf_any _ _).mono ?_; rintro e w' ⟨rfl, rfl⟩))
      go_ret2
      exact ⟨ret2 (by rw [okI_yes hc.out]) hc.out.symm, Below.refl _ _⟩
theorem specPairChecks_any (v : Value) (zs : List Int) (w : World) (hr : Rd w v zs) :
    Calls Try.prog 17 #[v] w fun e w' => e = .returned (.tuple #[.int .i64 (okI (ckB 48 zs) (pX zs)), .int .i64 (okI (ckB 48 zs) (pY zs)), .bool (ckB 48 zs)]) ∧ Below w.heap.size w w' := by
  have hm := hr.max
  unfold maxLen at hm
  obtain ⟨a, cap, hv⟩ := hr.len
  have HR := Lib.hid hr
  clear hr
  subst hv
  cases hc : ckB 48 zs with
  | true =>
    have hw : ckB 50 zs = true := ckB_mono hc (by decide)
    have ha := sA_bd zs
    have hb := sB_bd zs
    have hl0 := ckB_len hw
    have hp := pair_bd hw
    go_enter Try.func17, Try.ntmps17
    go_wp2_with (first
      | (go_at_call 31; refine (ckWord_any _ zs 48 _ HR.out).mono ?_; rintro e w' ⟨rfl, rfl⟩)
      | (go_at_call 37; refine (ckPair_any _ zs _ HR.out hw).mono ?_; rintro e w' ⟨rfl, rfl⟩))
    go_ret3
    exact ⟨rfl, Below.refl _ _⟩
  | false =>
    go_enter Try.func17, Try.ntmps17
    go_wp2_with (first
      | (go_at_call 31; refine (ckWord_any _ zs 48 _ HR.out).mono ?_; rintro e w' ⟨rfl, rfl⟩))
    go_ret3
    exact ⟨rfl, Below.refl _ _⟩
theorem implPairChecks_any (v : Value) (zs : List Int) (w : World) (hr : Rd w v zs) :
    Calls Try.prog 18 #[v] w fun e w' => e = .returned (.tuple #[.int .i64 (okI (ckB 48 zs) (pX zs)), .int .i64 (okI (ckB 48 zs) (pY zs)), .bool (ckB 48 zs)]) ∧ Below w.heap.size w w' := by
  have hm := hr.max
  unfold maxLen at hm
  obtain ⟨a, cap, hv⟩ := hr.len
  have HR := Lib.hid hr
  clear hr
  subst hv
  cases hw : ckB 50 zs with
  | false =>
    have hc : Hid (ckB 48 zs = false) := Lib.hid (by
      cases h : ckB 48 zs with
      | false => rfl
      | true => rw [ckB_mono h (by decide)] at hw; cases hw)
    go_enter Try.func18, Try.ntmps18
    go_wp2_with (first
      | (go_at_call 34; refine (isCheckedWord_any _ zs _ HR.out).mono ?_; rintro e w' ⟨rfl, rfl⟩))
    go_ret3
    exact ⟨ret3 (by rw [okI_no hc.out]) (by rw [okI_no hc.out]) hc.out.symm, Below.refl _ _⟩
  | true =>
    by_cases hl : 48 < (zs.length : Int)
    · have hc : Hid (ckB 48 zs = false) := Lib.hid (by simp [ckB]; intro h1; exfalso; omega)
      go_enter Try.func18, Try.ntmps18
      go_wp2_with (first
        | (go_at_call 34; refine (isCheckedWord_any _ zs _ HR.out).mono ?_; rintro e w' ⟨rfl, rfl⟩))
      go_ret3
      exact ⟨ret3 (by rw [okI_no hc.out]) (by rw [okI_no hc.out]) hc.out.symm, Below.refl _ _⟩
    · have hc : Hid (ckB 48 zs = true) := Lib.hid (by have := ckB_all hw; simp [ckB, this]; omega)
      have ha := sA_bd zs
      have hb := sB_bd zs
      have hl0 := ckB_len hw
      have hp := pair_bd hw
      go_enter Try.func18, Try.ntmps18
      go_wp2_with (first
        | (go_at_call 34; refine (isCheckedWord_any _ zs _ HR.out).mono ?_; rintro e w' ⟨rfl, rfl⟩)
        | (go_at_call 35; refine (syndromes_any _ zs _ HR.out hw).mono ?_; rintro e w' ⟨rfl, rfl⟩)
        | (go_at_call 36; refine (signalOf_any _ _).mono ?_; rintro e w' ⟨rfl, rfl⟩))
      go_ret3
      exact ⟨ret3 (by rw [okI_yes hc.out]; exact (pX_eq zs).symm) (by rw [okI_yes hc.out]; rfl) hc.out.symm, Below.refl _ _⟩
theorem specFillErased_any (v : Value) (zs : List Int) (k : Int) (w : World) (hr : Rd w v zs) :
    Calls Try.prog 25 #[v, .int .i64 k] w fun e w' => e = .returned (.tuple #[.int .i64 (okI (hasB2 zs k) (sgn (nth zs k.toNat - sA zs))), .bool (hasB2 zs k)]) ∧ Below w.heap.size w w' := by
  have hm := hr.max
  unfold maxLen at hm
  obtain ⟨a, cap, hv⟩ := hr.len
  have HR := Lib.hid hr
  clear hr
  subst hv
  cases hc : hasB2 zs k with
  | true =>
    obtain ⟨hw, k0, k1⟩ := hasB2_yes hc
    obtain ⟨g, off, e1, hg, p⟩ := HR.out.at_ rfl k.toNat (by omega)
    subst e1
    have ha := sA_bd zs
    have hz := ckB_get hw k.toNat (by omega)
    have hx : zs[k.toNat]?.getD 0 = nth zs k.toNat := rfl
    have hib : inB k 0 ((zs.length : Int) - 1) = true := inB_yes k0 (by omega)
    rw [hx] at p
    go_enter Try.func25, Try.ntmps25
    go_wp2_with (first
      | (go_at_call 40; refine (ckHas_any _ zs _ _ HR.out).mono ?_; rintro e w' ⟨rfl, rfl⟩)
      | (go_at_call 32; refine (ckSum_any _ zs _ HR.out hw).mono ?_; rintro e w' ⟨rfl, rfl⟩)
      | (go_at_call 33; refine (ckSign_any _ _).mono ?_; rintro e w' ⟨rfl, rfl⟩))
    go_ret2
    exact ⟨ret2 (by rw [okI_yes rfl]) rfl, Below.refl _ _⟩
  | false =>
    go_enter Try.func25, Try.ntmps25
    go_wp2_with (first
      | (go_at_call 40; refine (ckHas_any _ zs _ _ HR.out).mono ?_; rintro e w' ⟨rfl, rfl⟩))
    go_ret2
    exact ⟨ret2 (by rw [okI_no rfl]) rfl, Below.refl _ _⟩
theorem implFillErased_any (v : Value) (zs : List Int) (k : Int) (w : World) (hr : Rd w v zs) :
    Calls Try.prog 26 #[v, .int .i64 k] w fun e w' => e = .returned (.tuple #[.int .i64 (okI (hasB2 zs k) (sgn (nth zs k.toNat - sA zs))), .bool (hasB2 zs k)]) ∧ Below w.heap.size w w' := by
  have hm := hr.max
  unfold maxLen at hm
  obtain ⟨a, cap, hv⟩ := hr.len
  have HR := Lib.hid hr
  clear hr
  subst hv
  cases hc : hasB2 zs k with
  | true =>
    obtain ⟨hw, k0, k1⟩ := hasB2_yes hc
    obtain ⟨g, off, e1, hg, p⟩ := HR.out.at_ rfl k.toNat (by omega)
    subst e1
    have ha := sA_bd zs
    have hz := ckB_get hw k.toNat (by omega)
    have hx : zs[k.toNat]?.getD 0 = nth zs k.toNat := rfl
    have hib : inB k 0 ((zs.length : Int) - 1) = true := inB_yes k0 (by omega)
    rw [hx] at p
    go_enter Try.func26, Try.ntmps26
    go_wp2_with (first
      | (go_at_call 34; refine (isCheckedWord_any _ zs _ HR.out).mono ?_; rintro e w' ⟨rfl, rfl⟩)
      | (go_at_call 41; refine (isIndexOf_any _ zs _ _ HR.out).mono ?_; rintro e w' ⟨rfl, rfl⟩)
      | (go_at_call 35; refine (syndromes_any _ zs _ HR.out hw).mono ?_; rintro e w' ⟨rfl, rfl⟩)
      | (go_at_call 36; refine (signalOf_any _ _).mono ?_; rintro e w' ⟨rfl, rfl⟩))
    go_ret2
    exact ⟨ret2 (by rw [okI_yes rfl]) rfl, Below.refl _ _⟩
  | false =>
    cases hw : ckB 50 zs with
    | false =>
      go_enter Try.func26, Try.ntmps26
      go_wp2_with (first
        | (go_at_call 34; refine (isCheckedWord_any _ zs _ HR.out).mono ?_; rintro e w' ⟨rfl, rfl⟩))
      go_ret2
      exact ⟨ret2 (by rw [okI_no rfl]) rfl, Below.refl _ _⟩
    | true =>
      have hib : inB k 0 ((zs.length : Int) - 1) = false := by simpa [hasB2, hw] using hc
      go_enter Try.func26, Try.ntmps26
      go_wp2_with (first
        | (go_at_call 34; refine (isCheckedWord_any _ zs _ HR.out).mono ?_; rintro e w' ⟨rfl, rfl⟩)
        | (go_at_call 41; refine (isIndexOf_any _ zs _ _ HR.out).mono ?_; rintro e w' ⟨rfl, rfl⟩))
      go_ret2
      exact ⟨ret2 (by rw [okI_no rfl]) rfl, Below.refl _ _⟩
end Go.Proofs.Ytnkcmadjeofedaa
