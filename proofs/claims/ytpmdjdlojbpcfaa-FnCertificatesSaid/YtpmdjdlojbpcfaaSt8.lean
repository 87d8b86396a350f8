/- Chapter 8: SeenFrom, IsCover, AreApart of the program. -/
import Derived.Test.YtpmdjdlojbpcfaaSt7
namespace Go.Proofs.Ytpmdjdlojbpcfaa
open Go.RowKit
set_option linter.unusedSimpArgs false
set_option linter.unusedVariables false

theorem ris16 {L : List (List Int)} {n : Nat} {zs : List Int} (ok : StOk L n) (h : Ris zs 0 L.length) : ∀ x ∈ zs, 0 ≤ x ∧ x < 16 := fun x hx => by have := h.2 x hx; have := ok.m2; omega
theorem ris16n {L : List (List Int)} {n : Nat} {zs : List Int} (ok : StOk L n) (h : Ris zs 0 n) : ∀ x ∈ zs, 0 ≤ x ∧ x < 16 := fun x hx => by have := h.2 x hx; have := ok.n2; omega
def sfL (L : List (List Int)) (n : Int) (zs : List Int) : List Int := if askB L n zs then seenL L n.toNat zs else []
theorem sfL_yes {L : List (List Int)} {n : Int} {zs : List Int} (h : askB L n zs = true) : sfL L n zs = seenL L n.toNat zs := by simp [sfL, h]
theorem sfL_no {L : List (List Int)} {n : Int} {zs : List Int} (h : askB L n zs = false) : sfL L n zs = [] := by simp [sfL, h]
theorem sfL_len (L : List (List Int)) (n : Int) (zs : List Int) : (sfL L n zs).length ≤ 16 := by
  cases h : askB L n zs with
  | false => rw [sfL_no h]; simp
  | true =>
    rw [sfL_yes h]
    have := seenL_len L n.toNat zs
    have := (askB_iff.1 h).1.1.n2
    omega
theorem ask_no1 {L : List (List Int)} {n : Int} {zs : List Int} (h : stB L n = false) : askB L n zs = false := by simp [askB, h]
theorem ask_no2 {L : List (List Int)} {n : Int} {zs : List Int} (h : chB L zs = false) : askB L n zs = false := by simp [askB, h]
theorem ask_yes {L : List (List Int)} {n : Int} {zs : List Int} (h : stB L n = true) (h' : chB L zs = true) : askB L n zs = true := by simp [askB, h, h']
theorem ret2v {v : Value} {a b : Bool} (h : a = b) : Ending.returned (.tuple #[v, .bool a]) = .returned (.tuple #[v, .bool b]) := by rw [h]
theorem ret2b {a b c d : Bool} (h : a = c) (h' : b = d) : Ending.returned (.tuple #[.bool a, .bool b]) = .returned (.tuple #[.bool c, .bool d]) := by rw [h, h']
theorem ret2i {a c : Int} {b d : Bool} (h : a = c) (h' : b = d) : Ending.returned (.tuple #[.int .i64 a, .bool b]) = .returned (.tuple #[.int .i64 c, .bool d]) := by rw [h, h']
theorem seen_nums {L : List (List Int)} {n : Nat} {zs : List Int} (ok : StOk L n) (h : Ris zs 0 L.length) : nums (seA L n (setN zs)) 16 = seenL L n zs ∧ seA L n (setN zs) < 65536 := by
  have hs := se_ok (s := setN zs) ok
  have hl := hs.lt.1
  have h16 := two16 ok.n2
  refine ⟨?_, by omega⟩
  rw [nums_top hl ok.n2, hs.seen, nums_setN h]

set_option maxRecDepth 100000 in
set_option maxHeartbeats 2000000 in
theorem implSeenFrom_any (v u : Value) (L : List (List Int)) (n : Int) (zs : List Int) (w : World) (hr : RdJ w v L) (hu : Rd w u zs) :
    Calls Try.prog 26 #[v, .int .i64 n, u] w fun e w' => ∃ v', e = .returned (.tuple #[v', .bool (askB L n zs)]) ∧ Own w' w.heap.size v' (sfL L n zs) ∧ Below w.heap.size w w' := by
  have hm := hr.max
  have C0 := Lib.hid (implAreSites_any v L n w hr)
  have HR := Lib.hid hr
  have HU := Lib.hid hu
  obtain ⟨a, cap, rfl, -⟩ := hr.len
  clear hr hu
  cases hs : stB L n with
  | false =>
    have hf := Lib.hid (ask_no1 (zs := zs) hs)
    rw [hs] at C0
    clear hs
    go_enter Try.func26, Try.ntmps26
    go_wp2_with fail
    refine C0.out.mono ?_
    rintro e w1 ⟨rfl, hb1⟩
    go_wp2
    go_ret2
    exact ⟨_, ret2v hf.out.symm, by rw [sfL_no hf.out]; exact Own.nil _ _, hb1⟩
  | true =>
    rw [hs] at C0
    have hch : chB L zs = risB zs 0 ((L.length : Int) - 1) := rfl
    cases hc : chB L zs with
    | false =>
      have hf := Lib.hid (ask_no2 (n := n) hc)
      have C1 := fun W (h : Rd W u zs) => Lib.hid (below_any u zs L.length W h)
      rw [← hch, hc] at C1
      clear hs hch hc
      go_enter Try.func26, Try.ntmps26
      go_wp2_with fail
      refine C0.out.mono ?_
      rintro e w1 ⟨rfl, hb1⟩
      go_wp2_with fail
      refine (C1 _ (HU.out.later hb1)).out.mono ?_
      rintro e w' ⟨rfl, rfl⟩
      go_wp2
      go_ret2
      exact ⟨_, ret2v hf.out.symm, by rw [sfL_no hf.out]; exact Own.nil _ _, hb1⟩
    | true =>
      have hf := Lib.hid (ask_yes hs hc)
      have hfl := Lib.hid (sfL_yes hf.out)
      have C1 := fun W (h : Rd W u zs) => Lib.hid (below_any u zs L.length W h)
      rw [← hch, hc] at C1
      obtain ⟨⟨ok, hne⟩, hz⟩ := askB_iff.1 hf.out
      obtain ⟨N, hN⟩ : ∃ N, n.toNat = N := ⟨_, rfl⟩
      rw [hN] at ok hne hfl
      subst hne
      have OK := Lib.hid ok
      have HZ := Lib.hid (ris16 ok hz)
      have hs16 : setN zs < 65536 := setN_lt16 HZ.out
      obtain ⟨hn1, hn2⟩ := seen_nums ok hz
      have HN := Lib.hid hn1
      clear hs hch hc ok hz hn1 hN
      obtain ⟨s, hse⟩ : ∃ s, s = setN zs := ⟨_, rfl⟩
      rw [← hse] at hs16 hn2 HN
      have HS := Lib.hid hse
      clear hse
      go_enter Try.func26, Try.ntmps26
      go_wp2_with fail
      refine C0.out.mono ?_
      rintro e w1 ⟨rfl, hb1⟩
      go_wp2_with fail
      refine (C1 _ (HU.out.later hb1)).out.mono ?_
      rintro e w' ⟨rfl, rfl⟩
      go_wp2_with fail
      refine (outlookOf_any _ L N _ OK.out (HR.out.later hb1)).mono ?_
      rintro e w2 ⟨uv, rfl, hv, hb2⟩
      have hB2 := hb1.trans (hb2.mono hb1.size)
      go_wp2_with fail
      refine (setOf_any _ zs _ HZ.out (HU.out.later hB2)).mono ?_
      rintro e w' ⟨rfl, rfl⟩
      rw [← HS.out]
      go_wp2_with fail
      refine (seen_any uv L N s _ OK.out hs16 hv).mono ?_
      rintro e w3 ⟨rfl, hb3⟩
      have hB3 := hB2.trans (hb3.mono hB2.size)
      clear hv
      generalize seA L N s = x at hn2 HN ⊢
      generalize seB L N s = y
      generalize 2 ^ N - 1 = z
      go_wp2_with fail
      refine (numbers_any x _ hn2).mono ?_
      rintro e w4 ⟨v4, rfl, ho4, hb4⟩
      rw [HN.out] at ho4
      have hB4 := (hB3.alloc hB3.size (.cells #[.int .u64 z, .int .u64 x, .int .u64 y] 76)).trans (hb4.mono (by have := hB3.size; simp; omega))
      go_wp2
      go_ret2
      exact ⟨_, ret2v hf.out.symm, by rw [hfl.out]; exact ho4.base (by have := hB3.size; simp; omega), hB4⟩

/-- The answer of IsCover. -/
def icA (L : List (List Int)) (n : Int) (zs : List Int) (t : Int) : Bool := askB L n zs && inB t 1 2
def icB (L : List (List Int)) (n : Int) (zs : List Int) (t : Int) : Bool := icA L n zs t && covB L n.toNat zs t.toNat
theorem ic_no {L : List (List Int)} {n : Int} {zs : List Int} {t : Int} (h : icA L n zs t = false) : icB L n zs t = false := by simp [icB, h]
set_option maxRecDepth 100000 in
set_option maxHeartbeats 2000000 in
theorem implIsCover_any (v u : Value) (L : List (List Int)) (n : Int) (zs : List Int) (t : Int) (w : World) (hr : RdJ w v L) (hu : Rd w u zs) :
    Calls Try.prog 29 #[v, .int .i64 n, u, .int .i64 t] w fun e w' => e = .returned (.tuple #[.bool (icB L n zs t), .bool (icA L n zs t)]) ∧ Below w.heap.size w w' := by
  have hm := hr.max
  have C0 := Lib.hid (implAreSites_any v L n w hr)
  have HR := Lib.hid hr
  have HU := Lib.hid hu
  have C2 := fun W => Lib.hid (isTimes_any t W)
  obtain ⟨a, cap, rfl, -⟩ := hr.len
  clear hr hu
  cases hs : stB L n with
  | false =>
    have hf : Hid (icA L n zs t = false) := Lib.hid (by simp [icA, ask_no1 hs])
    rw [hs] at C0
    clear hs
    go_enter Try.func29, Try.ntmps29
    go_wp2_with fail
    refine C0.out.mono ?_
    rintro e w1 ⟨rfl, hb1⟩
    go_wp2
    go_ret2
    exact ⟨ret2b (ic_no hf.out).symm hf.out.symm, hb1⟩
  | true =>
    rw [hs] at C0
    have hch : chB L zs = risB zs 0 ((L.length : Int) - 1) := rfl
    cases hc : chB L zs with
    | false =>
      have hf : Hid (icA L n zs t = false) := Lib.hid (by simp [icA, ask_no2 hc])
      have C1 := fun W (h : Rd W u zs) => Lib.hid (below_any u zs L.length W h)
      rw [← hch, hc] at C1
      clear hs hch hc
      go_enter Try.func29, Try.ntmps29
      go_wp2_with fail
      refine C0.out.mono ?_
      rintro e w1 ⟨rfl, hb1⟩
      go_wp2_with fail
      refine (C1 _ (HU.out.later hb1)).out.mono ?_
      rintro e w' ⟨rfl, rfl⟩
      go_wp2
      go_ret2
      exact ⟨ret2b (ic_no hf.out).symm hf.out.symm, hb1⟩
    | true =>
      have C1 := fun W (h : Rd W u zs) => Lib.hid (below_any u zs L.length W h)
      rw [← hch, hc] at C1
      cases ht : inB t 1 2 with
      | false =>
        have hf : Hid (icA L n zs t = false) := Lib.hid (by simp [icA, ht])
        rw [ht] at C2
        clear hs hch hc ht
        go_enter Try.func29, Try.ntmps29
        go_wp2_with fail
        refine C0.out.mono ?_
        rintro e w1 ⟨rfl, hb1⟩
        go_wp2_with fail
        refine (C1 _ (HU.out.later hb1)).out.mono ?_
        rintro e w' ⟨rfl, rfl⟩
        go_wp2_with fail
        refine (C2 _).out.mono ?_
        rintro e w' ⟨rfl, rfl⟩
        go_wp2
        go_ret2
        exact ⟨ret2b (ic_no hf.out).symm hf.out.symm, hb1⟩
      | true =>
        have hask := ask_yes hs hc
        have hf : Hid (icA L n zs t = true) := Lib.hid (by simp [icA, ht, hask])
        rw [ht] at C2
        obtain ⟨⟨ok, hne⟩, hz⟩ := askB_iff.1 hask
        obtain ⟨N, hN⟩ : ∃ N, n.toNat = N := ⟨_, rfl⟩
        obtain ⟨T, hT⟩ : ∃ T, t.toNat = T := ⟨_, rfl⟩
        have hte : t = (T : Int) := by have := inB_iff.1 ht; omega
        have hT12 : T = 1 ∨ T = 2 := by have := inB_iff.1 ht; omega
        have hfc : Hid (icB L n zs t = covB L N zs T) := Lib.hid (by rw [icB, hf.out, hN, hT]; rfl)
        rw [hN] at ok hne
        subst hne hte
        have OK := Lib.hid ok
        have HZ := Lib.hid (ris16 ok hz)
        have hs16 : setN zs < 65536 := setN_lt16 HZ.out
        have HN := Lib.hid (nums_setN hz)
        have HT := Lib.hid hT12
        clear hs hch hc ok hz hN hT ht hask hT12
        obtain ⟨s, hse⟩ : ∃ s, s = setN zs := ⟨_, rfl⟩
        rw [← hse] at hs16 HN
        have HS := Lib.hid hse
        clear hse
        go_enter Try.func29, Try.ntmps29
        go_wp2_with fail
        refine C0.out.mono ?_
        rintro e w1 ⟨rfl, hb1⟩
        go_wp2_with fail
        refine (C1 _ (HU.out.later hb1)).out.mono ?_
        rintro e w' ⟨rfl, rfl⟩
        go_wp2_with fail
        refine (C2 _).out.mono ?_
        rintro e w' ⟨rfl, rfl⟩
        go_wp2_with fail
        refine (outlookOf_any _ L N _ OK.out (HR.out.later hb1)).mono ?_
        rintro e w2 ⟨uv, rfl, hv, hb2⟩
        have hB2 := hb1.trans (hb2.mono hb1.size)
        go_wp2_with fail
        refine (setOf_any _ zs _ HZ.out (HU.out.later hB2)).mono ?_
        rintro e w' ⟨rfl, rfl⟩
        rw [← HS.out]
        go_wp2_with fail
        refine (isCovered_any uv L N s T _ OK.out hs16 HT.out hv).mono ?_
        rintro e w3 ⟨rfl, hb3⟩
        rw [HN.out]
        have hB3 := hB2.trans (hb3.mono hB2.size)
        clear hv
        go_wp2
        go_ret2
        exact ⟨ret2b hfc.out.symm hf.out.symm, hB3⟩

def aaA (L : List (List Int)) (n : Int) (zs : List Int) : Bool := stB L n && risB zs 0 (n - 1)
def aaB (L : List (List Int)) (n : Int) (zs : List Int) : Bool := aaA L n zs && apB L zs
theorem aa_no {L : List (List Int)} {n : Int} {zs : List Int} (h : aaA L n zs = false) : aaB L n zs = false := by simp [aaB, h]
theorem aaA_iff {L : List (List Int)} {n : Int} {zs : List Int} : aaA L n zs = true ↔ (StOk L n.toNat ∧ n = (n.toNat : Int)) ∧ Ris zs 0 n := by
  simp only [aaA, Bool.and_eq_true, stB_iff, risB_iff]
set_option maxRecDepth 100000 in
set_option maxHeartbeats 2000000 in
theorem implAreApart_any (v u : Value) (L : List (List Int)) (n : Int) (zs : List Int) (w : World) (hr : RdJ w v L) (hu : Rd w u zs) :
    Calls Try.prog 38 #[v, .int .i64 n, u] w fun e w' => e = .returned (.tuple #[.bool (aaB L n zs), .bool (aaA L n zs)]) ∧ Below w.heap.size w w' := by
  have C0 := Lib.hid (implAreSites_any v L n w hr)
  have HR := Lib.hid hr
  have HU := Lib.hid hu
  have C1 := fun W (h : Rd W u zs) => Lib.hid (below_any u zs n W h)
  clear hr hu
  cases hs : stB L n with
  | false =>
    have hf : Hid (aaA L n zs = false) := Lib.hid (by simp [aaA, hs])
    rw [hs] at C0
    clear hs
    go_enter Try.func38, Try.ntmps38
    go_wp2_with fail
    refine C0.out.mono ?_
    rintro e w1 ⟨rfl, hb1⟩
    go_wp2
    go_ret2
    exact ⟨ret2b (aa_no hf.out).symm hf.out.symm, hb1⟩
  | true =>
    rw [hs] at C0
    cases hc : risB zs 0 (n - 1) with
    | false =>
      have hf : Hid (aaA L n zs = false) := Lib.hid (by simp [aaA, hc])
      rw [hc] at C1
      clear hs hc
      go_enter Try.func38, Try.ntmps38
      go_wp2_with fail
      refine C0.out.mono ?_
      rintro e w1 ⟨rfl, hb1⟩
      go_wp2_with fail
      refine (C1 _ (HU.out.later hb1)).out.mono ?_
      rintro e w' ⟨rfl, rfl⟩
      go_wp2
      go_ret2
      exact ⟨ret2b (aa_no hf.out).symm hf.out.symm, hb1⟩
    | true =>
      have hf : Hid (aaA L n zs = true) := Lib.hid (by simp [aaA, hc, hs])
      have hfc : Hid (aaB L n zs = apB L zs) := Lib.hid (by simp [aaB, hf.out])
      rw [hc] at C1
      obtain ⟨⟨ok, hne⟩, hz⟩ := aaA_iff.1 hf.out
      obtain ⟨N, hN⟩ : ∃ N, n.toNat = N := ⟨_, rfl⟩
      rw [hN] at ok hne
      subst hne
      have OK := Lib.hid ok
      have HZ := Lib.hid (ris16n ok hz)
      have hs16 : setN zs < 65536 := setN_lt16 HZ.out
      have HN : Hid (nums (setN zs) 16 = zs) := Lib.hid (nums_setN (hz.wide (Int.le_refl _) (by have := ok.n2; omega)))
      clear hs hc ok hz hN
      obtain ⟨s, hse⟩ : ∃ s, s = setN zs := ⟨_, rfl⟩
      rw [← hse] at hs16 HN
      have HS := Lib.hid hse
      clear hse
      go_enter Try.func38, Try.ntmps38
      go_wp2_with fail
      refine C0.out.mono ?_
      rintro e w1 ⟨rfl, hb1⟩
      go_wp2_with fail
      refine (C1 _ (HU.out.later hb1)).out.mono ?_
      rintro e w' ⟨rfl, rfl⟩
      go_wp2_with fail
      refine (outlookOf_any _ L N _ OK.out (HR.out.later hb1)).mono ?_
      rintro e w2 ⟨uv, rfl, hv, hb2⟩
      have hB2 := hb1.trans (hb2.mono hb1.size)
      go_wp2_with fail
      refine (setOf_any _ zs _ HZ.out (HU.out.later hB2)).mono ?_
      rintro e w' ⟨rfl, rfl⟩
      rw [← HS.out]
      go_wp2_with fail
      refine (isApart_any uv L N s _ _ OK.out hs16 hv).mono ?_
      rintro e w3 ⟨rfl, hb3⟩
      rw [HN.out]
      have hB3 := hB2.trans (hb3.mono hB2.size)
      clear hv
      go_wp2
      go_ret2
      exact ⟨ret2b hfc.out.symm hf.out.symm, hB3⟩
end Go.Proofs.Ytpmdjdlojbpcfaa
