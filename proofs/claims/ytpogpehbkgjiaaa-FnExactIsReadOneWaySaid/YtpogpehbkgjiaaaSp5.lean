/- Chapter 3: the number of readings, on both sides. -/
import Derived.Test.YtpogpehbkgjiaaaSp4
namespace Go.Proofs.Ytpogpehbkgjiaaa
open Go.RowKit
set_option linter.unusedSimpArgs false
set_option linter.unusedVariables false

def readB (zs : List Int) : Bool := decide (zs.length ≤ 60) && allIn zs 1 60
def rdB (ps : List Ph) (zs : List Int) : Bool := bookB ps && readB zs
theorem readB_long {zs : List Int} (h : ¬ zs.length ≤ 60) : readB zs = false := by simp [readB, h]
theorem readB_short {zs : List Int} (h : zs.length ≤ 60) : readB zs = allIn zs 1 60 := by simp [readB, h]
theorem readB_len {zs : List Int} (h : readB zs = true) : zs.length ≤ 60 := by simp [readB] at h; exact h.1
theorem rdB_book {ps : List Ph} {zs : List Int} (h : rdB ps zs = true) : bookB ps = true := by simp [rdB] at h; exact h.1
theorem rdB_read {ps : List Ph} {zs : List Int} (h : rdB ps zs = true) : readB zs = true := by simp [rdB] at h; exact h.2
theorem rdB_no1 {ps : List Ph} {zs : List Int} (h : bookB ps = false) : rdB ps zs = false := by simp [rdB, h]
theorem rdB_no2 {ps : List Ph} {zs : List Int} (h : readB zs = false) : rdB ps zs = false := by simp [rdB, h]
theorem bkGood_is (v : Value) (ps : List Ph) (b : Bool) (w : World) (h : bookB ps = b) (hr : RdPs w v ps) :
    Calls Try.prog 63 #[.agg #[v]] w fun e w' => e = .returned (.bool b) ∧ Below w.heap.size w w' := by subst h; exact bkGood_any v ps w hr
theorem implIsBook_is (v : Value) (ps : List Ph) (b : Bool) (w : World) (h : bookB ps = b) (hr : RdPs w v ps) :
    Calls Try.prog 51 #[.agg #[v]] w fun e w' => e = .returned (.bool b) ∧ Below w.heap.size w w' := by subst h; exact implIsBook_any v ps w hr

theorem areReadable_any (u : Value) (zs : List Int) (w : World) (hu : RdC w u zs) :
    Calls Try.prog 69 #[u] w fun e w' => e = .returned (.bool (readB zs)) ∧ w = w' := by
  have hm := hu.rd.max
  unfold maxLen at hm
  obtain ⟨-, au, cu, rfl, hcu⟩ := id hu
  by_cases h : zs.length ≤ 60
  · have hf := Lib.hid (readB_short h)
    go_enter Try.func69, Try.ntmps69
    go_wp2_with fail
    refine (areContent_any _ zs _ hu.rd).mono ?_
    rintro e w1 ⟨rfl, rfl⟩
    go_wp2
    go_ret
    exact ⟨ret_bool hf.out.symm, rfl⟩
  · have hf := Lib.hid (readB_long h)
    go_enter Try.func69, Try.ntmps69
    go_wp2
    go_ret
    exact ⟨ret_bool hf.out.symm, rfl⟩
theorem areReadable_is (u : Value) (zs : List Int) (b : Bool) (w : World) (h : readB zs = b) (hu : RdC w u zs) :
    Calls Try.prog 69 #[u] w fun e w' => e = .returned (.bool b) ∧ w = w' := by subst h; exact areReadable_any u zs w hu

theorem spSignals_any (v u : Value) (ps : List Ph) (zs : List Int) (w : World) (hr : RdPs w v ps) (hu : RdC w u zs) :
    Calls Try.prog 67 #[.agg #[v], u] w fun e w' => e = .returned (.bool (rdB ps zs)) ∧ Below w.heap.size w w' := by
  have hm := hu.rd.max
  unfold maxLen at hm
  obtain ⟨a, cap, rfl, -⟩ := hr.len
  have hb0 := (Below.refl w.heap.size w).alloc (Nat.le_refl _) (.cells #[.slice a ps.length cap] 31)
  have hrW := hr.later hb0
  have huW := hu.later hb0
  obtain ⟨-, au, cu, rfl, hcu⟩ := id hu
  cases hbk : bookB ps with
  | false =>
    have hf := Lib.hid (rdB_no1 (zs := zs) hbk)
    go_enter Try.func67, Try.ntmps67
    go_wp2_with fail
    refine (bkGood_is _ ps false _ hbk hrW).mono ?_
    rintro e w1 ⟨rfl, hb1⟩
    go_wp2
    go_ret
    exact ⟨ret_bool hf.out.symm, hb0.trans (hb1.mono hb0.size)⟩
  | true =>
    by_cases h : zs.length ≤ 60
    · have hf : Hid (rdB ps zs = allIn zs 1 60) := Lib.hid (by unfold rdB; rw [hbk, readB_short h]; rfl)
      go_enter Try.func67, Try.ntmps67
      go_wp2_with fail
      refine (bkGood_is _ ps true _ hbk hrW).mono ?_
      rintro e w1 ⟨rfl, hb1⟩
      go_wp2_with fail
      refine (l1All_any _ zs _ _ _ (huW.later hb1).rd).mono ?_
      rintro e w2 ⟨rfl, rfl⟩
      go_wp2
      go_ret
      exact ⟨ret_bool hf.out.symm, hb0.trans (hb1.mono hb0.size)⟩
    · have hf := Lib.hid (rdB_no2 (ps := ps) (readB_long h))
      go_enter Try.func67, Try.ntmps67
      go_wp2_with fail
      refine (bkGood_is _ ps true _ hbk hrW).mono ?_
      rintro e w1 ⟨rfl, hb1⟩
      go_wp2
      go_ret
      exact ⟨ret_bool hf.out.symm, hb0.trans (hb1.mono hb0.size)⟩
theorem spSignals_is (v u : Value) (ps : List Ph) (zs : List Int) (b : Bool) (w : World) (h : rdB ps zs = b) (hr : RdPs w v ps) (hu : RdC w u zs) :
    Calls Try.prog 67 #[.agg #[v], u] w fun e w' => e = .returned (.bool b) ∧ Below w.heap.size w w' := by subst h; exact spSignals_any v u ps zs w hr hu

/-- The number of readings. -/
theorem ways_exists (ps : List Ph) (zs : List Int) : ∃ f, bookB ps = true → Counts zs.length (sigSt ps zs) f := by
  by_cases h : bookB ps = true
  · obtain ⟨f, hf⟩ := counts_exists (sigSt_ahead h zs)
    exact ⟨f, fun _ => hf⟩
  · exact ⟨fun _ => 0, fun e => absurd e h⟩
noncomputable def waysF (ps : List Ph) (zs : List Int) : Nat → Int := Classical.choose (ways_exists ps zs)
theorem waysF_is {ps : List Ph} {zs : List Int} (h : bookB ps = true) : Counts zs.length (sigSt ps zs) (waysF ps zs) := Classical.choose_spec (ways_exists ps zs) h
noncomputable def waysN (ps : List Ph) (zs : List Int) : Int := okI (rdB ps zs) (waysF ps zs 0)

theorem specCount_any (v u : Value) (ps : List Ph) (zs : List Int) (w : World) (hr : RdPs w v ps) (hu : RdC w u zs) :
    Calls Try.prog 35 #[.agg #[v], u] w fun e w' => e = .returned (.tuple #[.int .i64 (waysN ps zs), .bool (rdB ps zs)]) ∧ Below w.heap.size w w' := by
  have hm := hu.rd.max
  unfold maxLen at hm
  obtain ⟨a, cap, rfl, -⟩ := hr.len
  have hb0 := (Below.refl w.heap.size w).alloc (Nat.le_refl _) (.cells #[.slice a ps.length cap] 31)
  have hrW := hr.later hb0
  have huW := hu.later hb0
  have hx0 : (w.alloc (.cells #[.slice a ps.length cap] 31)).cell? ⟨w.heap.size, 0, none⟩ = some (.slice a ps.length cap) := by simp [go_sem]
  have hsz0 : w.heap.size < (w.alloc (.cells #[.slice a ps.length cap] 31)).heap.size := by simp
  obtain ⟨-, au, cu, rfl, hcu⟩ := id hu
  cases hbk : rdB ps zs with
  | false =>
    have hf : Hid (waysN ps zs = 0) := Lib.hid (by unfold waysN; rw [hbk]; rfl)
    go_enter Try.func35, Try.ntmps35
    go_wp2_with fail
    generalize w.alloc (.cells #[.slice a ps.length cap] 31) = W at *
    refine (spSignals_is _ _ ps zs false _ hbk hrW huW).mono ?_
    rintro e w1 ⟨rfl, hb1⟩
    go_wp2
    go_ret2
    exact ⟨by rw [hf.out]; rfl, hb0.trans (hb1.mono hb0.size)⟩
  | true =>
    have hf : Hid (waysN ps zs = waysF ps zs 0) := Lib.hid (by unfold waysN; rw [hbk]; rfl)
    have hb := rdB_book hbk
    have HC := Lib.hid (waysF_is (zs := zs) hb)
    have hl := readB_len (rdB_read hbk)
    go_enter Try.func35, Try.ntmps35
    go_wp2_with fail
    generalize w.alloc (.cells #[.slice a ps.length cap] 31) = W at *
    refine (spSignals_is _ _ ps zs true _ hbk hrW huW).mono ?_
    rintro e w1 ⟨rfl, hb1⟩
    have c1 := hx0 ▸ hb1.cell (p := ⟨w.heap.size, 0, none⟩) hsz0
    go_wp2_with fail
    refine (spWays_any _ _ ps zs _ _ hb hl (hrW.later hb1) (huW.later hb1) HC.out).mono ?_
    rintro e w2 ⟨g, rfl, hrow, hb2⟩
    have hc0 := hrow.at_ 0 (by omega)
    obtain ⟨m, hm'⟩ : ∃ m, m = zs.length + 1 := ⟨_, rfl⟩
    rw [← hm']
    have hm2 : (0 : Int) < (m : Int) := by omega
    clear hrow hm'
    go_wp2
    go_ret2
    exact ⟨by rw [hf.out]; rfl, hb0.trans ((hb1.trans (hb2.mono hb1.size)).mono hb0.size)⟩

theorem implCount_any (v u : Value) (ps : List Ph) (zs : List Int) (w : World) (hr : RdPs w v ps) (hu : RdC w u zs) :
    Calls Try.prog 36 #[.agg #[v], u] w fun e w' => e = .returned (.tuple #[.int .i64 (waysN ps zs), .bool (rdB ps zs)]) ∧ Below w.heap.size w w' := by
  have hm := hu.rd.max
  unfold maxLen at hm
  obtain ⟨a, cap, rfl, -⟩ := hr.len
  have hb0 := (Below.refl w.heap.size w).alloc (Nat.le_refl _) (.cells #[.slice a ps.length cap] 31)
  have hrW := hr.later hb0
  have huW := hu.later hb0
  have hx0 : (w.alloc (.cells #[.slice a ps.length cap] 31)).cell? ⟨w.heap.size, 0, none⟩ = some (.slice a ps.length cap) := by simp [go_sem]
  have hsz0 : w.heap.size < (w.alloc (.cells #[.slice a ps.length cap] 31)).heap.size := by simp
  obtain ⟨-, au, cu, rfl, hcu⟩ := id hu
  cases hbk : bookB ps with
  | false =>
    have hC : Hid (rdB ps zs = false) := Lib.hid (rdB_no1 hbk)
    have hf : Hid (waysN ps zs = 0) := Lib.hid (by unfold waysN; rw [hC.out]; rfl)
    go_enter Try.func36, Try.ntmps36
    go_wp2_with fail
    generalize w.alloc (.cells #[.slice a ps.length cap] 31) = W at *
    refine (implIsBook_is _ ps false _ hbk hrW).mono ?_
    rintro e w1 ⟨rfl, hb1⟩
    go_wp2
    go_ret2
    exact ⟨by rw [hf.out, hC.out]; rfl, hb0.trans (hb1.mono hb0.size)⟩
  | true =>
    cases hrd : readB zs with
    | false =>
      have hC : Hid (rdB ps zs = false) := Lib.hid (rdB_no2 hrd)
      have hf : Hid (waysN ps zs = 0) := Lib.hid (by unfold waysN; rw [hC.out]; rfl)
      go_enter Try.func36, Try.ntmps36
      go_wp2_with fail
      generalize w.alloc (.cells #[.slice a ps.length cap] 31) = W at *
      refine (implIsBook_is _ ps true _ hbk hrW).mono ?_
      rintro e w1 ⟨rfl, hb1⟩
      go_wp2_with fail
      refine (areReadable_is _ zs false _ hrd (huW.later hb1)).mono ?_
      rintro e w2 ⟨rfl, rfl⟩
      go_wp2
      go_ret2
      exact ⟨by rw [hf.out, hC.out]; rfl, hb0.trans (hb1.mono hb0.size)⟩
    | true =>
      have hC : Hid (rdB ps zs = true) := Lib.hid (by unfold rdB; rw [hbk, hrd]; rfl)
      have hf : Hid (waysN ps zs = waysF ps zs 0) := Lib.hid (by unfold waysN; rw [hC.out]; rfl)
      have HC := Lib.hid (waysF_is (zs := zs) hbk)
      have hl := readB_len hrd
      have HLS : Hid (∀ q, q < zs.length → (sigSt ps zs q).length ≤ 40) := Lib.hid fun q _ => Nat.le_trans (stepsOf_len _ _ _) (bookB_len hbk).2
      go_enter Try.func36, Try.ntmps36
      go_wp2_with fail
      generalize w.alloc (.cells #[.slice a ps.length cap] 31) = W at *
      refine (implIsBook_is _ ps true _ hbk hrW).mono ?_
      rintro e w1 ⟨rfl, hb1⟩
      have c1 := hx0 ▸ hb1.cell (p := ⟨w.heap.size, 0, none⟩) hsz0
      go_wp2_with fail
      refine (areReadable_is _ zs true _ hrd (huW.later hb1)).mono ?_
      rintro e w2 ⟨rfl, rfl⟩
      go_wp2_with fail
      refine (signalSteps_any _ _ ps zs _ hbk hl (hrW.later hb1) (huW.later hb1)).mono ?_
      rintro e w2 ⟨v2, rfl, hss, hb2⟩
      obtain ⟨g2, rfl, -⟩ := hss.v
      go_wp2_with fail
      refine (countLists_any _ _ _ _ _ hl hss (sigSt_ahead hbk zs) HLS.out HC.out).mono ?_
      rintro e w3 ⟨rfl, hb3⟩
      go_wp2
      go_ret2
      exact ⟨by rw [hf.out, hC.out]; rfl, hb0.trans ((hb1.trans ((hb2.trans (hb3.mono hb2.size)).mono hb1.size)).mono hb0.size)⟩
end Go.Proofs.Ytpogpehbkgjiaaa
