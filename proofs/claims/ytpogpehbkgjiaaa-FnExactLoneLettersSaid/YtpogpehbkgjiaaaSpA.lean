/- Chapter 3: the first reading, on both sides. -/
import Derived.Test.YtpogpehbkgjiaaaSp9
namespace Go.Proofs.Ytpogpehbkgjiaaa
open Go.RowKit
set_option linter.unusedSimpArgs false
set_option linter.unusedVariables false

theorem sigRest_exists (ps : List Ph) (zs : List Int) : ∃ r, bookB ps = true → Rests ps zs.length (sigSt ps zs) r := by
  by_cases h : bookB ps = true
  · obtain ⟨r, hr⟩ := rests_exists ps (sigSt_ahead h zs)
    exact ⟨r, fun _ => hr⟩
  · exact ⟨fun _ => noRst, fun e => absurd e h⟩
noncomputable def sigR (ps : List Ph) (zs : List Int) : Nat → Rst := Classical.choose (sigRest_exists ps zs)
theorem sigR_is {ps : List Ph} {zs : List Int} (h : bookB ps = true) : Rests ps zs.length (sigSt ps zs) (sigR ps zs) := Classical.choose_spec (sigRest_exists ps zs) h
noncomputable def readC (ps : List Ph) (zs : List Int) : Bool := rdB ps zs && (sigR ps zs 0).ex
noncomputable def readL (ps : List Ph) (zs : List Int) : List Int := if readC ps zs = true then pathL (sigR ps zs) zs.length else []
theorem readC_no {ps : List Ph} {zs : List Int} (h : rdB ps zs = false) : readC ps zs = false := by simp [readC, h]
theorem readC_yes {ps : List Ph} {zs : List Int} (h : rdB ps zs = true) : readC ps zs = (sigR ps zs 0).ex := by simp [readC, h]
theorem readL_no {ps : List Ph} {zs : List Int} (h : readC ps zs = false) : readL ps zs = [] := by simp [readL, h]
theorem readL_yes {ps : List Ph} {zs : List Int} (h : rdB ps zs = true) : readL ps zs = if (sigR ps zs 0).ex = true then pathL (sigR ps zs) zs.length else [] := by unfold readL; rw [readC_yes h]
theorem readL_path {ps : List Ph} {zs : List Int} (h : rdB ps zs = true) (hx : (sigR ps zs 0).ex = true) : PathTo (sigR ps zs) zs.length 0 (pathL (sigR ps zs) zs.length) := pathL_is (sigR_is (rdB_book h)) (sigSt_ahead (rdB_book h) zs) hx
theorem readL_len (ps : List Ph) (zs : List Int) : (readL ps zs).length ≤ 60 := by
  unfold readL
  split
  · next h =>
    have h1 : rdB ps zs = true := by simp [readC] at h; exact h.1
    rw [readC_yes h1] at h
    have := (readL_path h1 h).len
    have := readB_len (rdB_read h1)
    omega
  · simp
def ReadPost (ps : List Ph) (zs : List Int) (w : World) (e : Ending) (w' : World) : Prop := ∃ v, e = .returned (.tuple #[v, .bool (readC ps zs)]) ∧ Own w' w.heap.size v (readL ps zs) ∧ Below w.heap.size w w'

theorem specFirst_any (v u : Value) (ps : List Ph) (zs : List Int) (w : World) (hr : RdPs w v ps) (hu : RdC w u zs) :
    Calls Try.prog 37 #[.agg #[v], u] w (ReadPost ps zs w) := by
  have hm := hu.rd.max
  unfold maxLen at hm
  obtain ⟨a, cap, rfl, -⟩ := hr.len
  have hb0 := (Below.refl w.heap.size w).alloc (Nat.le_refl _) (.cells #[.slice a ps.length cap] 31)
  have hrW := hr.later hb0
  have huW := hu.later hb0
  have hx0 : (w.alloc (.cells #[.slice a ps.length cap] 31)).cell? ⟨w.heap.size, 0, none⟩ = some (.slice a ps.length cap) := by simp [go_sem]
  have hsz0 : w.heap.size < (w.alloc (.cells #[.slice a ps.length cap] 31)).heap.size := by simp
  obtain ⟨-, au, cu, rfl, hcu⟩ := id hu
  cases hbk : rdB ps zs with
  | false =>
    have hC := Lib.hid (readC_no hbk)
    go_enter Try.func37, Try.ntmps37
    go_wp2_with fail
    generalize w.alloc (.cells #[.slice a ps.length cap] 31) = W at *
    refine (spSignals_is _ _ ps zs false _ hbk hrW huW).mono ?_
    rintro e w1 ⟨rfl, hb1⟩
    go_wp2
    go_ret2
    exact ⟨_, by rw [hC.out]; rfl, by rw [readL_no hC.out]; exact Own.nil _ _, hb0.trans (hb1.mono hb0.size)⟩
  | true =>
    have hb := rdB_book hbk
    have hl := readB_len (rdB_read hbk)
    have HCT := Lib.hid (waysF_is (zs := zs) hb)
    have HRS := Lib.hid (sigR_is (zs := zs) hb)
    have HC := Lib.hid (readC_yes hbk)
    have HLL := Lib.hid (readL_yes hbk)
    have HPA := Lib.hid (readL_path hbk)
    go_enter Try.func37, Try.ntmps37
    go_wp2_with fail
    generalize w.alloc (.cells #[.slice a ps.length cap] 31) = W at *
    refine (spSignals_is _ _ ps zs true _ hbk hrW huW).mono ?_
    rintro e w1 ⟨rfl, hb1⟩
    have c1 := hx0 ▸ hb1.cell (p := ⟨w.heap.size, 0, none⟩) hsz0
    have hB1 := hb0.trans (hb1.mono hb0.size)
    go_wp2_with fail
    refine (spDecode_any _ _ ps zs (waysF ps zs) (sigR ps zs) (pathL (sigR ps zs) zs.length) _ hb hl (hrW.later hb1) (huW.later hb1) HCT.out (ex_zero hb hl HCT.out HRS.out) (firstGood_is hb hl HCT.out HRS.out) (rests_lead HRS.out (sigSt_ahead hb zs)) HPA.out).mono ?_
    rintro e w2 ⟨v2, rfl, ho2, hb2⟩
    go_wp2
    go_ret2
    exact ⟨_, by rw [HC.out]; rfl, by rw [HLL.out]; exact ho2.base hB1.size, hB1.trans (hb2.mono hB1.size)⟩

theorem implFirst_any (v u : Value) (ps : List Ph) (zs : List Int) (w : World) (hr : RdPs w v ps) (hu : RdC w u zs) :
    Calls Try.prog 38 #[.agg #[v], u] w (ReadPost ps zs w) := by
  have hm := hu.rd.max
  unfold maxLen at hm
  obtain ⟨a, cap, rfl, -⟩ := hr.len
  have hb0 := (Below.refl w.heap.size w).alloc (Nat.le_refl _) (.cells #[.slice a ps.length cap] 31)
  have hrW := hr.later hb0
  have huW := hu.later hb0
  have hx0 : (w.alloc (.cells #[.slice a ps.length cap] 31)).cell? ⟨w.heap.size, 0, none⟩ = some (.slice a ps.length cap) := by simp [go_sem]
  have hsz0 : w.heap.size < (w.alloc (.cells #[.slice a ps.length cap] 31)).heap.size := by simp
  obtain ⟨-, au, cu, rfl, hcu⟩ := id hu
  cases hbk : bookB ps with
  | false =>
    have hC := Lib.hid (readC_no (rdB_no1 (zs := zs) hbk))
    go_enter Try.func38, Try.ntmps38
    go_wp2_with fail
    generalize w.alloc (.cells #[.slice a ps.length cap] 31) = W at *
    refine (implIsBook_is _ ps false _ hbk hrW).mono ?_
    rintro e w1 ⟨rfl, hb1⟩
    go_wp2
    go_ret2
    exact ⟨_, by rw [hC.out]; rfl, by rw [readL_no hC.out]; exact Own.nil _ _, hb0.trans (hb1.mono hb0.size)⟩
  | true =>
    cases hrd : readB zs with
    | false =>
      have hC := Lib.hid (readC_no (rdB_no2 (ps := ps) hrd))
      go_enter Try.func38, Try.ntmps38
      go_wp2_with fail
      generalize w.alloc (.cells #[.slice a ps.length cap] 31) = W at *
      refine (implIsBook_is _ ps true _ hbk hrW).mono ?_
      rintro e w1 ⟨rfl, hb1⟩
      go_wp2_with fail
      refine (areReadable_is _ zs false _ hrd (huW.later hb1)).mono ?_
      rintro e w2 ⟨rfl, rfl⟩
      go_wp2
      go_ret2
      exact ⟨_, by rw [hC.out]; rfl, by rw [readL_no hC.out]; exact Own.nil _ _, hb0.trans (hb1.mono hb0.size)⟩
    | true =>
      have hrb : rdB ps zs = true := by unfold rdB; rw [hbk, hrd]; rfl
      have hl := readB_len hrd
      have HRS := Lib.hid (sigR_is (zs := zs) hbk)
      have HC := Lib.hid (readC_yes hrb)
      have HLL := Lib.hid (readL_yes hrb)
      have HPA := Lib.hid (readL_path hrb)
      have HLS : Hid (∀ q, q < zs.length → (sigSt ps zs q).length ≤ 40) := Lib.hid fun q _ => Nat.le_trans (stepsOf_len _ _ _) (bookB_len hbk).2
      clear hrb
      go_enter Try.func38, Try.ntmps38
      go_wp2_with fail
      generalize w.alloc (.cells #[.slice a ps.length cap] 31) = W at *
      refine (implIsBook_is _ ps true _ hbk hrW).mono ?_
      rintro e w1 ⟨rfl, hb1⟩
      have c1 := hx0 ▸ hb1.cell (p := ⟨w.heap.size, 0, none⟩) hsz0
      go_wp2_with fail
      refine (areReadable_is _ zs true _ hrd (huW.later hb1)).mono ?_
      rintro e w2 ⟨rfl, rfl⟩
      have hB1 := hb0.trans (hb1.mono hb0.size)
      have hbD := (Below.refl w1.heap.size w1).drew
      have hs1 : w.heap.size < w1.drew.heap.size := by have := hb1.size; simp; omega
      have c1D : w1.drew.cell? ⟨w.heap.size, 0, none⟩ = some (.slice a ps.length cap) := by simpa [go_sem] using c1
      have K1 : Hid (∀ w2 : World, Below w1.drew.heap.size w1.drew w2 → w2.cell? ⟨w.heap.size, 0, none⟩ = some (.slice a ps.length cap)) := Lib.hid fun w2 h => by rw [h.cell (p := ⟨w.heap.size, 0, none⟩) hs1]; exact c1D
      have hrD := (hrW.later hb1).later hbD
      have huD := (huW.later hb1).later hbD
      have hB1D := hB1.drew
      go_wp2
      go_region_held3 (fun w' => w'.cell? ⟨w.heap.size, 0, none⟩ = some (.slice a ps.length cap))
        (first | go_keep | exact K1.out _ hb2 | exact K1.out _ hb3)
        (first | (go_at_call 70; refine (signalSteps_any _ _ ps zs w1.drew hbk hl hrD huD).mono ?_; rintro e w2 ⟨v2, rfl, hss, hb2⟩; obtain ⟨g2, rfl, hg2⟩ := hss.v) | (go_at_call 53; refine (leastList_any _ _ ps zs.length (sigSt ps zs) (sigR ps zs) (pathL (sigR ps zs) zs.length) _ hl (hrD.later hb2) hss (sigSt_ahead hbk zs) (sigSt_inside ps zs) HLS.out (bookB_len hbk).2 HRS.out HPA.out).mono ?_; rintro e w3 ⟨v3, rfl, ho3, hb3'⟩; have hb3 := hb2.trans (hb3'.mono hb2.size)))
      go_wp2
      go_ret2
      exact ⟨_, by rw [HC.out]; rfl, by rw [HLL.out]; exact ho3.base (by have := hb2.size; have := hB1D.size; omega), hB1D.trans (hb3.mono hB1D.size)⟩
end Go.Proofs.Ytpogpehbkgjiaaa
