/- Chapter 3: the spelled list, on both sides. -/
import Derived.Test.YtpogpehbkgjiaaaSpS
import Derived.Test.YtpogpehbkgjiaaaSpN
namespace Go.Proofs.Ytpogpehbkgjiaaa
open Go.RowKit
set_option linter.unusedSimpArgs false
set_option linter.unusedVariables false

theorem txRest_exists (ps : List Ph) (s : ByteArray) : ∃ r, bookB ps = true → Rests ps s.size (txSt ps allS s) r := by
  by_cases h : bookB ps = true
  · obtain ⟨r, hr⟩ := rests_exists ps (txSt_ahead h allS s)
    exact ⟨r, fun _ => hr⟩
  · exact ⟨fun _ => noRst, fun e => absurd e h⟩
noncomputable def txR (ps : List Ph) (s : ByteArray) : Nat → Rst := Classical.choose (txRest_exists ps s)
theorem txR_is {ps : List Ph} {s : ByteArray} (h : bookB ps = true) : Rests ps s.size (txSt ps allS s) (txR ps s) := Classical.choose_spec (txRest_exists ps s) h
noncomputable def slC (ps : List Ph) (s : ByteArray) : Bool := askB ps s && (txR ps s 0).ex
noncomputable def slL (ps : List Ph) (s : ByteArray) : List Int := if slC ps s = true then pathL (txR ps s) s.size else []
theorem slC_no {ps : List Ph} {s : ByteArray} (h : askB ps s = false) : slC ps s = false := by simp [slC, h]
theorem slC_yes {ps : List Ph} {s : ByteArray} (h : askB ps s = true) : slC ps s = (txR ps s 0).ex := by simp [slC, h]
theorem slL_no {ps : List Ph} {s : ByteArray} (h : slC ps s = false) : slL ps s = [] := by simp [slL, h]
theorem slL_yes {ps : List Ph} {s : ByteArray} (h : askB ps s = true) : slL ps s = if (txR ps s 0).ex = true then pathL (txR ps s) s.size else [] := by unfold slL; rw [slC_yes h]
theorem slL_path {ps : List Ph} {s : ByteArray} (h : askB ps s = true) (hx : (txR ps s 0).ex = true) : PathTo (txR ps s) s.size 0 (pathL (txR ps s) s.size) := pathL_is (txR_is (askB_book h)) (txSt_ahead (askB_book h) allS s) hx
theorem slL_len (ps : List Ph) (s : ByteArray) : (slL ps s).length ≤ 40 := by
  unfold slL
  split
  · next h =>
    have h1 : askB ps s = true := by simp [slC] at h; exact h.1
    rw [slC_yes h1] at h
    have := (slL_path h1 h).len
    have := msgB_len (askB_msg h1)
    omega
  · simp
def SpellPost (ps : List Ph) (s : ByteArray) (w : World) (e : Ending) (w' : World) : Prop := ∃ v, e = .returned (.tuple #[v, .bool (slC ps s)]) ∧ Own w' w.heap.size v (slL ps s) ∧ Below w.heap.size w w'

theorem specSpell_any (v : Value) (ps : List Ph) (s : ByteArray) (w : World) (hs : s.size ≤ maxLen) (hr : RdPs w v ps) :
    Calls Try.prog 16 #[.agg #[v], .string s] w (SpellPost ps s w) := by
  obtain ⟨a, cap, rfl, -⟩ := hr.len
  have hb0 := (Below.refl w.heap.size w).alloc (Nat.le_refl _) (.cells #[.slice a ps.length cap] 31)
  have hrW := hr.later hb0
  have hx0 : (w.alloc (.cells #[.slice a ps.length cap] 31)).cell? ⟨w.heap.size, 0, none⟩ = some (.slice a ps.length cap) := by simp [go_sem]
  have hsz0 : w.heap.size < (w.alloc (.cells #[.slice a ps.length cap] 31)).heap.size := by simp
  cases hbk : askB ps s with
  | false =>
    have hC := Lib.hid (slC_no hbk)
    go_enter Try.func16, Try.ntmps16
    go_wp2_with fail
    generalize w.alloc (.cells #[.slice a ps.length cap] 31) = W at *
    refine (spAsked_is _ ps s false _ hbk hs hrW).mono ?_
    rintro e w1 ⟨rfl, hb1⟩
    go_wp2
    go_ret2
    exact ⟨_, by rw [hC.out]; rfl, by rw [slL_no hC.out]; exact Own.nil _ _, hb0.trans (hb1.mono hb0.size)⟩
  | true =>
    have hb := askB_book hbk
    have hl := msgB_len (askB_msg hbk)
    have HC := Lib.hid (slC_yes hbk)
    have HLL := Lib.hid (slL_yes hbk)
    have HPA := Lib.hid (slL_path hbk)
    go_enter Try.func16, Try.ntmps16
    go_wp2_with fail
    generalize w.alloc (.cells #[.slice a ps.length cap] 31) = W at *
    refine (spAsked_is _ ps s true _ hbk hs hrW).mono ?_
    rintro e w1 ⟨rfl, hb1⟩
    have c1 := hx0 ▸ hb1.cell (p := ⟨w.heap.size, 0, none⟩) hsz0
    have hB1 := hb0.trans (hb1.mono hb0.size)
    go_wp2_with fail
    refine (spSpell_any _ ps s (txR ps s) (pathL (txR ps s) s.size) _ hb hl (hrW.later hb1) (txR_is hb) HPA.out).mono ?_
    rintro e w2 ⟨v2, rfl, ho2, hb2⟩
    go_wp2
    go_ret2
    exact ⟨_, by rw [HC.out]; rfl, by rw [HLL.out]; exact ho2.base hB1.size, hB1.trans (hb2.mono hB1.size)⟩

set_option maxHeartbeats 1000000 in
theorem implSpell_any (v : Value) (ps : List Ph) (s : ByteArray) (w : World) (hs : s.size ≤ maxLen) (hr : RdPs w v ps) :
    Calls Try.prog 18 #[.agg #[v], .string s] w (SpellPost ps s w) := by
  obtain ⟨a, cap, rfl, -⟩ := hr.len
  have hb0 := (Below.refl w.heap.size w).alloc (Nat.le_refl _) (.cells #[.slice a ps.length cap] 31)
  have hrW := hr.later hb0
  have hx0 : (w.alloc (.cells #[.slice a ps.length cap] 31)).cell? ⟨w.heap.size, 0, none⟩ = some (.slice a ps.length cap) := by simp [go_sem]
  have hsz0 : w.heap.size < (w.alloc (.cells #[.slice a ps.length cap] 31)).heap.size := by simp
  cases hbk : bookB ps with
  | false =>
    have hC := Lib.hid (slC_no (askB_no1 (s := s) hbk))
    go_enter Try.func18, Try.ntmps18
    go_wp2_with fail
    generalize w.alloc (.cells #[.slice a ps.length cap] 31) = W at *
    refine (implIsBook_is _ ps false _ hbk hrW).mono ?_
    rintro e w1 ⟨rfl, hb1⟩
    go_wp2
    go_ret2
    exact ⟨_, by rw [hC.out]; rfl, by rw [slL_no hC.out]; exact Own.nil _ _, hb0.trans (hb1.mono hb0.size)⟩
  | true =>
    cases hms : msgB s with
    | false =>
      have hC := Lib.hid (slC_no (askB_no2 (ps := ps) hms))
      go_enter Try.func18, Try.ntmps18
      go_wp2_with fail
      generalize w.alloc (.cells #[.slice a ps.length cap] 31) = W at *
      refine (implIsBook_is _ ps true _ hbk hrW).mono ?_
      rintro e w1 ⟨rfl, hb1⟩
      go_wp2_with fail
      refine (isMessage_is s false _ hms hs).mono ?_
      rintro e w2 ⟨rfl, hb2⟩
      go_wp2
      go_ret2
      exact ⟨_, by rw [hC.out]; rfl, by rw [slL_no hC.out]; exact Own.nil _ _, hb0.trans ((hb1.trans (hb2.mono hb1.size)).mono hb0.size)⟩
    | true =>
      have hrb : askB ps s = true := by unfold askB; rw [hbk, hms]; rfl
      have hl := msgB_len hms
      have HC := Lib.hid (slC_yes hrb)
      have HLL := Lib.hid (slL_yes hrb)
      have HPA := Lib.hid (slL_path hrb)
      have HRS := Lib.hid (txR_is (s := s) hbk)
      clear hrb
      go_enter Try.func18, Try.ntmps18
      go_wp2_with fail
      generalize w.alloc (.cells #[.slice a ps.length cap] 31) = W at *
      refine (implIsBook_is _ ps true _ hbk hrW).mono ?_
      rintro e w1 ⟨rfl, hb1⟩
      go_wp2_with fail
      refine (isMessage_is s true _ hms hs).mono ?_
      rintro e w2 ⟨rfl, hb2⟩
      have hb12 := hb1.trans (hb2.mono hb1.size)
      have c1 := hx0 ▸ hb12.cell (p := ⟨w.heap.size, 0, none⟩) hsz0
      have hB1 := hb0.trans (hb12.mono hb0.size)
      have hbD := (Below.refl w2.heap.size w2).drew
      have hs1 : w.heap.size < w2.drew.heap.size := by have := hb12.size; simp; omega
      have c1D : w2.drew.cell? ⟨w.heap.size, 0, none⟩ = some (.slice a ps.length cap) := by simpa [go_sem] using c1
      have K1 : Hid (∀ w3 : World, Below w2.drew.heap.size w2.drew w3 → w3.cell? ⟨w.heap.size, 0, none⟩ = some (.slice a ps.length cap)) := Lib.hid fun w3 h => by rw [h.cell (p := ⟨w.heap.size, 0, none⟩) hs1]; exact c1D
      have hrD := (hrW.later hb12).later hbD
      have hB1D := hB1.drew
      go_wp2
      go_region_held3 (fun w' => w'.cell? ⟨w.heap.size, 0, none⟩ = some (.slice a ps.length cap))
        (first | go_keep | exact K1.out _ hb3 | exact K1.out _ hb34 | exact K1.out _ hb35)
        (first | (go_at_call 55; refine (phrasesByText_any _ ps w2.drew hbk hrD).mono ?_; rintro e w3 ⟨bm, rfl, hmap, hbm, hb3⟩) | (go_at_call 54; refine (textSteps_any bm s ps allS _ hbk hl hmap).mono ?_; rintro e w4 ⟨v4, rfl, hss, hb4⟩; obtain ⟨g2, rfl, hg2⟩ := hss.v; have hb34 := hb3.trans (hb4.mono hb3.size)) | (go_at_call 53; refine (leastList_any _ _ ps s.size (txSt ps allS s) (txR ps s) (pathL (txR ps s) s.size) _ (by omega) (hrD.later hb34) hss (txSt_ahead hbk allS s) (txSt_inside ps allS s) (txSt_len hbk allS s) (bookB_len hbk).2 HRS.out HPA.out).mono ?_; rintro e w5 ⟨v5, rfl, ho5, hb5⟩; have hb35 := hb34.trans (hb5.mono hb34.size)))
      go_wp2
      go_ret2
      exact ⟨_, by rw [HC.out]; rfl, by rw [HLL.out]; exact ho5.base (by have := hb34.size; have := hB1D.size; omega), hB1D.trans (hb35.mono hB1D.size)⟩
end Go.Proofs.Ytpogpehbkgjiaaa
