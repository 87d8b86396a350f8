/- Chapter 3: the program's number of spellings. -/
import Derived.Test.YtpogpehbkgjiaaaSpP
namespace Go.Proofs.Ytpogpehbkgjiaaa
open Go.RowKit
set_option linter.unusedSimpArgs false
set_option linter.unusedVariables false

theorem implSpellings_any (v : Value) (ps : List Ph) (s : ByteArray) (w : World) (hs : s.size ≤ maxLen) (hr : RdPs w v ps) :
    Calls Try.prog 29 #[.agg #[v], .string s] w fun e w' => e = .returned (.tuple #[.int .i64 (spellN ps s), .bool (askB ps s)]) ∧ Below w.heap.size w w' := by
  obtain ⟨a, cap, rfl, -⟩ := hr.len
  have hb0 := (Below.refl w.heap.size w).alloc (Nat.le_refl _) (.cells #[.slice a ps.length cap] 31)
  have hrW := hr.later hb0
  have hx0 : (w.alloc (.cells #[.slice a ps.length cap] 31)).cell? ⟨w.heap.size, 0, none⟩ = some (.slice a ps.length cap) := by simp [go_sem]
  have hsz0 : w.heap.size < (w.alloc (.cells #[.slice a ps.length cap] 31)).heap.size := by simp
  cases hbk : bookB ps with
  | false =>
    have hC : Hid (askB ps s = false) := Lib.hid (askB_no1 hbk)
    have hf := Lib.hid (spellN_no hC.out)
    go_enter Try.func29, Try.ntmps29
    go_wp2_with fail
    generalize w.alloc (.cells #[.slice a ps.length cap] 31) = W at *
    refine (implIsBook_is _ ps false _ hbk hrW).mono ?_
    rintro e w1 ⟨rfl, hb1⟩
    go_wp2
    go_ret2
    exact ⟨by rw [hf.out, hC.out]; rfl, hb0.trans (hb1.mono hb0.size)⟩
  | true =>
    cases hms : msgB s with
    | false =>
      have hC : Hid (askB ps s = false) := Lib.hid (askB_no2 hms)
      have hf := Lib.hid (spellN_no hC.out)
      go_enter Try.func29, Try.ntmps29
      go_wp2_with fail
      generalize w.alloc (.cells #[.slice a ps.length cap] 31) = W at *
      refine (implIsBook_is _ ps true _ hbk hrW).mono ?_
      rintro e w1 ⟨rfl, hb1⟩
      go_wp2_with fail
      refine (isMessage_is s false _ hms hs).mono ?_
      rintro e w2 ⟨rfl, hb2⟩
      go_wp2
      go_ret2
      exact ⟨by rw [hf.out, hC.out]; rfl, hb0.trans ((hb1.trans (hb2.mono hb1.size)).mono hb0.size)⟩
    | true =>
      have hC : Hid (askB ps s = true) := Lib.hid (by unfold askB; rw [hbk, hms]; rfl)
      have hf := Lib.hid (spellN_yes hC.out)
      have HC := Lib.hid (spellF_is (s := s) hbk)
      have hl := msgB_len hms
      go_enter Try.func29, Try.ntmps29
      go_wp2_with fail
      generalize w.alloc (.cells #[.slice a ps.length cap] 31) = W at *
      refine (implIsBook_is _ ps true _ hbk hrW).mono ?_
      rintro e w1 ⟨rfl, hb1⟩
      go_wp2_with fail
      refine (isMessage_is s true _ hms hs).mono ?_
      rintro e w2 ⟨rfl, hb2⟩
      have hb12 := hb1.trans (hb2.mono hb1.size)
      have c2 := hx0 ▸ hb12.cell (p := ⟨w.heap.size, 0, none⟩) hsz0
      go_wp2_with fail
      refine (phrasesByText_any _ ps _ hbk (hrW.later hb12)).mono ?_
      rintro e w3 ⟨bm, rfl, hmap, -, hb3⟩
      go_wp2_with fail
      refine (textSteps_any bm s ps allS _ hbk hl hmap).mono ?_
      rintro e w4 ⟨v4, rfl, hss, hb4⟩
      obtain ⟨g4, rfl, -⟩ := hss.v
      go_wp2_with fail
      refine (countLists_any _ _ _ _ _ (by omega) hss (txSt_ahead hbk allS s) (txSt_len hbk allS s) HC.out).mono ?_
      rintro e w5 ⟨rfl, hb5⟩
      have hb34 := hb3.trans (hb4.mono hb3.size)
      have hb35 := hb34.trans (hb5.mono hb34.size)
      go_wp2
      go_ret2
      exact ⟨by rw [hf.out, hC.out]; rfl, hb0.trans ((hb12.trans (hb35.mono hb12.size)).mono hb0.size)⟩
end Go.Proofs.Ytpogpehbkgjiaaa
