/- Chapter 2: whether a book is read in one way, by the program. -/
import Derived.Test.YtpogpehbkgjiaaaRw4
import Derived.Test.YtpogpehbkgjiaaaSp5
namespace Go.Proofs.Ytpogpehbkgjiaaa
open Go.RowKit
set_option linter.unusedSimpArgs false
set_option linter.unusedVariables false

noncomputable def oneC (ps : List Ph) : Bool := bookB ps && oneB ps
theorem oneC_no {ps : List Ph} (h : bookB ps = false) : oneC ps = false := by simp [oneC, h]
theorem oneC_yes {ps : List Ph} (h : bookB ps = true) : oneC ps = oneB ps := by simp [oneC, h]
theorem hasTwo_is (v : Value) (ps : List Ph) (b : Bool) (w : World) (h : oneB ps = b) (hb : bookB ps = true) (hr : RdPs w v ps) :
    Calls Try.prog 78 #[v] w fun e w' => e = .returned (.bool (!b)) ∧ Below w.heap.size w w' := by subst h; exact hasTwo_any v ps w hb hr

set_option maxHeartbeats 1000000 in
theorem implOne_any (v : Value) (ps : List Ph) (w : World) (hr : RdPs w v ps) :
    Calls Try.prog 46 #[.agg #[v]] w fun e w' => e = .returned (.tuple #[.bool (oneC ps), .bool (bookB ps)]) ∧ Below w.heap.size w w' := by
  obtain ⟨a, cap, rfl, -⟩ := hr.len
  have hb0 := (Below.refl w.heap.size w).alloc (Nat.le_refl _) (.cells #[.slice a ps.length cap] 31)
  have hrW := hr.later hb0
  have hx0 : (w.alloc (.cells #[.slice a ps.length cap] 31)).cell? ⟨w.heap.size, 0, none⟩ = some (.slice a ps.length cap) := by simp [go_sem]
  have hsz0 : w.heap.size < (w.alloc (.cells #[.slice a ps.length cap] 31)).heap.size := by simp
  cases hbk : bookB ps with
  | false =>
    have hN := Lib.hid (oneC_no hbk)
    go_enter Try.func46, Try.ntmps46
    go_wp2_with fail
    generalize w.alloc (.cells #[.slice a ps.length cap] 31) = W at *
    refine (implIsBook_is _ ps false _ hbk hrW).mono ?_
    rintro e w1 ⟨rfl, hb1⟩
    go_wp2
    go_ret2
    exact ⟨by rw [hN.out]; rfl, hb0.trans (hb1.mono hb0.size)⟩
  | true =>
    have hN := Lib.hid (oneC_yes hbk)
    go_enter Try.func46, Try.ntmps46
    go_wp2_with fail
    generalize w.alloc (.cells #[.slice a ps.length cap] 31) = W at *
    refine (implIsBook_is _ ps true _ hbk hrW).mono ?_
    rintro e w1 ⟨rfl, hb1⟩
    have c1 := hx0 ▸ hb1.cell (p := ⟨w.heap.size, 0, none⟩) hsz0
    have hB1 := hb0.trans (hb1.mono hb0.size)
    obtain ⟨b1, hb1e⟩ : ∃ b1, oneB ps = b1 := ⟨_, rfl⟩
    have HB1 := Lib.hid hb1e
    clear hb1e
    go_wp2_with fail
    refine (hasTwo_is _ ps b1 _ HB1.out hbk (hrW.later hb1)).mono ?_
    rintro e w2 ⟨rfl, hb2⟩
    go_wp2
    go_ret2
    exact ⟨by rw [hN.out, HB1.out]; first | rfl | (simp; done) | (cases b1 <;> rfl), hB1.trans (hb2.mono hB1.size)⟩
end Go.Proofs.Ytpogpehbkgjiaaa
