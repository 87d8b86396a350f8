/- Chapter 2: whether a book is read in one way, by the specification. -/
import Derived.Test.YtpogpehbkgjiaaaRw6
import Derived.Test.YtpogpehbkgjiaaaRw7
namespace Go.Proofs.Ytpogpehbkgjiaaa
open Go.RowKit
set_option linter.unusedSimpArgs false
set_option linter.unusedVariables false

set_option maxHeartbeats 1000000 in
theorem specOne_any (v : Value) (ps : List Ph) (w : World) (hr : RdPs w v ps) :
    Calls Try.prog 45 #[.agg #[v]] w fun e w' => e = .returned (.tuple #[.bool (oneC ps), .bool (bookB ps)]) ∧ Below w.heap.size w w' := by
  obtain ⟨a, cap, rfl, -⟩ := hr.len
  have hb0 := (Below.refl w.heap.size w).alloc (Nat.le_refl _) (.cells #[.slice a ps.length cap] 31)
  have hrW := hr.later hb0
  have hx0 : (w.alloc (.cells #[.slice a ps.length cap] 31)).cell? ⟨w.heap.size, 0, none⟩ = some (.slice a ps.length cap) := by simp [go_sem]
  have hsz0 : w.heap.size < (w.alloc (.cells #[.slice a ps.length cap] 31)).heap.size := by simp
  cases hbk : bookB ps with
  | false =>
    have hN := Lib.hid (oneC_no hbk)
    go_enter Try.func45, Try.ntmps45
    go_wp2_with fail
    generalize w.alloc (.cells #[.slice a ps.length cap] 31) = W at *
    refine (bkGood_is _ ps false _ hbk hrW).mono ?_
    rintro e w1 ⟨rfl, hb1⟩
    go_wp2
    go_ret2
    exact ⟨by rw [hN.out]; rfl, hb0.trans (hb1.mono hb0.size)⟩
  | true =>
    have hN := Lib.hid (oneC_yes hbk)
    go_enter Try.func45, Try.ntmps45
    go_wp2_with fail
    generalize w.alloc (.cells #[.slice a ps.length cap] 31) = W at *
    refine (bkGood_is _ ps true _ hbk hrW).mono ?_
    rintro e w1 ⟨rfl, hb1⟩
    have c1 := hx0 ▸ hb1.cell (p := ⟨w.heap.size, 0, none⟩) hsz0
    have hB1 := hb0.trans (hb1.mono hb0.size)
    go_wp2_with fail
    refine (bkRests_any _ ps _ hbk (hrW.later hb1)).mono ?_
    rintro e w2 ⟨a2, m2, c2, L, rfl, hr2, hone, hlen⟩
    have HM : Hid (m2 = L.length) := Lib.hid (by
      obtain ⟨x, y, h, -⟩ := hr2.len
      simp only [Value.slice.injEq] at h
      exact h.2.1)
    have hm2 : m2 ≤ 160 := by rw [HM.out]; exact hlen
    have HR2 := Lib.hid hr2
    clear hr2 hlen
    go_wp2
    go_loopw [12] (fun s wr => ∃ k : Nat, k ≤ m2 ∧ s = .int .i64 k ∧ wr = w2 ∧ Hid (∀ j, j < k → L[j]?.getD [] ≠ [])) (fun s wr => m2 - (intOf s).toNat)
    case atStart => exact ⟨0, Nat.zero_le _, rfl, rfl, Lib.hid fun j hj => by omega⟩
    case round =>
      obtain ⟨k, hk, rfl, hwr, hall⟩ := hrel
      have hw2 := hwr.symm
      clear hwr
      subst hw2
      by_cases hlt : k < m2
      · obtain ⟨g, u, rfl, hcu, hru, -⟩ := HR2.out.at_ k hlt
        obtain ⟨-, au, cu, rfl, hcau⟩ := id hru
        obtain ⟨ul, hul⟩ : ∃ ul, ul = (L[k]?.getD []).length := ⟨_, rfl⟩
        have HUL := Lib.hid hul
        rw [← hul] at hcu
        clear hru hul hcau
        have hkI : (k : Int) < (m2 : Int) := by omega
        by_cases hz : ul = 0
        · have HE : Hid (oneB ps = false) := Lib.hid (by
            have e : L[k]?.getD [] = [] := List.length_eq_zero_iff.1 (by rw [← HUL.out]; exact hz)
            have hkl : k < L.length := by rw [← HM.out]; exact hlt
            rw [List.getElem?_eq_getElem hkl] at e
            have e' : L[k] = [] := e
            rw [hone.out, inL_yes (e' ▸ List.getElem_mem hkl)]; rfl)
          subst hz
          go_wp2
          go_ret2
          exact ⟨by rw [hN.out, HE.out]; rfl, hB1.trans (HR2.out.below.mono hB1.size)⟩
        · have hz2 : ((ul : Int) == 0) = false := beq_eq_false_iff_ne.2 (by omega)
          have hall' : Hid (∀ j, j < k + 1 → L[j]?.getD [] ≠ []) := Lib.hid fun j hj => by
            by_cases e : j = k
            · subst e; intro e; rw [e] at HUL; exact hz HUL.out
            · exact hall.out j (by omega)
          clear hz
          go_wp2
          go_roundw
          case rel => exact ⟨k + 1, by omega, by go_num, by first | rfl | trivial, hall'⟩
          case measure => simp [intOf]; omega
      · have HE : Hid (oneB ps = true) := Lib.hid (by
          rw [hone.out, inL_no fun h => ?_]
          · rfl
          · obtain ⟨j, hj, e⟩ := List.mem_iff_getElem.1 h
            have := hall.out j (by have := HM.out; omega)
            rw [List.getElem?_eq_getElem hj] at this
            exact this e)
        have hkI : ¬ ((k : Int) < (m2 : Int)) := by omega
        go_wp2
        go_ret2
        exact ⟨by rw [hN.out, HE.out]; rfl, hB1.trans (HR2.out.below.mono hB1.size)⟩
end Go.Proofs.Ytpogpehbkgjiaaa
