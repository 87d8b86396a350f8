/- Chapter 3: the letters that are phrases by themselves: walks on both sides, and the exact law. -/
import Derived.Test.YtpogpehbkgjiaaaSqD
import Derived.Test.YtpogpehbkgjiaaaSpV
import Derived.Deep.RegionHeld3
namespace Go.Proofs.Ytpogpehbkgjiaaa
open Go.RowKit
set_option linter.unusedSimpArgs false
set_option linter.unusedVariables false

def lnB (ps : List Ph) : ByteArray := if bookB ps = true then loneB ps ps.length else ⟨#[]⟩
theorem lnB_no {ps : List Ph} (h : bookB ps = false) : lnB ps = ⟨#[]⟩ := by simp [lnB, h]
theorem lnB_yes {ps : List Ph} (h : bookB ps = true) : lnB ps = loneB ps ps.length := by simp [lnB, h]

set_option maxHeartbeats 1000000 in
set_option maxRecDepth 100000 in
theorem Join_nil (w : World) : Calls Try.prog 75 #[.slice none 0 0, .string ⟨#[]⟩] w fun e w' => e = .returned (.string ⟨#[]⟩) ∧ w' = w := by
  go_enter Try.func75, Try.ntmps75
  go_wp2
  go_ret
  exact ⟨rfl, rfl⟩

theorem catL_mk : ∀ L : List (List UInt8), catL (L.map fun l => (⟨l.toArray⟩ : ByteArray)) = L.flatten
  | [] => rfl
  | a :: L => by
    have ih := catL_mk L
    simp only [catL, List.map_cons, List.flatMap_cons, List.flatten_cons] at ih ⊢
    rw [ih]
theorem Join_row (B : Nat) (v : Value) (L : List (List UInt8)) (w : World) (hrow : w.ownsRow B 9 1 v L.length (L.map encStr)) (hN : L.length ≤ 1048576) (hlen : (L.flatten).length ≤ 1048576) :
    Calls Try.prog 75 #[v, .string ⟨#[]⟩] w fun e w' => e = .returned (.string ⟨(L.flatten).toArray⟩) ∧ Below w.heap.size w w' := by
  rcases hrow.2 with ⟨rfl, h0⟩ | ⟨g, cap, cur, rfl, hg, hb, hc, hm, hsz, htk⟩
  · have : L = [] := List.length_eq_zero_iff.1 h0
    subst this
    exact (Join_nil w).mono fun e w' ⟨he, hw⟩ => ⟨he, hw ▸ Below.refl _ _⟩
  · have hcat : catL (L.map fun l => (⟨l.toArray⟩ : ByteArray)) = L.flatten := catL_mk L
    have hlt : g < w.heap.size := by
      rcases Nat.lt_or_ge g w.heap.size with h' | h'
      · exact h'
      · simp [Array.getElem?_eq_none h'] at hb
    have h := Join_any g cap (L.map fun l => (⟨l.toArray⟩ : ByteArray)) w (fun j x hj => by
      have hjl : j < L.length := by
        have := (List.getElem?_eq_some_iff.1 hj).1
        simpa using this
      have h1 : (cur.toList.take (L.length * 1))[j]? = (L.map encStr)[j]? := by rw [htk]
      rw [List.getElem?_take_of_lt (by omega), List.getElem?_map] at h1
      rw [List.getElem?_map] at hj
      have hLj : L[j]? = some L[j] := List.getElem?_eq_getElem hjl
      rw [hLj] at h1 hj
      have hx : x = ⟨L[j].toArray⟩ := by simpa using hj.symm
      rw [Lib.cell_of_heap hb, hx]
      simpa [encStr] using h1) hlt (by simpa using hN) (by simpa using hc) (by rw [hcat]; exact hlen)
    rw [hcat, List.length_map] at h
    exact h

set_option maxHeartbeats 1000000 in
set_option maxRecDepth 100000 in
theorem implLone_any (v : Value) (ps : List Ph) (w : World) (hr : RdPs w v ps) :
    Calls Try.prog 42 #[.agg #[v]] w fun e w' => e = .returned (.tuple #[.string (lnB ps), .bool (bookB ps)]) ∧ Below w.heap.size w w' := by
  obtain ⟨a, cap, rfl, -⟩ := hr.len
  have hb0 := (Below.refl w.heap.size w).alloc (Nat.le_refl _) (.cells #[.slice a ps.length cap] 31)
  have hrW := hr.later hb0
  have hx0 : (w.alloc (.cells #[.slice a ps.length cap] 31)).cell? ⟨w.heap.size, 0, none⟩ = some (.slice a ps.length cap) := by simp [go_sem]
  have hsz0 : w.heap.size < (w.alloc (.cells #[.slice a ps.length cap] 31)).heap.size := by simp
  cases hbk : bookB ps with
  | false =>
    have hN := Lib.hid (lnB_no hbk)
    go_enter Try.func42, Try.ntmps42
    go_wp2_with fail
    generalize w.alloc (.cells #[.slice a ps.length cap] 31) = W at *
    refine (implIsBook_is _ ps false _ hbk hrW).mono ?_
    rintro e w1 ⟨rfl, hb1⟩
    go_wp2
    go_ret2
    exact ⟨by rw [hN.out]; rfl, hb0.trans (hb1.mono hb0.size)⟩
  | true =>
    have hN := Lib.hid (lnB_yes hbk)
    go_enter Try.func42, Try.ntmps42
    go_wp2_with fail
    generalize w.alloc (.cells #[.slice a ps.length cap] 31) = W at *
    refine (implIsBook_is _ ps true _ hbk hrW).mono ?_
    rintro e w1 ⟨rfl, hb1⟩
    have c1 := hx0 ▸ hb1.cell (p := ⟨w.heap.size, 0, none⟩) hsz0
    have hB1 := hb0.trans (hb1.mono hb0.size)
    go_wp2_with fail
    refine (lonePhrases_any _ ps _ hbk (hrW.later hb1)).mono ?_
    rintro e w2 ⟨bm, rfl, ⟨D, n, hn, hown, htm⟩, hbm, hb2⟩
    have hB2 := hB1.trans (hb2.mono hB1.size)
    have HOWN := Lib.hid hown
    have HTM := Lib.hid htm
    have HSZ : Hid (Maps.size D ≤ 40) := Lib.hid (Nat.le_trans hown.size_le hn)
    clear hown htm
    go_wp2_with fail
    refine ((callsIn_wide (n := 5)).1 (Try.maps_Keys_73 (some bm) w2)).mono ?_
    rintro e w3 ⟨rfl, rfl⟩
    have hb3 := (Below.refl w2.heap.size w2).alloc (Nat.le_refl _) (.cells #[.map (some bm)] 58)
    have hB3 := hB2.trans (hb3.mono hB2.size)
    go_wp2_with fail
    refine ((callsIn_wide (n := 5)).1 (Try.slices_Sorted_keys_72_73 bm n D _ w2 HOWN.out (by have := HSZ.out; unfold maxLen; omega) (by have := HSZ.out; omega))).mono ?_
    rintro e w4 ⟨v4, ss, rfl, hS, hrow, -, hb4⟩
    have hB4 := hB3.trans (hb4.mono hB3.size)
    have hsl : ss.length = (loneT ps ps.length).length := by
      rw [← lone_sort hbk HOWN.out HTM.out hS, List.length_mergeSort]
    rw [lone_sort hbk HOWN.out HTM.out hS, hsl] at hrow
    have HROW := Lib.hid hrow
    have HL1 : Hid ((loneT ps ps.length).length ≤ 1048576) := Lib.hid (by
      have h1 : (loneT ps ps.length).length ≤ ps.length := by
        unfold loneT; rw [List.length_map]
        have := List.length_filter_le (loneS ps) (List.range ps.length)
        simpa using this
      have := (bookB_len hbk).2; omega)
    have HL2 : Hid (((loneT ps ps.length).flatten).length ≤ 1048576) := Lib.hid (by
      have h1 := loneB_size ps ps.length
      have h2 : (loneB ps ps.length).size = ((loneT ps ps.length).flatten).length := by simp [loneB, ByteArray.size]
      have := (bookB_len hbk).2; omega)
    obtain ⟨a4, n4, c4, rfl⟩ : ∃ a4 n4 c4, v4 = .slice a4 n4 c4 := by
      rcases hrow.2 with ⟨h, -⟩ | ⟨g, cap, cur, h, -⟩
      · exact ⟨_, _, _, h⟩
      · exact ⟨_, _, _, h⟩
    clear hrow hS hsl
    go_wp2_with fail
    refine (Join_row _ _ (loneT ps ps.length) w4 HROW.out HL1.out HL2.out).mono ?_
    rintro e w5 ⟨rfl, hb5⟩
    go_wp2
    go_ret2
    exact ⟨by rw [hN.out]; rfl, hB4.trans (hb5.mono hB4.size)⟩

set_option maxHeartbeats 1000000 in
theorem specLone_any (v : Value) (ps : List Ph) (w : World) (hr : RdPs w v ps) :
    Calls Try.prog 41 #[.agg #[v]] w fun e w' => e = .returned (.tuple #[.string (lnB ps), .bool (bookB ps)]) ∧ Below w.heap.size w w' := by
  obtain ⟨a, cap, rfl, -⟩ := hr.len
  have hb0 := (Below.refl w.heap.size w).alloc (Nat.le_refl _) (.cells #[.slice a ps.length cap] 31)
  have hrW := hr.later hb0
  have hx0 : (w.alloc (.cells #[.slice a ps.length cap] 31)).cell? ⟨w.heap.size, 0, none⟩ = some (.slice a ps.length cap) := by simp [go_sem]
  have hsz0 : w.heap.size < (w.alloc (.cells #[.slice a ps.length cap] 31)).heap.size := by simp
  cases hbk : bookB ps with
  | false =>
    have hN := Lib.hid (lnB_no hbk)
    go_enter Try.func41, Try.ntmps41
    go_wp2_with fail
    generalize w.alloc (.cells #[.slice a ps.length cap] 31) = W at *
    refine (bkGood_is _ ps false _ hbk hrW).mono ?_
    rintro e w1 ⟨rfl, hb1⟩
    go_wp2
    go_ret2
    exact ⟨by rw [hN.out]; rfl, hb0.trans (hb1.mono hb0.size)⟩
  | true =>
    have hN := Lib.hid (lnB_yes hbk)
    have HB := Lib.hid hbk
    go_enter Try.func41, Try.ntmps41
    go_wp2_with fail
    generalize w.alloc (.cells #[.slice a ps.length cap] 31) = W at *
    refine (bkGood_is _ ps true _ hbk hrW).mono ?_
    rintro e w1 ⟨rfl, hb1⟩
    have c1 := hx0 ▸ hb1.cell (p := ⟨w.heap.size, 0, none⟩) hsz0
    have hB1 := hb0.trans (hb1.mono hb0.size)
    have HR := Lib.hid (hrW.later hb1)
    obtain ⟨np, hnp⟩ : ∃ np, np = ps.length := ⟨_, rfl⟩
    have HNP := Lib.hid hnp
    have HLN := Lib.hid (bookB_len hbk).2
    rw [← hnp] at c1 HR ⊢
    clear hnp hrW hr hx0 hbk
    go_wp2
    go_loopw [4, 13] (fun sv i wr => ∃ k : Nat, k ≤ np ∧ i = .int .i64 k ∧ sv = .string (loneB ps k) ∧ Below w1.heap.size w1 wr) (fun _ i _ => np - (intOf i).toNat)
    case atStart => exact ⟨0, Nat.zero_le _, rfl, rfl, Below.refl _ _⟩
    case round =>
      obtain ⟨k, hk, rfl, rfl, hbl⟩ := hrel
      have hszb := loneB_size ps k
      by_cases hlt : k < np
      · obtain ⟨g, off, us, hag, hg, hts, hd0, hd1, hru⟩ := (HR.out.below hbl (Nat.le_refl _)).at_ HNP.out k hlt
        subst hag
        obtain ⟨ua, uc, rfl⟩ := hru.rd.len
        have hkI : (k : Int) < (np : Int) := by omega
        have htx := book_txt HB.out (i := k) (by rw [← HNP.out]; exact hlt)
        have hnl : np ≤ 40 := by rw [HNP.out]; exact HLN.out
        obtain ⟨tn, htn⟩ : ∃ tn, tn = (phAt ps k).txt.size := ⟨_, rfl⟩
        have HTN := Lib.hid htn
        clear hru
        cases hs : loneS ps k with
        | true =>
          have h1 : (phAt ps k).txt.size = 1 := by
            have : (phAt ps k).txt.size ≤ 1 := by simpa [loneS] using hs
            omega
          have HST := Lib.hid (loneB_yes hs)
          clear hs htn
          go_wp2
          go_roundw
          case rel => exact ⟨k + 1, by omega, by go_num, by rw [HST.out], hbl.alloc hbl.size _⟩
          case measure => simp [intOf]; omega
        | false =>
          have h1 : ¬ (phAt ps k).txt.size ≤ 1 := by simpa [loneS] using hs
          have h2 : (((phAt ps k).txt.size : Int) == 1) = false := beq_eq_false_iff_ne.2 (by omega)
          have HST := Lib.hid (loneB_no hs)
          clear hs htn
          go_wp2
          go_roundw
          case rel => exact ⟨k + 1, by omega, by go_num, by rw [HST.out], hbl.alloc hbl.size _⟩
          case measure => simp [intOf]; omega
      · obtain rfl : k = np := by omega
        go_wp2
        go_ret2
        exact ⟨by rw [hN.out, ← HNP.out]; rfl, hB1.trans (hbl.mono hB1.size)⟩
end Go.Proofs.Ytpogpehbkgjiaaa
