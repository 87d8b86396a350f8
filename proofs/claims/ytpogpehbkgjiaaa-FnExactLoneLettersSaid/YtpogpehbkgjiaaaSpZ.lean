/- Chapter 3: the phrases of single letters. -/
import Derived.Test.YtpogpehbkgjiaaaSpO
import Derived.Maps.RangeWalk
namespace Go.Proofs.Ytpogpehbkgjiaaa
open Go.RowKit
set_option linter.unusedSimpArgs false
set_option linter.unusedVariables false

def loneS (ps : List Ph) : Nat → Bool := fun i => decide ((phAt ps i).txt.size ≤ 1)
def leftS (ps : List Ph) (left : Lit → Bool) : Nat → Bool := fun i => decide ((phAt ps i).txt.size ≤ 1) || left (.string (phAt ps i).txt.data.toList)
theorem keyStr_inv {P : Program} {k : TypeId} (hk : P.underlying k = some .string) {key : Value} {kl : Lit} (h : keyOf P k key = some kl) : ∃ x : ByteArray, key = .string x ∧ kl = .string x.data.toList := by
  cases key <;> simp [keyOf, hk, mapKey] at h
  obtain ⟨_, rfl⟩ := h
  exact ⟨_, rfl, rfl⟩
theorem same_str {x y : List UInt8} : (Lit.string x).sameKey (.string y) = true ↔ x = y := by
  constructor
  · intro h
    have := WideAt.sameKey_eq h
    injection this
  · intro h
    subst h
    exact WideAt.sameKey_self (str_key x)
theorem TxtMap.begun {ps : List Ph} {D : DataW Unit} (h : TxtMap ps allS D) (hd : DistTx ps) : TxtMap ps (leftS ps (Maps.has D)) D :=
  h.congr fun i hi => by
    have h1 := (h (phAt ps i).txt.data.toList).1
    rw [lookI_of hd hi rfl rfl] at h1
    simp [leftS, h1]
theorem TxtMap.struck {ps : List Ph} {D : DataW Unit} {left : Lit → Bool} {x : ByteArray} (h : TxtMap ps (leftS ps left) D) (hx : 1 < x.size) :
    TxtMap ps (leftS ps fun z => left z && !z.sameKey (.string x.data.toList)) (D.del (.string x.data.toList)) := by
  intro y
  by_cases e : y = x.data.toList
  · subst e
    have hl : lookI ps (leftS ps fun z => left z && !z.sameKey (.string x.data.toList)) x.data.toList = none := by
      unfold lookI
      rw [List.find?_eq_none]
      intro i hi
      by_cases ht : (phAt ps i).txt.data.toList = x.data.toList
      · have he : (phAt ps i).txt = x := bytes_ext ht
        have hs : (Lit.string x.data.toList).sameKey (.string x.data.toList) = true := same_str.2 rfl
        simp [leftS, he, hs]; omega
      · simp [ht]
    rw [hl]
    exact ⟨Maps.has_del_same, fun i hi => by cases hi⟩
  · have hl : lookI ps (leftS ps fun z => left z && !z.sameKey (.string x.data.toList)) y = lookI ps (leftS ps left) y := lookI_congr fun i hi ht => by
      have hs : (Lit.string (phAt ps i).txt.data.toList).sameKey (.string x.data.toList) = false := by
        cases h : (Lit.string (phAt ps i).txt.data.toList).sameKey (.string x.data.toList) with
        | false => rfl
        | true => exact absurd (ht.symm.trans (same_str.1 h)) e
      simp [leftS, hs]
    have hne : (Lit.string y) ≠ .string x.data.toList := fun h => e (by injection h)
    rw [hl, Maps.has_del_other hne]
    refine ⟨(h y).1, fun i hi => ?_⟩
    rw [Maps.atKey_del_other hne]
    exact (h y).2 i hi
theorem TxtMap.stays {ps : List Ph} {D : DataW Unit} {left : Lit → Bool} {x : ByteArray} (h : TxtMap ps (leftS ps left) D) (hx : ¬ 1 < x.size) :
    TxtMap ps (leftS ps fun z => left z && !z.sameKey (.string x.data.toList)) D := by
  refine h.congr fun i hi => ?_
  unfold leftS
  by_cases ht : (phAt ps i).txt.data.toList = x.data.toList
  · have he : (phAt ps i).txt = x := bytes_ext ht
    have h1 : decide ((phAt ps i).txt.size ≤ 1) = true := by rw [he]; simp; omega
    rw [h1]; rfl
  · have hs : (Lit.string (phAt ps i).txt.data.toList).sameKey (.string x.data.toList) = false := by
      cases h : (Lit.string (phAt ps i).txt.data.toList).sameKey (.string x.data.toList) with
      | false => rfl
      | true => exact absurd (same_str.1 h) ht
    simp [hs]
theorem TxtMap.ended {ps : List Ph} {D : DataW Unit} {left : Lit → Bool} (h : TxtMap ps (leftS ps left) D) (hl : ∀ z, left z = false) : TxtMap ps (loneS ps) D :=
  h.congr fun i hi => by simp [leftS, loneS, hl]

set_option maxRecDepth 100000 in
set_option maxHeartbeats 1000000 in
theorem lonePhrases_any (v : Value) (ps : List Ph) (w : World) (hb : bookB ps = true) (hr : RdPs w v ps) :
    Calls Try.prog 74 #[.agg #[v]] w fun e w' => ∃ b, e = .returned (.map (some b)) ∧ MapRd w' b ps (loneS ps) ∧ w.heap.size ≤ b ∧ Below w.heap.size w w' := by
  obtain ⟨a, cap, rfl, -⟩ := hr.len
  have hb0 := (Below.refl w.heap.size w).alloc (Nat.le_refl _) (.cells #[.slice a ps.length cap] 31)
  have hrW := hr.later hb0
  go_enter Try.func74, Try.ntmps74
  go_wp2_with fail
  generalize w.alloc (.cells #[.slice a ps.length cap] 31) = W at *
  refine (phrasesByText_any _ ps _ hb hrW).mono ?_
  rintro e w1 ⟨b, rfl, ⟨D0, n, hn, hown, htm⟩, hbm, hb1⟩
  have HD := Lib.hid (book_dist hb)
  clear hrW hr hb
  go_wp2_with (at_range; refine wpList_range_own _ rfl _ 58 rfl 9 3 Try_law Try.underlying58 _ b n _ rfl hown ?_; intro w0 hrg0 hg0 hs0)
  go_frame
  have hb2 := hb1.grown hg0 hb1.size (fun k hk => by cases hk)
  go_loopw [4] (fun _ wr => ∃ (D : DataW Unit) (left : Lit → Bool) (cnt : Nat), wr.ranges Try.prog 9 (plainElem Try.prog 3) b w1.heap.size n D left cnt ∧ TxtMap ps (leftS ps left) D ∧ Below W.heap.size W wr) (fun _ wr => wr.rangeLeft b w1.heap.size)
  case atStart => exact ⟨_, _, _, hrg0, htm.begun HD.out, hb2⟩
  case round =>
    obtain ⟨D, left, cnt, hrg, htl, hbl⟩ := hrel
    go_wp2_with (at_next; refine wpList_next_ranges _ rfl _ rfl 9 Try_law (plainElem Try.prog 3) Value.string (Value.int .i64) (fun key kl hk => by obtain ⟨x, h, -⟩ := keyStr_inv Try.underlying9 hk; exact ⟨x, h⟩) (fun v y hv => by obtain ⟨c, h, -⟩ := plainElem_int_inv Try.underlying3 hv; exact ⟨c, h⟩) b w1.heap.size n _ _ _ rfl hrg ?_ ?_)
    · intro _ hl0
      go_wp2
      go_ret
      exact ⟨b, rfl, ⟨D, n, hn, hrg.owns, htl.ended hl0⟩, by have := hb0.size; omega, hb0.trans (hbl.mono hb0.size)⟩
    · intro x c kl y1 y2 w2 cnt1 hkey hlx hv hat hrg1 hlt hg1 hs1 hen
      have hkk := hkey
      obtain ⟨x', hx', hkl⟩ := keyStr_inv Try.underlying9 hkk
      have hx'' : x = x' := by injection hx'
      subst hx''
      subst hkl
      have hsz : x.size ≤ maxLen := by
        cases Nat.lt_or_ge maxLen x.size with
        | inl h => simp [keyOf, Try.underlying9, mapKey, Nat.not_le.2 h] at hkey
        | inr h => exact h
      have hbl2 := hbl.grown hg1 hbl.size (fun k hk => by cases hk; have := hb1.size; omega)
      have HTL := Lib.hid htl
      by_cases hbig : 1 < x.size
      · have HST := Lib.hid (htl.struck hbig)
        have hbi : (1 : Int) < (x.size : Int) := by omega
        clear htl hat hv hlx
        go_wp2_with (at_delete; refine wpList_delete_ranges _ rfl _ _ 58 9 rfl 3 Try_law Try.underlying58 _ b w1.heap.size n _ _ _ rfl hrg1 _ _ rfl (WideMaps.keyOf_string_mk Try.underlying9 hsz) ?_; intro w3 cnt2 hrg2 hle hturn; go_frame)
        rw [Maps.strike_twice] at hrg2
        go_roundw
        case rel => exact ⟨_, _, cnt2, hrg2, HST.out, hbl2.grown hturn.grown hbl2.size (fun k hk => by cases hk; exact hbm)⟩
        case measure => rw [hrg2.left_eq, hrg.left_eq]; omega
      · have HST := Lib.hid (htl.stays hbig)
        have hbi : ¬ ((1 : Int) < (x.size : Int)) := by omega
        clear htl hat hv hlx
        go_wp2
        go_roundw
        case rel => exact ⟨_, _, cnt1, hrg1, HST.out, hbl2⟩
        case measure => rw [hrg1.left_eq, hrg.left_eq]; exact hlt
end Go.Proofs.Ytpogpehbkgjiaaa
