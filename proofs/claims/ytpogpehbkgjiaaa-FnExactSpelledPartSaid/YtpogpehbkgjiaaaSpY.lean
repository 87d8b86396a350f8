/- Chapter 3: the reference's greatest number of letters. -/
import Derived.Test.YtpogpehbkgjiaaaSpW
import Derived.Deep.RegionWith
namespace Go.Proofs.Ytpogpehbkgjiaaa
open Go.RowKit
set_option linter.unusedSimpArgs false
set_option linter.unusedVariables false

theorem letB_at {s : ByteArray} (h : letB s.data.toList = true) (k : Nat) (hk : k < s.size) : 97 ≤ (s[k].toNat : Int) ∧ (s[k].toNat : Int) ≤ 122 := by
  unfold letB at h
  rw [List.all_eq_true] at h
  have := h s[k] (by simp [ByteArray.getElem_eq_getElem_data])
  simp only [Bool.and_eq_true, decide_eq_true_eq] at this
  exact this

theorem spTable_zero (v : Value) (ps : List Ph) (s : ByteArray) (t0 : Int) (w : World) (hb : bookB ps = true) (hs : s.size ≤ 40) (hr : RdPs w v ps) (ht : tv (txR ps s 0) = t0) :
    Calls Try.prog 60 #[.agg #[v], .string s] w fun e w' => ∃ g m, e = .returned (.slice (some ⟨g, 0, none⟩) m m) ∧ (0 : Int) < (m : Int) ∧ w'.cell? ⟨g, 0, none⟩ = some (.int .i64 t0) ∧ Below w.heap.size w w' := by
  refine (spTable_any v ps s (txR ps s) w hb hs hr (txR_is hb)).mono ?_
  rintro e w' ⟨g, rfl, hrow, hb1⟩
  exact ⟨g, _, rfl, by omega, by rw [← ht]; exact hrow.at_ 0 (by omega), hb1⟩

set_option maxRecDepth 100000 in
set_option maxHeartbeats 2000000 in
theorem specPart_any (v : Value) (ps : List Ph) (s : ByteArray) (w : World) (hs : s.size ≤ maxLen) (hr : RdPs w v ps) :
    Calls Try.prog 30 #[.agg #[v], .string s] w fun e w' => e = .returned (.tuple #[.int .i64 (partN ps s), .bool (askB ps s)]) ∧ Below w.heap.size w w' := by
  obtain ⟨a, cap, rfl, -⟩ := hr.len
  have hb0 := (Below.refl w.heap.size w).alloc (Nat.le_refl _) (.cells #[.slice a ps.length cap] 31)
  have hrW := hr.later hb0
  have hx0 : (w.alloc (.cells #[.slice a ps.length cap] 31)).cell? ⟨w.heap.size, 0, none⟩ = some (.slice a ps.length cap) := by simp [go_sem]
  have hsz0 : w.heap.size < (w.alloc (.cells #[.slice a ps.length cap] 31)).heap.size := by simp
  cases hbk : askB ps s with
  | false =>
    have hN := Lib.hid (partN_no hbk)
    go_enter Try.func30, Try.ntmps30
    go_wp2_with fail
    generalize w.alloc (.cells #[.slice a ps.length cap] 31) = W at *
    refine (spAsked_is _ ps s false _ hbk hs hrW).mono ?_
    rintro e w1 ⟨rfl, hb1⟩
    go_wp2
    go_ret2
    exact ⟨by rw [hN.out]; rfl, hb0.trans (hb1.mono hb0.size)⟩
  | true =>
    have hb := askB_book hbk
    have hl := msgB_len (askB_msg hbk)
    have HLET := Lib.hid (letB_at (s := s) (by have h := askB_msg hbk; rw [msgB_short hl] at h; exact h))
    have hN := Lib.hid (partN_yes hbk)
    have HB := Lib.hid hb
    go_enter Try.func30, Try.ntmps30
    go_wp2_with fail
    generalize w.alloc (.cells #[.slice a ps.length cap] 31) = W at *
    refine (spAsked_is _ ps s true _ hbk hs hrW).mono ?_
    rintro e w1 ⟨rfl, hb1⟩
    have HX := Lib.hid (hx0 ▸ hb1.cell (p := ⟨w.heap.size, 0, none⟩) hsz0)
    have hsz1 : w.heap.size < w1.heap.size := Nat.lt_of_lt_of_le hsz0 hb1.size
    have hB1 := hb0.trans (hb1.mono hb0.size)
    have HR := Lib.hid (hrW.later hb1)
    obtain ⟨np, hnp⟩ : ∃ np, np = ps.length := ⟨_, rfl⟩
    have HNP := Lib.hid hnp
    rw [← hnp] at HX HR ⊢
    clear hnp hbk hb hrW hr hx0
    go_wp2
    go_loopw [6] (fun mv wr => ∃ k : Nat, k ≤ s.size ∧ mv = .int .i64 (mostTo ps s k : Nat) ∧ wr.heap[w1.heap.size]? = some (.stringIter s k) ∧ Below w1.heap.size w1 wr) (fun _ wr => s.size - wr.iterPos w1.heap.size)
    case atStart => exact ⟨0, Nat.zero_le _, rfl, by have := World.iter_heap w1 s 0; simpa using this, (Below.refl _ w1).alloc (Nat.le_refl _) _⟩
    case round =>
      obtain ⟨k, hk, rfl, hit, hbl⟩ := hrel
      have hsz : w1.heap.size < wr.heap.size := (Array.getElem?_eq_some_iff.1 hit).1
      by_cases hks : k < s.size
      · have hit2 := Lib.iterAt_heap wr w1.heap.size s k (k + 1) hit
        have hb2 := Lib.below_iterAt hbl (k := w1.heap.size) (Nat.le_refl _) s (k + 1)
        obtain ⟨g0, g1⟩ := HLET.out k hks
        have ha : (s[k]'hks).toNat < 128 := by omega
        have hnx : ∀ ty, (Instr.next (.pointer (some ⟨w1.heap.size, 0, none⟩)) true ty).run Try.prog wr = _ := fun ty => Lib.run_next_ascii_at wr w1.heap.size s k ty hit hks ha
        have hwk : IntKind.i64.wrap ((k : Int) + 1) = ((k + 1 : Nat) : Int) := by rw [IntWalk.i64_in _ (by omega)]; omega
        have hk1 : ((k + 1 : Nat) : Int) ≤ (s.size : Int) := by omega
        have hk2 : k + 1 ≤ s.size := by omega
        have hsx : (s.extract 0 (k + 1)).size ≤ 40 := by rw [ByteArray.size_extract]; omega
        obtain ⟨t0, ht0⟩ : ∃ t0, tv (txR ps (s.extract 0 (k + 1)) 0) = t0 := ⟨_, rfl⟩
        have HT0 := Lib.hid ht0
        have HSM : Hid ((txR ps (s.extract 0 (k + 1)) 0).ex = true → 0 ≤ (txR ps (s.extract 0 (k + 1)) 0).len) := Lib.hid fun h => (tx_small HB.out (by omega) (txR_is HB.out) (s.extract 0 (k + 1)).size 0 (by omega) (by omega) h).1
        clear ht0
        go_wp2_with fail
        generalize wr.iterAt w1.heap.size s (k + 1) = WI at *
        have HBL : Hid (Below w1.heap.size w1 WI.drew) := Lib.hid hb2.drew
        have hszI : w1.heap.size < WI.drew.heap.size := by have := (Array.getElem?_eq_some_iff.1 hit2).1; simpa using this
        have HIT : Hid (∀ w2 : World, Below WI.drew.heap.size WI.drew w2 → w2.heap[w1.heap.size]? = some (.stringIter s (k + 1))) := Lib.hid fun w2 h => by
          rw [h.block _ hszI]; exact hit2
        have HRD := Lib.hid (HR.out.later HBL.out)
        have hxI : WI.drew.cell? ⟨w.heap.size, 0, none⟩ = some (.slice a np cap) := by rw [HBL.out.cell (p := ⟨w.heap.size, 0, none⟩) hsz1]; exact HX.out
        have hxI2 : WI.cell? ⟨w.heap.size, 0, none⟩ = some (.slice a np cap) := by simpa [go_sem] using hxI
        by_cases hneg : t0 < 0
        · have HM : Hid (mostTo ps s (k + 1) = mostTo ps s k) := Lib.hid (mostTo_no (by
            cases hx : (txR ps (s.extract 0 (k + 1)) 0).ex with
            | false => rfl
            | true => have h1 := HSM.out hx; have h2 := HT0.out; rw [tv_yes hx] at h2; omega))
          have hnn : ¬ (0 ≤ t0) := by omega
          go_region_with (go_at_call 60; refine (spTable_zero _ ps (s.extract 0 (k + 1)) t0 WI.drew HB.out hsx HRD.out HT0.out).mono ?_; rintro e w2 ⟨g, m, rfl, hm0, hc0, hb3⟩; have hb4 := HBL.out.trans (hb3.mono HBL.out.size); have hit3 := HIT.out _ hb3)
          all_goals
            go_wp2
            go_roundw
            case rel => first | exact ⟨k + 1, by omega, by rw [HM.out], hit3, hb4⟩ | (rw [HM.out])
            case measure => simp only [World.iterPos, hit3, hit]; omega
        · have HM : Hid (mostTo ps s (k + 1) = k + 1) := Lib.hid (mostTo_yes (by
            cases hx : (txR ps (s.extract 0 (k + 1)) 0).ex with
            | true => rfl
            | false => have h2 := HT0.out; rw [tv_no hx] at h2; omega))
          have hnn : 0 ≤ t0 := by omega
          go_region_with (go_at_call 60; refine (spTable_zero _ ps (s.extract 0 (k + 1)) t0 WI.drew HB.out hsx HRD.out HT0.out).mono ?_; rintro e w2 ⟨g, m, rfl, hm0, hc0, hb3⟩; have hb4 := HBL.out.trans (hb3.mono HBL.out.size); have hit3 := HIT.out _ hb3)
          all_goals
            go_wp2
            go_roundw
            case rel => exact ⟨k + 1, by omega, by rw [HM.out]; go_num, hit3, hb4⟩
            case measure => simp only [World.iterPos, hit3, hit]; omega
      · obtain rfl : k = s.size := by omega
        have hnx : ∀ ty, (Instr.next (.pointer (some ⟨w1.heap.size, 0, none⟩)) true ty).run Try.prog wr = _ := fun ty => Lib.run_next_end_at wr w1.heap.size s s.size ty hit (by omega)
        go_wp2
        go_ret2
        exact ⟨by rw [hN.out]; rfl, hB1.trans (hbl.mono hB1.size)⟩
end Go.Proofs.Ytpogpehbkgjiaaa
