/- The laws' marks on books, written and found again. -/
import Derived.Test.YtkknmjioihnpkaaBkN
import Derived.Deep.RegionHeld3
namespace Go.Proofs.Ytkknmjioihnpkaa
open Go.RowKit
set_option linter.unusedSimpArgs false
set_option linter.unusedVariables false

theorem markPs_at {k : Nat} {ps : List Ph} {i : Nat} (hi : i < ps.length) : phAt (markPs k ps) i = ⟨mtS (markN k (ps.take i)), markZ (markN k (ps.take i) + 1 : Nat) (phAt ps i).sig.length⟩ := by
  induction ps generalizing k i with
  | nil => simp at hi
  | cons p ps ih =>
    cases i with
    | zero => simp [markPs, phAt, markN]
    | succ i =>
      have := ih (k := k + 1 + p.sig.length) (i := i) (by simpa using hi)
      simpa [markPs, phAt, markN] using this

set_option maxHeartbeats 800000 in
theorem heldPhraseS_any (v : Value) (ps : List Ph) (k0 : Nat) (w : World) (h0 : 1 ≤ k0) (h1 : k0 ≤ 1000000000) (hsm : SmallPs ps) (hr : RdPs w v (markPs k0 ps)) :
    Calls Try.prog 77 #[v, .int .i64 k0] w fun e w' => e = .returned (.int .i64 (markN k0 ps)) ∧ Below w.heap.size w w' := by
  obtain ⟨a, cap, rfl, -⟩ := hr.len
  have hbd := markN_bd hsm k0
  have hz := hsm.1
  rw [markPs_len] at hr ⊢
  obtain ⟨n, hn⟩ : ∃ n, n = ps.length := ⟨_, rfl⟩
  have HN := Lib.hid hn
  have HBD := Lib.hid hbd
  have HS := Lib.hid hsm
  rw [← hn] at hz hr ⊢
  have HR := Lib.hid hr
  clear hn hbd hsm hr
  go_enter Try.func77, Try.ntmps77
  go_wp2
  go_loopw [1, 5] (fun t i wr => ∃ j : Nat, j ≤ n ∧ i = .int .i64 j ∧ t = .int .i64 (markN k0 (ps.take j) : Nat) ∧ Below w.heap.size w wr) (fun t i wr => n - (intOf i).toNat)
  case atStart => exact ⟨0, Nat.zero_le _, rfl, by simp [markN], Below.refl _ _⟩
  case round =>
    obtain ⟨j, hj, rfl, rfl, hb⟩ := hrel
    have hm := HBD.out j (by rw [← HN.out]; exact hj)
    by_cases hlt : j < n
    · have hjl : j < ps.length := by rw [← HN.out]; exact hlt
      obtain ⟨g, off, u, rfl, hg, hts, hc0, hc1, hru⟩ := (HR.out.below hb.drew (Nat.le_refl _)).at_ (by rw [markPs_len, ← HN.out]) j hlt
      rw [markPs_at hjl] at hts hc0 hru
      simp only at hts hc0 hru
      have hmt := Lib.hid (markN_take (k := k0) hjl)
      have hsj := (HS.out.2 j hjl).2
      obtain ⟨L, hL⟩ : ∃ L, L = (phAt ps j).sig.length := ⟨_, rfl⟩
      rw [← hL] at hru hsj
      obtain ⟨K, hK⟩ : ∃ K, K = markN k0 (ps.take j) := ⟨_, rfl⟩
      rw [← hK] at hm hts hc0 hru ⊢
      have HK := Lib.hid hK
      have HL := Lib.hid hL
      have HRU := Lib.hid hru
      have K1 : Hid (∀ w1 : World, Below wr.drew.heap.size wr.drew w1 → w1.cell? ⟨g, off + j * 2, none⟩ = some (.string (mtS K)) ∧ w1.cell? ⟨g, off + j * 2 + 1, none⟩ = some u) := Lib.hid fun w1 h =>
        ⟨by rw [h.cell (p := ⟨g, off + j * 2, none⟩) hg]; exact hc0, by rw [h.cell (p := ⟨g, off + j * 2 + 1, none⟩) hg]; exact hc1⟩
      have hc0' : wr.cell? ⟨g, off + j * 2, none⟩ = some (.string (mtS K)) := hc0
      clear hK hL hru hc0 hc1
      go_wp2
      go_region_held3 (fun w' => w'.cell? ⟨g, off + j * 2, none⟩ = some (.string (mtS K)))
        (first | go_keep | exact (K1.out _ hb1).1)
        (first | (go_at_call 96; refine (markText_any K wr.drew (by omega) (by omega)).mono ?_; rintro e w1 ⟨rfl, hb1⟩))
      have q1 := (K1.out _ hb1).2
      have hbb := hb.drew.trans (hb1.mono hb.drew.size)
      go_wp2_with fail
      refine (heldIntS_wide _ L ((K : Int) + 1) _ (by omega) (by omega) (by omega) ?_).mono ?_
      · have := HRU.out.rd.later hb1
        rw [show ((K + 1 : Nat) : Int) = (K : Int) + 1 by omega] at this
        exact this
      rintro e w3 ⟨rfl, rfl⟩
      go_wp2
      go_roundw
      case rel => exact ⟨j + 1, by omega, by go_num, by rw [hmt.out, ← HK.out, ← HL.out]; go_num, hbb⟩
      case measure => simp [intOf]; omega
    · obtain rfl : j = n := by omega
      have HE : Hid (ps.take j = ps) := Lib.hid (by rw [HN.out]; exact List.take_length)
      go_wp2
      go_ret
      exact ⟨ret_int (by rw [HE.out]), hb⟩

theorem markBook_any (B C : Nat) (v : Value) (ps : List Ph) (us : Nat → Value) (k0 : Nat) (w : World) (h0 : 1 ≤ k0) (h1 : k0 ≤ 1000000000) (hsm : SmallPs ps) (ho : OwnU w B C v ps us) :
    Calls Try.prog 39 #[.agg #[v], .int .i64 k0] w fun e w' => e = .returned (.int .i64 (markN k0 ps)) ∧ OwnU w' B C v (markPs k0 ps) us ∧ KeptBC B C w w' := by
  obtain ⟨a, cap, rfl, -⟩ := ho.ps.rd.len
  have hb0 := fun o => (Below.refl w.heap.size w).alloc (Nat.le_refl _) o
  go_enter Try.func39, Try.ntmps39
  go_wp2_with fail
  refine (markPhraseS_any B C _ ps us k0 _ h0 h1 hsm (ho.later (hb0 _))).mono ?_
  rintro e w1 ⟨rfl, ho1, hk⟩
  have hk1 := (KeptBC.of_below (hb0 (.cells #[.slice a ps.length cap] 25))).trans hk
  go_wp2
  go_ret
  exact ⟨rfl, ho1, hk1⟩
theorem markN_nonneg (k : Nat) (ps : List Ph) : (0 : Int) ≤ (markN k ps : Int) := by omega
theorem heldBook_any (v : Value) (ps : List Ph) (k0 : Nat) (w : World) (h0 : 1 ≤ k0) (h1 : k0 ≤ 1000000000) (hsm : SmallPs ps) (hr : RdPs w v (markPs k0 ps)) :
    Calls Try.prog 48 #[.agg #[v], .int .i64 k0] w fun e w' => e = .returned (.int .i64 (markN k0 ps)) ∧ Below w.heap.size w w' := by
  obtain ⟨a, cap, rfl, -⟩ := hr.len
  have hb0 := fun o => (Below.refl w.heap.size w).alloc (Nat.le_refl _) o
  go_enter Try.func48, Try.ntmps48
  go_wp2_with fail
  refine (heldPhraseS_any _ ps k0 _ h0 h1 hsm (hr.later (hb0 _))).mono ?_
  rintro e w1 ⟨rfl, hb⟩
  have hb1 := (hb0 (.cells #[.slice a (markPs k0 ps).length cap] 25)).trans (hb.mono (by simp))
  go_wp2
  go_ret
  exact ⟨rfl, hb1⟩
end Go.Proofs.Ytkknmjioihnpkaa
