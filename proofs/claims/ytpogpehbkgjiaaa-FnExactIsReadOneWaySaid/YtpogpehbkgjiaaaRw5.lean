/- Chapter 2: read in one way, by the specification: its note of a rest. -/
import Derived.Test.YtpogpehbkgjiaaaRw4
namespace Go.Proofs.Ytpogpehbkgjiaaa
open Go.RowKit
set_option linter.unusedSimpArgs false
set_option linter.unusedVariables false

theorem Own.low {w : World} {B C : Nat} {v : Value} {zs : List Int} (h : Own w B v zs) (hC : C ≤ B) : Own w C v zs := by
  obtain ⟨h1, h2⟩ := h
  refine ⟨h1, h2.imp id ?_⟩
  rintro ⟨g, cap, cur, hv, hg, r⟩
  exact ⟨g, cap, cur, hv, by omega, r⟩

set_option maxHeartbeats 800000 in
theorem bkPut_any (w0 : World) (B : Nat) (v u : Value) (L : List (List Int)) (z : List Int) (w : World) (hL : L.length ≤ 1048000) (hz : z.length ≤ 1048576) (hr : Rows true w0 w B v L) (hu : RdC w u z) :
    Calls Try.prog 101 #[v, u] w fun e w' => ∃ a m c, e = .returned (.slice a m c) ∧ Rows true w0 w' B (.slice a m c) (putL L z) ∧ w.heap.size ≤ w'.heap.size ∧ ∀ k, k < w.heap.size → some k ≠ v.ownBlock → w'.heap[k]? = w.heap[k]? := by
  obtain ⟨av, cv, rfl, hcv⟩ := hr.len
  obtain ⟨-, au, cu, rfl, hcu⟩ := id hu
  obtain ⟨nz, hnz⟩ : ∃ nz, nz = z.length := ⟨_, rfl⟩
  obtain ⟨nl, hnl⟩ : ∃ nl, nl = L.length := ⟨_, rfl⟩
  have HNL := Lib.hid hnl
  have HNZ := Lib.hid hnz
  have HU := Lib.hid hu
  have HR := Lib.hid hr
  have HZ := Lib.hid hz
  rw [← hnz] at hcu HU hz ⊢
  rw [← hnl] at hcv HR hL ⊢
  have HL : Hid (L.length ≤ 1048576) := Lib.hid (by omega)
  clear hnz hnl hu hr
  go_enter Try.func101, Try.ntmps101
  go_wp2
  go_loopw [9] (fun s wr => ∃ k : Nat, k ≤ nl ∧ s = .int .i64 k ∧ Below w.heap.size w wr ∧ Hid (∀ j, j < k → L[j]?.getD [] ≠ z)) (fun s wr => nl - (intOf s).toNat)
  case atStart => exact ⟨0, Nat.zero_le _, rfl, Below.refl _ _, Lib.hid fun j hj => by omega⟩
  case round =>
    obtain ⟨k, hk, rfl, hbl, hall⟩ := hrel
    by_cases hlt : k < nl
    · obtain ⟨g, x, rfl, hcz, hru, -⟩ := (HR.out.later hbl).at_ k hlt
      have hkI : (k : Int) < (nl : Int) := by omega
      obtain ⟨xa, xc, rfl⟩ := hru.rd.len
      obtain ⟨xl, hxl⟩ : ∃ xl, xl = L[k]?.getD [] := ⟨_, rfl⟩
      have HXL := Lib.hid hxl
      rw [← hxl] at hcz hru
      obtain ⟨xn, hxn⟩ : ∃ xn, xn = xl.length := ⟨_, rfl⟩
      rw [← hxn] at hcz hru
      have HRU := Lib.hid hru
      clear hru hxl hxn
      cases hs : sameB xl z with
      | true =>
        have hp := Lib.hid (putL_old (L := L) (r := z) (by
          have e := sameB_iff.1 hs
          have hkl : k < L.length := by rw [← HNL.out]; exact hlt
          rw [HXL.out, List.getElem?_eq_getElem hkl] at e
          exact e ▸ List.getElem_mem hkl))
        go_wp2_with (go_at_call 112; refine (l1Same_any _ _ xl z _ HRU.out.rd (HU.out.later hbl).rd).mono ?_; rw [hs]; rintro e w1 ⟨rfl, n1, rfl⟩)
        go_ret
        exact ⟨_, _, _, rfl, by rw [hp.out]; exact HR.out.later (below_drewN hbl n1), by simpa using hbl.size, fun k hk _ => (below_drewN hbl n1).block k hk⟩
      | false =>
        have hall' : Hid (∀ j, j < k + 1 → L[j]?.getD [] ≠ z) := Lib.hid fun j hj => by
          by_cases e : j = k
          · subst e; intro e; rw [HXL.out, sameB_iff.2 e] at hs; cases hs
          · exact hall.out j (by omega)
        go_wp2_with (go_at_call 112; refine (l1Same_any _ _ xl z _ HRU.out.rd (HU.out.later hbl).rd).mono ?_; rw [hs]; rintro e w1 ⟨rfl, n1, rfl⟩)
        go_roundw
        case rel => exact ⟨k + 1, by omega, by go_num, below_drewN hbl n1, hall'⟩
        case measure => simp [intOf]; omega
    · have hp := Lib.hid (putL_new (L := L) (r := z) fun h => by
        obtain ⟨m, hm, e⟩ := List.mem_iff_getElem.1 h
        have := hall.out m (by rw [← HNL.out] at hm; omega)
        rw [List.getElem?_eq_getElem hm] at this
        exact this e)
      have HRW := Lib.hid (HR.out.later hbl)
      have HUW := Lib.hid (HU.out.later hbl)
      have hkI : ¬ ((k : Int) < (nl : Int)) := by omega
      go_wp2_with fail
      refine (l1Own_any _ z wr (by have := HZ.out; omega) HUW.out.rd).mono ?_
      rintro e w1 ⟨u1, rfl, ho1, hb1⟩
      obtain ⟨a1, c1, rfl⟩ := ho1.rd.len
      rw [← HNZ.out] at ho1 ⊢
      have HO := Lib.hid (ho1.low (C := B) HRW.out.size)
      have HR1 := Lib.hid (HRW.out.later hb1)
      have HB1 := Lib.hid (hbl.trans (hb1.mono hbl.size))
      clear ho1 hb1
      go_wp2_with (at_builtin; refine append_rows (f := true) (w0 := w0) rfl _ _ rfl B (.slice av nl cv) L z (.slice a1 nz c1) w1.heap.size rfl rfl (HR1.out.later ((Below.refl _ w1).alloc (Nat.le_refl _) _)) (by simp [go_sem]) (.inl ⟨rfl, HO.out.alloc _⟩) HL.out ?_; intro v2 w2 hr2 hg2; obtain ⟨a2, n2, c2, rfl⟩ : ∃ a2 n2 c2, v2 = .slice a2 n2 c2 := (by obtain ⟨a, c, h, -⟩ := hr2.len; exact ⟨a, _, c, h⟩); have HR2 := Lib.hid hr2; have HG2 := Lib.hid hg2; clear hr2 hg2)
      go_ret
      refine ⟨_, _, _, rfl, by rw [hp.out]; exact HR2.out, ?_, ?_⟩
      · have h1 := HG2.out.size
        have h2 := HB1.out.size
        simp at h1
        omega
      · intro q hq hqa
        have h2 := HB1.out.size
        rw [HG2.out.block q (by simp; omega) hqa, Lib.alloc_old w1 _ q (by omega), HB1.out.block q hq]
end Go.Proofs.Ytpogpehbkgjiaaa
