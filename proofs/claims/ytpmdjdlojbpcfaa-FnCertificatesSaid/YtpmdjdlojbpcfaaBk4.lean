/- Chapter 2: lists of signals, whether two are the same, whether they are a phrase's. Written by a generator of this claim's author. -/
import Derived.Test.YtpmdjdlojbpcfaaBk3
namespace Go.Proofs.Ytpmdjdlojbpcfaa
open Go.RowKit
set_option linter.unusedSimpArgs false
set_option linter.unusedVariables false

theorem Rd.max {w : World} {v : Value} {zs : List Int} (h : Rd w v zs) : zs.length ≤ maxLen := by
  rcases h with ⟨rfl, -⟩ | ⟨g, off, cap, -, -, hm, -⟩
  · simp
  · exact hm
theorem Rd.at_ {w : World} {a : Option Addr} {n cap : Nat} {zs : List Int} (h : Rd w (.slice a n cap) zs) (hn : n = zs.length) (i : Nat) (hi : i < n) :
    ∃ g off, a = some ⟨g, off, none⟩ ∧ g < w.heap.size ∧ w.cell? ⟨g, off + i, none⟩ = some (.int .i64 (zs[i]?.getD 0)) := by
  rcases h with ⟨rfl, -⟩ | ⟨g, off, cap', hv, hg, hm, hc⟩
  · simp at hn; omega
  · simp only [Value.slice.injEq] at hv
    obtain ⟨rfl, -, -⟩ := hv
    exact ⟨g, off, rfl, hg, hc i (by omega)⟩
def sameB (a b : List Int) : Bool := decide (a = b)
theorem sameB_iff {a b : List Int} : sameB a b = true ↔ a = b := by simp [sameB]
theorem sameB_len {a b : List Int} (h : ¬ a.length = b.length) : sameB a b = false := by
  simp only [sameB, decide_eq_false_iff_not]; rintro rfl; exact h rfl
theorem sameB_no {a b : List Int} {k : Nat} (h : ¬ a[k]?.getD 0 = b[k]?.getD 0) : sameB a b = false := by
  simp only [sameB, decide_eq_false_iff_not]; rintro rfl; exact h rfl
theorem sameB_yes {a b : List Int} (hl : a.length = b.length) (h : ∀ j, j < a.length → a[j]?.getD 0 = b[j]?.getD 0) : sameB a b = true := by
  rw [sameB_iff]
  apply List.ext_getElem hl
  intro i h1 h2
  have := h i h1
  simpa [h1, h2] using this

theorem l1In_any (n lo hi : Int) (w : World) : Calls Try.prog 60 #[.int .i64 n, .int .i64 lo, .int .i64 hi] w fun e w' => e = .returned (.bool (inB n lo hi)) ∧ w = w' := by
  by_cases h0 : lo ≤ n
  · go_enter Try.func60, Try.ntmps60
    go_wp2
    go_ret
    exact ⟨ret_bool (by unfold inB; simp; try omega), rfl⟩
  · go_enter Try.func60, Try.ntmps60
    go_wp2
    go_ret
    exact ⟨ret_bool (by unfold inB; simp; try omega), rfl⟩
theorem l1All_any (v : Value) (zs : List Int) (lo hi : Int) (w : World) (hr : Rd w v zs) :
    Calls Try.prog 88 #[v, .int .i64 lo, .int .i64 hi] w fun e w' => e = .returned (.bool (allIn zs lo hi)) ∧ w = w' := by
  have hm := hr.max
  unfold maxLen at hm
  obtain ⟨a1, c1, rfl⟩ := hr.len
  obtain ⟨n, hn⟩ : ∃ n, n = zs.length := ⟨_, rfl⟩
  rw [← hn] at hm ⊢
  have HN := Lib.hid hn
  have HR := Lib.hid hr
  clear hn hr
  go_enter Try.func88, Try.ntmps88
  go_wp2
  go_loop [11] (fun i => ∃ k : Nat, k ≤ n ∧ i = .int .i64 k ∧ Hid (∀ j, j < k → inB (zs[j]?.getD 0) lo hi = true)) (fun i => n - (intOf i).toNat)
  case atStart => exact ⟨0, Nat.zero_le _, rfl, Lib.hid fun j hj => by omega⟩
  case round =>
    obtain ⟨k, hk, rfl, hall⟩ := hrel
    by_cases hlt : k < n
    · obtain ⟨g1, o1, rfl, hg1, q⟩ := HR.out.at_ (by rw [← HN.out]) k (by rw [← HN.out]; exact hlt)
      cases hb : inB (zs[k]?.getD 0) lo hi with
      | true =>
        have hall' : Hid (∀ j, j < k + 1 → inB (zs[j]?.getD 0) lo hi = true) := Lib.hid fun j hj => by
          by_cases e : j = k
          · rw [e]; exact hb
          · exact hall.out j (by omega)
        go_wp2_with (go_at_call 60; refine (l1In_any _ _ _ _).mono ?_; rintro e w' ⟨rfl, rfl⟩)
        go_round
        case rel => exact ⟨k + 1, by omega, by go_num, hall'⟩
        case measure => simp [intOf]; omega
      | false =>
        have hf := Lib.hid (allIn_false zs lo hi k (by rw [← HN.out]; exact hlt) hb)
        go_wp2_with (go_at_call 60; refine (l1In_any _ _ _ _).mono ?_; rintro e w' ⟨rfl, rfl⟩)
        go_ret
        exact ⟨ret_bool hf.out.symm, rfl⟩
    · have hf := Lib.hid (allIn_true zs lo hi fun j hj => hall.out j (by have := HN.out; omega))
      go_wp2
      go_ret
      exact ⟨ret_bool hf.out.symm, rfl⟩

theorem sigB_short {zs : List Int} (h : ¬ 1 ≤ zs.length) : sigB zs = false := by simp [sigB, h]
theorem sigB_long {zs : List Int} (h : ¬ zs.length ≤ 3) : sigB zs = false := by simp [sigB, h]
theorem sigB_mid {zs : List Int} (h : 1 ≤ zs.length) (h' : zs.length ≤ 3) : sigB zs = allIn zs 1 60 := by simp [sigB, h, h']
end Go.Proofs.Ytpmdjdlojbpcfaa
