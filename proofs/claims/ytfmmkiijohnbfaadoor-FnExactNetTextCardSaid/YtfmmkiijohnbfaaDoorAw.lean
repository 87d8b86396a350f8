/- areWithin: are all numbers of a slice in a range? -/
import Derived.Test.YtfmmkiijohnbfaaDoorBk4
namespace Go.Proofs.YtfmmkiijohnbfaaDoor
open Go.RowKit
set_option linter.unusedSimpArgs false
set_option linter.unusedVariables false

theorem areWithin_any (v : Value) (zs : List Int) (lo hi : Int) (w : World) (hr : Rd w v zs) :
    Calls Tryd.prog 55 #[v, .int .i64 lo, .int .i64 hi] w fun e w' => e = .returned (.bool (allIn zs lo hi)) ∧ w = w' := by
  have hm := hr.max
  unfold maxLen at hm
  obtain ⟨a1, c1, rfl⟩ := hr.len
  obtain ⟨n, hn⟩ : ∃ n, n = zs.length := ⟨_, rfl⟩
  rw [← hn] at hm ⊢
  have HN := Lib.hid hn
  have HR := Lib.hid hr
  clear hn hr
  go_enter Tryd.func55, Tryd.ntmps55
  go_wp2
  go_loop [11] (fun i => ∃ k : Nat, k ≤ n ∧ i = .int .i64 k ∧ Hid (∀ j, j < k → inB (zs[j]?.getD 0) lo hi = true)) (fun i => n - (intOf i).toNat)
  case atStart => exact ⟨0, Nat.zero_le _, rfl, Lib.hid fun j hj => by omega⟩
  case round =>
    obtain ⟨k, hk, rfl, hall⟩ := hrel
    by_cases hlt : k < n
    · obtain ⟨g1, o1, rfl, hg1, q⟩ := HR.out.at_ (by rw [← HN.out]) k (by rw [← HN.out]; exact hlt)
      by_cases hb : lo ≤ zs[k]?.getD 0 ∧ zs[k]?.getD 0 ≤ hi
      · obtain ⟨b0, b1⟩ := hb
        have hall' : Hid (∀ j, j < k + 1 → inB (zs[j]?.getD 0) lo hi = true) := Lib.hid fun j hj => by
          by_cases e : j = k
          · rw [e]; exact inB_yes b0 b1
          · exact hall.out j (by omega)
        go_wp2
        go_round
        case rel => exact ⟨k + 1, by omega, by go_num, hall'⟩
        case measure => simp [intOf]; omega
      · have hf := Lib.hid (allIn_false zs lo hi k (by rw [← HN.out]; exact hlt) (inB_no (by omega)))
        by_cases b0 : zs[k]?.getD 0 < lo
        · clear hb
          go_wp2
          go_ret
          exact ⟨ret_bool hf.out.symm, rfl⟩
        · have b1 : hi < zs[k]?.getD 0 := by omega
          clear hb
          go_wp2
          go_ret
          exact ⟨ret_bool hf.out.symm, rfl⟩
    · have hf := Lib.hid (allIn_true zs lo hi fun j hj => hall.out j (by have := HN.out; omega))
      go_wp2
      go_ret
      exact ⟨ret_bool hf.out.symm, rfl⟩

theorem areWithin_b {b : Bool} (v : Value) (zs : List Int) (lo hi : Int) (w : World) (hr : Rd w v zs) (hb : allIn zs lo hi = b) :
    Calls Tryd.prog 55 #[v, .int .i64 lo, .int .i64 hi] w fun e w' => e = .returned (.bool b) ∧ w = w' := by
  subst hb; exact areWithin_any v zs lo hi w hr
end Go.Proofs.YtfmmkiijohnbfaaDoor
