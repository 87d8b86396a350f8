/- Texts of nets: numbers up to 999 in a line, by the model; the model's text. -/
import Derived.Test.YtfmmkiijohnbfaaDoorNt0
import Derived.Test.YtfmmkiijohnbfaaDoorTx2
import Derived.Test.YtfmmkiijohnbfaaDoorNe3
namespace Go.Proofs.YtfmmkiijohnbfaaDoor
open Go.RowKit
set_option linter.unusedSimpArgs false
set_option linter.unusedVariables false

set_option maxRecDepth 100000 in
set_option maxHeartbeats 400000 in
theorem sgLine_big (v : Value) (zs : List Int) (w : World) (hr : Rd w v zs) (hlen : zs.length ≤ 100) (hget : ∀ i, i < zs.length → 0 ≤ zs[i]?.getD 0 ∧ zs[i]?.getD 0 ≤ 999) :
    Calls Tryd.prog 38 #[v] w fun e w' => e = .returned (.string (lineS 32 zs zs.length)) ∧ Below w.heap.size w w' := by
  have hsz : ∀ k, k ≤ zs.length → (lineS 32 zs k).size ≤ 400 := fun k hk => by
    have := lineTo_len (b := 32) (m := 3) (fun i hi => by have := hget i hi; constructor <;> omega) (by decide) k hk
    rw [lineS_size]; omega
  obtain ⟨a, cap, hv⟩ := hr.len
  obtain ⟨n, hn⟩ : ∃ n, n = zs.length := ⟨_, rfl⟩
  rw [← hn] at hv hlen ⊢
  have HN := Lib.hid hn
  have HR := Lib.hid hr
  have HG := Lib.hid hget
  have HS := Lib.hid hsz
  clear hr hn hget hsz
  subst hv
  go_enter Tryd.func38, Tryd.ntmps38
  go_wp2
  go_loopw [3, 8] (fun s i wr => ∃ k : Nat, k ≤ n ∧ i = .int .i64 k ∧ s = .string (lineS 32 zs k) ∧ Below w.heap.size w wr) (fun s i wr => n - (intOf i).toNat)
  case atStart => exact ⟨0, Nat.zero_le _, rfl, rfl, Below.refl _ _⟩
  case round =>
    obtain ⟨k, hk, rfl, rfl, hbl⟩ := hrel
    have hsk := HS.out k (by rw [← HN.out]; exact hk)
    by_cases hlt : k < n
    · obtain ⟨g, off, ea, hg, q⟩ := (HR.out.below hbl (Nat.le_refl _)).at_ HN.out k hlt
      subst ea
      obtain ⟨b0, b1⟩ := HG.out k (by rw [← HN.out]; exact hlt)
      obtain ⟨x, hx⟩ : ∃ x : Nat, zs[k]?.getD 0 = (x : Int) := ⟨(zs[k]?.getD 0).toNat, by omega⟩
      have hxt : (zs[k]?.getD 0).toNat = x := by omega
      have hxs := decS_size x
      have hxl : (dec x).length ≤ 3 := dec_len (k := 3) (by omega) (by decide)
      have hsz := hbl.size
      rw [hx] at q b0 b1
      by_cases h0 : k = 0
      · have hst : Hid (lineS 32 zs (k + 1) = lineS 32 zs k ++ decS x) := Lib.hid (by subst h0; rw [lineS_one, hxt])
        have hs : ¬ 9223372036854775807 < (lineS 32 zs k).size + (decS x).size := by omega
        have hk0 : ¬ 0 < (k : Int) := by omega
        have hx62 : x ≤ 4611686018427387904 := by omega
        clear hx hxt hxs hxl h0
        go_wp2_with (go_at_call 54; refine (l1Num_any x _ hx62).mono ?_; rintro e w1 ⟨rfl, hb1⟩)
        go_roundw
        case rel => exact ⟨k + 1, by omega, by go_num, by rw [hst.out], hbl.trans (hb1.mono hsz)⟩
        case measure => simp [intOf]; omega
      · have hst : Hid (lineS 32 zs (k + 1) = lineS 32 zs k ++ ⟨#[32]⟩ ++ decS x) := Lib.hid (by rw [lineS_succ (by omega), hxt])
        have h32 : (⟨#[32]⟩ : ByteArray).size = 1 := rfl
        have hs : ¬ 9223372036854775807 < (lineS 32 zs k).size + (⟨#[32]⟩ : ByteArray).size := by omega
        have hs2 : ¬ 9223372036854775807 < (lineS 32 zs k ++ ⟨#[32]⟩).size + (decS x).size := by rw [ByteArray.size_append]; omega
        have hk0 : 0 < (k : Int) := by omega
        have hx62 : x ≤ 4611686018427387904 := by omega
        clear hx hxt hxs hxl h0 h32
        go_wp2_with (go_at_call 54; refine (l1Num_any x _ hx62).mono ?_; rintro e w1 ⟨rfl, hb1⟩)
        go_roundw
        case rel => exact ⟨k + 1, by omega, by go_num, by rw [hst.out], hbl.trans (hb1.mono hsz)⟩
        case measure => simp [intOf]; omega
    · obtain rfl : k = n := by omega
      go_wp2
      go_ret
      exact ⟨rfl, hbl⟩
/-- Three numbers laid by the call itself. -/
theorem Rd_three (w : World) (x : T3) (h : Nat) (hh : h = w.heap.size) : Rd (w.alloc (.cells #[.int .i64 x.x0, .int .i64 x.x1, .int .i64 x.x2] 3)) (.slice (some ⟨h, 0, none⟩) 3 3) (l3 x) := by
  subst hh
  refine .inr ⟨w.heap.size, 0, 3, rfl, by simp, by unfold maxLen; simp [l3], fun j hj => ?_⟩
  match j, hj with
  | 0, _ => simp [go_sem, l3]
  | 1, _ => simp [go_sem, l3]
  | 2, _ => simp [go_sem, l3]
theorem sgLine_three (x : T3) (hx : smB x) (w : World) (v : Value) (hr : Rd w v (l3 x)) :
    Calls Tryd.prog 38 #[v] w fun e w' => e = .returned (.string (num3 x)) ∧ Below w.heap.size w w' :=
  sgLine_big v (l3 x) w hr (by simp [l3]) (l3_get hx)
end Go.Proofs.YtfmmkiijohnbfaaDoor
