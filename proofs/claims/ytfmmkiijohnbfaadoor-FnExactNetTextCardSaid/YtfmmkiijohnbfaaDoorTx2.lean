/- Texts: signals in a line; the model's SignalsText. -/
import Derived.Test.YtfmmkiijohnbfaaDoorTx1
namespace Go.Proofs.YtfmmkiijohnbfaaDoor
open Go.RowKit
set_option linter.unusedSimpArgs false
set_option linter.unusedVariables false

def isSig (n : Int) : Bool := decide (0 ≤ n) && decide (n ≤ 63)
def lsB (zs : List Int) : Bool := decide (zs.length ≤ 100) && allIn zs 0 63
theorem lsB_len {zs : List Int} (h : lsB zs = true) : zs.length ≤ 100 := by simp [lsB] at h; exact h.1
set_option maxRecDepth 100000 in
set_option maxHeartbeats 400000 in
theorem sgLine_any (v : Value) (zs : List Int) (w : World) (hr : Rd w v zs) (hl : lsB zs = true) :
    Calls Tryd.prog 38 #[v] w fun e w' => e = .returned (.string (lineS 32 zs zs.length)) ∧ Below w.heap.size w w' := by
  have hlen : zs.length ≤ 100 := by simp [lsB] at hl; exact hl.1
  have hget : ∀ i, i < zs.length → 0 ≤ zs[i]?.getD 0 ∧ zs[i]?.getD 0 ≤ 63 := fun i hi => allIn_get (by simp [lsB] at hl; exact hl.2) i hi
  have hsz : ∀ k, k ≤ zs.length → (lineS 32 zs k).size ≤ 400 := fun k hk => by
    have := lineTo_len (b := 32) (m := 2) (fun i hi => by have := hget i hi; constructor <;> omega) (by decide) k hk
    rw [lineS_size]; omega
  obtain ⟨a, cap, hv⟩ := hr.len
  obtain ⟨n, hn⟩ : ∃ n, n = zs.length := ⟨_, rfl⟩
  rw [← hn] at hv hlen ⊢
  have HN := Lib.hid hn
  have HR := Lib.hid hr
  have HG := Lib.hid hget
  have HS := Lib.hid hsz
  clear hr hn hget hsz hl
  subst hv
  go_enter Tryd.func38, Tryd.ntmps38
  go_wp2
  go_loopw [3, 8] (fun s i wr => ∃ k : Nat, k ≤ n ∧ i = .int .i64 k ∧ s = .string (lineS 32 zs k) ∧ Below w.heap.size w wr) (fun s i wr => n - (intOf i).toNat)
  case atStart => exact ⟨0, Nat.zero_le _, rfl, rfl, Below.refl _ _⟩
  case round =>
    obtain ⟨k, hk, rfl, rfl, hbl⟩ := hrel
    have hsk := HS.out k (by rw [← HN.out]; exact hk)
    by_cases hlt : k < n
    · obtain ⟨g, off, ea, hg, q⟩ := (HR.out.below hbl (Nat.le_refl _)).at_ HN.out k hlt
      subst ea
      obtain ⟨b0, b1⟩ := HG.out k (by rw [← HN.out]; exact hlt)
      obtain ⟨x, hx⟩ : ∃ x : Nat, zs[k]?.getD 0 = (x : Int) := ⟨(zs[k]?.getD 0).toNat, by omega⟩
      have hxt : (zs[k]?.getD 0).toNat = x := by omega
      have hxs := decS_size x
      have hxl : (dec x).length ≤ 2 := dec_len (k := 2) (by omega) (by decide)
      have hsz := hbl.size
      rw [hx] at q b0 b1
      by_cases h0 : k = 0
      · have hst : Hid (lineS 32 zs (k + 1) = lineS 32 zs k ++ decS x) := Lib.hid (by subst h0; rw [lineS_one, hxt])
        have hs : ¬ 9223372036854775807 < (lineS 32 zs k).size + (decS x).size := by omega
        have hk0 : ¬ 0 < (k : Int) := by omega
        have hx62 : x ≤ 4611686018427387904 := by omega
        clear hx hxt hxs hxl h0
        go_wp2_with (go_at_call 54; refine (l1Num_any x _ hx62).mono ?_; rintro e w1 ⟨rfl, hb1⟩)
        go_roundw
        case rel => exact ⟨k + 1, by omega, by go_num, by rw [hst.out], hbl.trans (hb1.mono hsz)⟩
        case measure => simp [intOf]; omega
      · have hst : Hid (lineS 32 zs (k + 1) = lineS 32 zs k ++ ⟨#[32]⟩ ++ decS x) := Lib.hid (by rw [lineS_succ (by omega), hxt])
        have h32 : (⟨#[32]⟩ : ByteArray).size = 1 := rfl
        have hs : ¬ 9223372036854775807 < (lineS 32 zs k).size + (⟨#[32]⟩ : ByteArray).size := by omega
        have hs2 : ¬ 9223372036854775807 < (lineS 32 zs k ++ ⟨#[32]⟩).size + (decS x).size := by rw [ByteArray.size_append]; omega
        have hk0 : 0 < (k : Int) := by omega
        have hx62 : x ≤ 4611686018427387904 := by omega
        clear hx hxt hxs hxl h0 h32
        go_wp2_with (go_at_call 54; refine (l1Num_any x _ hx62).mono ?_; rintro e w1 ⟨rfl, hb1⟩)
        go_roundw
        case rel => exact ⟨k + 1, by omega, by go_num, by rw [hst.out], hbl.trans (hb1.mono hsz)⟩
        case measure => simp [intOf]; omega
    · obtain rfl : k = n := by omega
      go_wp2
      go_ret
      exact ⟨rfl, hbl⟩

def stB (zs : List Int) : ByteArray := if lsB zs then lineS 32 zs zs.length else ⟨#[]⟩
theorem stB_yes {zs : List Int} (h : lsB zs = true) : stB zs = lineS 32 zs zs.length := by simp [stB, h]
theorem stB_no {zs : List Int} (h : lsB zs = false) : stB zs = ⟨#[]⟩ := by simp [stB, h]
end Go.Proofs.YtfmmkiijohnbfaaDoor
