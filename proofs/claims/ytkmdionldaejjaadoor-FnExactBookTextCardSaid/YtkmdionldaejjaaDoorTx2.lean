/- Texts: signals in a line; the model's SignalsText. -/
import Derived.Test.YtkmdionldaejjaaDoorTx1
namespace Go.Proofs.YtkmdionldaejjaaDoor
open Go.RowKit
set_option linter.unusedSimpArgs false
set_option linter.unusedVariables false

def isSig (n : Int) : Bool := decide (0 ≤ n) && decide (n ≤ 63)
theorem isSignal_any (n : Int) (w : World) : Calls Tryd.prog 46 #[.int .i64 n] w fun e w' => e = .returned (.bool (isSig n)) ∧ w = w' := by
  by_cases h0 : 0 ≤ n
  · go_enter Tryd.func46, Tryd.ntmps46
    go_wp2
    go_ret
    exact ⟨ret_bool (by unfold isSig; simp; try omega), rfl⟩
  · go_enter Tryd.func46, Tryd.ntmps46
    go_wp2
    go_ret
    exact ⟨ret_bool (by unfold isSig; simp; try omega), rfl⟩

def lsB (zs : List Int) : Bool := decide (zs.length ≤ 100) && allIn zs 0 63
theorem lsB_len {zs : List Int} (h : lsB zs = true) : zs.length ≤ 100 := by simp [lsB] at h; exact h.1
theorem sgList_any (v : Value) (zs : List Int) (w : World) (hr : Rd w v zs) :
    Calls Tryd.prog 24 #[v] w fun e w' => e = .returned (.bool (lsB zs)) ∧ w = w' := by
  obtain ⟨a, cap, hv⟩ := hr.len
  have HR := Lib.hid hr
  clear hr
  subst hv
  by_cases h : zs.length ≤ 100
  · have hf : lsB zs = allIn zs 0 63 := by simp [lsB, h]
    have HF := Lib.hid hf
    clear hf
    go_enter Tryd.func24, Tryd.ntmps24
    go_wp2_with (go_at_call 44; refine (l1All_any _ zs 0 63 _ HR.out).mono ?_; rintro e w' ⟨rfl, rfl⟩)
    go_ret
    exact ⟨ret_bool HF.out.symm, rfl⟩
  · have hf : lsB zs = false := by simp [lsB, h]
    have HF := Lib.hid hf
    clear hf
    go_enter Tryd.func24, Tryd.ntmps24
    go_wp2
    go_ret
    exact ⟨ret_bool HF.out.symm, rfl⟩

theorem areSignals_any (v : Value) (zs : List Int) (w : World) (hr : Rd w v zs) :
    Calls Tryd.prog 26 #[v] w fun e w' => e = .returned (.bool (lsB zs)) ∧ w = w' := by
  rcases hr with ⟨rfl, a1, c1, rfl, -⟩ | ⟨g, off, cap, rfl, hg, hm, hc⟩
  · go_enter Tryd.func26, Tryd.ntmps26
    go_wp2
    go_loop [10] (fun i => i = .int .i64 0) (fun i => 0)
    case atStart => exact rfl
    case round =>
      obtain rfl := hrel
      go_wp2
      go_ret
      exact ⟨ret_bool rfl, rfl⟩
  · by_cases h : zs.length ≤ 100
    · have hf : lsB zs = allIn zs 0 63 := by simp [lsB, h]
      have HF := Lib.hid hf
      clear hf
      obtain ⟨n, hn⟩ : ∃ n, n = zs.length := ⟨_, rfl⟩
      have HN := Lib.hid hn
      rw [← hn] at hm hc h ⊢
      clear hn
      unfold maxLen at hm
      go_enter Tryd.func26, Tryd.ntmps26
      go_wp2
      go_loop [10] (fun i => ∃ k : Nat, k ≤ n ∧ i = .int .i64 k ∧ Hid (∀ j, j < k → inB (zs[j]?.getD 0) 0 63 = true)) (fun i => n - (intOf i).toNat)
      case atStart => exact ⟨0, Nat.zero_le _, rfl, Lib.hid fun j hj => by omega⟩
      case round =>
        obtain ⟨k, hk, rfl, hall⟩ := hrel
        by_cases hlt : k < n
        · have q := hc k hlt
          clear hc
          cases hb : isSig (zs[k]?.getD 0) with
          | true =>
            have hall' : Hid (∀ j, j < k + 1 → inB (zs[j]?.getD 0) 0 63 = true) := Lib.hid fun j hj => by
              by_cases e : j = k
              · rw [e]; exact hb
              · exact hall.out j (by omega)
            go_wp2_with (go_at_call 46; refine (isSignal_any _ _).mono ?_; rintro e w' ⟨rfl, rfl⟩)
            go_round
            case rel => exact ⟨k + 1, by omega, by go_num, hall'⟩
            case measure => simp [intOf]; omega
          | false =>
            have hf := Lib.hid (allIn_false zs 0 63 k (by rw [← HN.out]; exact hlt) hb)
            go_wp2_with (go_at_call 46; refine (isSignal_any _ _).mono ?_; rintro e w' ⟨rfl, rfl⟩)
            go_ret
            exact ⟨ret_bool (by rw [HF.out, hf.out]), rfl⟩
        · have hf := Lib.hid (allIn_true zs 0 63 fun j hj => hall.out j (by have := HN.out; omega))
          clear hc
          go_wp2
          go_ret
          exact ⟨ret_bool (by rw [HF.out, hf.out]), rfl⟩
    · have hf : lsB zs = false := by simp [lsB, h]
      have HF := Lib.hid hf
      clear hf hc
      go_enter Tryd.func26, Tryd.ntmps26
      go_wp2
      go_ret
      exact ⟨ret_bool HF.out.symm, rfl⟩


set_option maxRecDepth 100000 in
set_option maxHeartbeats 400000 in
theorem sgLine_any (v : Value) (zs : List Int) (w : World) (hr : Rd w v zs) (hl : lsB zs = true) :
    Calls Tryd.prog 25 #[v] w fun e w' => e = .returned (.string (lineS 32 zs zs.length)) ∧ Below w.heap.size w w' := by
  have hlen : zs.length ≤ 100 := by simp [lsB] at hl; exact hl.1
  have hget : ∀ i, i < zs.length → 0 ≤ zs[i]?.getD 0 ∧ zs[i]?.getD 0 ≤ 63 := fun i hi => allIn_get (by simp [lsB] at hl; exact hl.2) i hi
  have hsz : ∀ k, k ≤ zs.length → (lineS 32 zs k).size ≤ 400 := fun k hk => by
    have := lineTo_len (b := 32) (m := 2) (fun i hi => by have := hget i hi; constructor <;> omega) (by decide) k hk
    rw [lineS_size]; omega
  obtain ⟨a, cap, hv⟩ := hr.len
  obtain ⟨n, hn⟩ : ∃ n, n = zs.length := ⟨_, rfl⟩
  rw [← hn] at hv hlen ⊢
  have HN := Lib.hid hn
  have HR := Lib.hid hr
  have HG := Lib.hid hget
  have HS := Lib.hid hsz
  clear hr hn hget hsz hl
  subst hv
  go_enter Tryd.func25, Tryd.ntmps25
  go_wp2
  go_loopw [3, 8] (fun s i wr => ∃ k : Nat, k ≤ n ∧ i = .int .i64 k ∧ s = .string (lineS 32 zs k) ∧ Below w.heap.size w wr) (fun s i wr => n - (intOf i).toNat)
  case atStart => exact ⟨0, Nat.zero_le _, rfl, rfl, Below.refl _ _⟩
  case round =>
    obtain ⟨k, hk, rfl, rfl, hbl⟩ := hrel
    have hsk := HS.out k (by rw [← HN.out]; exact hk)
    by_cases hlt : k < n
    · obtain ⟨g, off, ea, hg, q⟩ := (HR.out.below hbl (Nat.le_refl _)).at_ HN.out k hlt
      subst ea
      obtain ⟨b0, b1⟩ := HG.out k (by rw [← HN.out]; exact hlt)
      obtain ⟨x, hx⟩ : ∃ x : Nat, zs[k]?.getD 0 = (x : Int) := ⟨(zs[k]?.getD 0).toNat, by omega⟩
      have hxt : (zs[k]?.getD 0).toNat = x := by omega
      have hxs := decS_size x
      have hxl : (dec x).length ≤ 2 := dec_len (k := 2) (by omega) (by decide)
      have hsz := hbl.size
      rw [hx] at q b0 b1
      by_cases h0 : k = 0
      · have hst : Hid (lineS 32 zs (k + 1) = lineS 32 zs k ++ decS x) := Lib.hid (by subst h0; rw [lineS_one, hxt])
        have hs : ¬ 9223372036854775807 < (lineS 32 zs k).size + (decS x).size := by omega
        have hk0 : ¬ 0 < (k : Int) := by omega
        have hx62 : x ≤ 4611686018427387904 := by omega
        clear hx hxt hxs hxl h0
        go_wp2_with (go_at_call 45; refine (l1Num_any x _ hx62).mono ?_; rintro e w1 ⟨rfl, hb1⟩)
        go_roundw
        case rel => exact ⟨k + 1, by omega, by go_num, by rw [hst.out], hbl.trans (hb1.mono hsz)⟩
        case measure => simp [intOf]; omega
      · have hst : Hid (lineS 32 zs (k + 1) = lineS 32 zs k ++ ⟨#[32]⟩ ++ decS x) := Lib.hid (by rw [lineS_succ (by omega), hxt])
        have h32 : (⟨#[32]⟩ : ByteArray).size = 1 := rfl
        have hs : ¬ 9223372036854775807 < (lineS 32 zs k).size + (⟨#[32]⟩ : ByteArray).size := by omega
        have hs2 : ¬ 9223372036854775807 < (lineS 32 zs k ++ ⟨#[32]⟩).size + (decS x).size := by rw [ByteArray.size_append]; omega
        have hk0 : 0 < (k : Int) := by omega
        have hx62 : x ≤ 4611686018427387904 := by omega
        clear hx hxt hxs hxl h0 h32
        go_wp2_with (go_at_call 45; refine (l1Num_any x _ hx62).mono ?_; rintro e w1 ⟨rfl, hb1⟩)
        go_roundw
        case rel => exact ⟨k + 1, by omega, by go_num, by rw [hst.out], hbl.trans (hb1.mono hsz)⟩
        case measure => simp [intOf]; omega
    · obtain rfl : k = n := by omega
      go_wp2
      go_ret
      exact ⟨rfl, hbl⟩

def stB (zs : List Int) : ByteArray := if lsB zs then lineS 32 zs zs.length else ⟨#[]⟩
theorem stB_yes {zs : List Int} (h : lsB zs = true) : stB zs = lineS 32 zs zs.length := by simp [stB, h]
theorem stB_no {zs : List Int} (h : lsB zs = false) : stB zs = ⟨#[]⟩ := by simp [stB, h]
theorem specSignalsText_any (v : Value) (zs : List Int) (w : World) (hr : Rd w v zs) :
    Calls Tryd.prog 7 #[v] w fun e w' => e = .returned (.tuple #[.string (stB zs), .bool (lsB zs)]) ∧ Below w.heap.size w w' := by
  obtain ⟨a, cap, hv⟩ := hr.len
  have HR := Lib.hid hr
  clear hr
  subst hv
  cases h : lsB zs with
  | true =>
    have HS := Lib.hid (stB_yes h)
    go_enter Tryd.func7, Tryd.ntmps7
    go_wp2_with (first
      | (go_at_call 24; refine (sgList_any _ zs _ HR.out).mono ?_; rintro e w' ⟨rfl, rfl⟩)
      | (go_at_call 25; refine (sgLine_any _ zs _ HR.out h).mono ?_; rintro e w1 ⟨rfl, hb1⟩))
    go_ret2
    exact ⟨by rw [HS.out]; rfl, hb1⟩
  | false =>
    have HS := Lib.hid (stB_no h)
    go_enter Tryd.func7, Tryd.ntmps7
    go_wp2_with (go_at_call 24; refine (sgList_any _ zs _ HR.out).mono ?_; rintro e w' ⟨rfl, rfl⟩)
    go_ret2
    exact ⟨by rw [HS.out]; rfl, Below.refl _ _⟩
end Go.Proofs.YtkmdionldaejjaaDoor
