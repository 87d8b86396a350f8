/- Texts of books: by both sides. -/
import Derived.Test.YtkmdionldaejjaaDoorTx3
import Derived.Test.YtkmdionldaejjaaDoorBk7
namespace Go.Proofs.YtkmdionldaejjaaDoor
open Go.RowKit
set_option linter.unusedSimpArgs false
set_option linter.unusedVariables false

theorem book_at {ps : List Ph} (hb : bookB ps = true) {i : Nat} (hi : i < ps.length) : (phAt ps i).txt.size ≤ 12 ∧ 1 ≤ (phAt ps i).sig.length ∧ (phAt ps i).sig.length ≤ 3 ∧ allIn (phAt ps i).sig 1 60 = true := by
  have h := bookB_at hb hi
  simp only [goodAt, Bool.and_eq_true] at h
  obtain ⟨⟨⟨h1, h2⟩, -⟩, -⟩ := h
  simp only [textB, begB, sigB, Bool.and_eq_true, decide_eq_true_eq] at h1 h2
  exact ⟨h1.1.1, h2.1.1, h2.1.2, h2.2⟩
/-- A phrase's line. -/
def phL (p : Ph) : ByteArray := p.txt ++ ⟨#[32]⟩ ++ lineS 45 p.sig p.sig.length ++ ⟨#[10]⟩
/-- The first k lines. -/
def btT (ps : List Ph) : Nat → ByteArray
  | 0 => ⟨#[]⟩
  | k + 1 => btT ps k ++ phL (phAt ps k)
theorem sig_get {zs : List Int} (h : allIn zs 1 60 = true) (i : Nat) (hi : i < zs.length) : 0 ≤ zs[i]?.getD 0 ∧ zs[i]?.getD 0 ≤ 99 := by have := allIn_get h i hi; omega
theorem sig_line {zs : List Int} (h : allIn zs 1 60 = true) (hl : zs.length ≤ 3) (k : Nat) (hk : k ≤ zs.length) : (lineS 45 zs k).size ≤ 9 := by
  have := lineTo_len (b := 45) (m := 2) (fun i hi => by have := allIn_get h i hi; constructor <;> omega) (by decide) k hk
  rw [lineS_size]; omega
theorem one_size (c : UInt8) : (⟨#[c]⟩ : ByteArray).size = 1 := rfl
theorem phL_size {p : Ph} (h1 : p.txt.size ≤ 12) (h2 : p.sig.length ≤ 3) (h3 : allIn p.sig 1 60 = true) : (phL p).size ≤ 23 := by
  have := sig_line h3 h2 _ (Nat.le_refl _)
  unfold phL
  simp only [ByteArray.size_append, one_size]
  omega
theorem btT_size {ps : List Ph} (hb : bookB ps = true) (k : Nat) (hk : k ≤ ps.length) : (btT ps k).size ≤ k * 23 := by
  induction k with
  | zero => exact Nat.le_refl 0
  | succ k ih =>
    have h := ih (by omega)
    obtain ⟨h1, -, h2, h3⟩ := book_at hb (i := k) (by omega)
    have := phL_size h1 h2 h3
    rw [btT, ByteArray.size_append, Nat.succ_mul]
    omega
def btB (ps : List Ph) : ByteArray := if bookB ps then btT ps ps.length else ⟨#[]⟩
theorem btB_yes {ps : List Ph} (h : bookB ps = true) : btB ps = btT ps ps.length := by simp [btB, h]
theorem btB_no {ps : List Ph} (h : bookB ps = false) : btB ps = ⟨#[]⟩ := by simp [btB, h]

set_option maxRecDepth 100000 in
set_option maxHeartbeats 1600000 in
theorem bkText_any (v : Value) (ps : List Ph) (w : World) (hr : RdPs w v ps) (hbk : bookB ps = true) :
    Calls Tryd.prog 32 #[.agg #[v]] w fun e w' => e = .returned (.string (btT ps ps.length)) ∧ Below w.heap.size w w' := by
  have hln := bookB_len hbk
  obtain ⟨a, cap, rfl, hcap⟩ := hr.len
  obtain ⟨n, hn⟩ : ∃ n, n = ps.length := ⟨_, rfl⟩
  have HN := Lib.hid hn
  have HR := Lib.hid hr
  have HB := Lib.hid hbk
  rw [← hn] at hcap hln ⊢
  clear hn hr hbk
  go_enter Tryd.func32, Tryd.ntmps32
  go_wp2
  go_loopw [3, 11] (fun s i wr => ∃ k : Nat, k ≤ n ∧ i = .int .i64 k ∧ s = .string (btT ps k) ∧ Below w.heap.size w wr) (fun s i wr => n - (intOf i).toNat)
  case atStart => exact ⟨0, Nat.zero_le _, rfl, rfl, (Below.refl _ _).alloc (Nat.le_refl _) _⟩
  case round =>
    obtain ⟨k, hk, rfl, rfl, hbl⟩ := hrel
    have hbs := btT_size HB.out k (by rw [← HN.out]; exact hk)
    by_cases hlt : k < n
    · obtain ⟨g, off, u, ea, hg, hts, hc0, hc1, hru⟩ := (HR.out.below hbl (Nat.le_refl _)).at_ (by rw [← HN.out]) k (by rw [← HN.out]; exact hlt)
      subst ea
      obtain ⟨ua, uc, rfl⟩ := hru.rd.len
      obtain ⟨t1, s1, s2, s3⟩ := book_at HB.out (i := k) (by rw [← HN.out]; exact hlt)
      have hstep : Hid (btT ps (k + 1) = btT ps k ++ ((phAt ps k).txt ++ ⟨#[32]⟩) ++ lineS 45 (phAt ps k).sig (phAt ps k).sig.length ++ ⟨#[10]⟩) := Lib.hid (by
        rw [btT, phL]; simp only [ByteArray.append_assoc])
      generalize (phAt ps k).txt = T at *
      generalize (phAt ps k).sig = Z at *
      generalize btT ps k = S0 at *
      have hbl2 := hbl.alloc hbl.size (.cells #[.string T, .slice ua Z.length uc] 58)
      have hru2 := Lib.hid (hru.rd.later ((Below.refl wr.heap.size wr).alloc (Nat.le_refl _) (.cells #[.string T, .slice ua Z.length uc] 58)))
      have h32 := one_size 32
      have h10 := one_size 10
      have h45 := one_size 45
      have hq1 : ¬ 9223372036854775807 < T.size + (⟨#[32]⟩ : ByteArray).size := by omega
      have hq2 : ¬ 9223372036854775807 < S0.size + (T ++ ⟨#[32]⟩).size := by rw [ByteArray.size_append]; omega
      have hS1 : (S0 ++ (T ++ ⟨#[32]⟩)).size ≤ k * 23 + 13 := by rw [ByteArray.size_append, ByteArray.size_append]; omega
      have HSZ : Hid (∀ j, j ≤ Z.length → (lineS 45 Z j).size ≤ 9) := Lib.hid fun j hj => sig_line s3 s2 j hj
      have HZG := Lib.hid (fun i hi => sig_get s3 i hi)
      obtain ⟨m, hm⟩ : ∃ m, m = Z.length := ⟨_, rfl⟩
      have HM := Lib.hid hm
      rw [← hm] at hru2 hbl2 hc1 s1 s2 hstep
      clear hru s3 hm
      go_wp2
      generalize wr.alloc (.cells #[.string T, .slice ua m uc] 58) = W at *
      obtain ⟨S1, hS1e⟩ : ∃ S1, S1 = S0 ++ (T ++ ⟨#[32]⟩) := ⟨_, rfl⟩
      rw [← hS1e] at hS1 hstep ⊢
      clear hS1e hq1 hq2
      go_loopw [3, 23] (fun s i wq => ∃ j : Nat, j ≤ m ∧ i = .int .i64 j ∧ s = .string (S1 ++ lineS 45 Z j) ∧ Below W.heap.size W wq) (fun s i wq => m - (intOf i).toNat)
      case atStart => exact ⟨0, Nat.zero_le _, rfl, congrArg Value.string (ByteArray.append_empty (b := S1)).symm, Below.refl _ _⟩
      case round =>
        obtain ⟨j, hj, rfl, rfl, hbq⟩ := hrel
        have hsj := HSZ.out j (by rw [← HM.out]; exact hj)
        have hSj : (S1 ++ lineS 45 Z j).size ≤ k * 23 + 22 := by rw [ByteArray.size_append]; omega
        by_cases hlt2 : j < m
        · obtain ⟨g2, off2, ea, hg2, q⟩ := (hru2.out.later hbq).at_ HM.out j hlt2
          subst ea
          obtain ⟨b0, b1⟩ := HZG.out j (by rw [← HM.out]; exact hlt2)
          obtain ⟨x, hx⟩ : ∃ x : Nat, Z[j]?.getD 0 = (x : Int) := ⟨(Z[j]?.getD 0).toNat, by omega⟩
          have hxt : (Z[j]?.getD 0).toNat = x := by omega
          have hxs := decS_size x
          have hxl : (dec x).length ≤ 2 := dec_len (k := 2) (by omega) (by decide)
          have hszq := hbq.size
          rw [hx] at q b0 b1
          by_cases h0 : j = 0
          · have hst : Hid (S1 ++ lineS 45 Z (j + 1) = S1 ++ lineS 45 Z j ++ decS x) := Lib.hid (by subst h0; rw [lineS_one, hxt, ByteArray.append_assoc])
            have hs : ¬ 9223372036854775807 < (S1 ++ lineS 45 Z j).size + (decS x).size := by omega
            have hk0 : ¬ 0 < (j : Int) := by omega
            have hx62 : x ≤ 4611686018427387904 := by omega
            clear hx hxt hxs hxl h0
            go_wp2_with (go_at_call 45; refine (l1Num_any x _ hx62).mono ?_; rintro e w1 ⟨rfl, hb1⟩)
            go_roundw
            case rel => exact ⟨j + 1, by omega, by go_num, by rw [hst.out], hbq.trans (hb1.mono hszq)⟩
            case measure => simp [intOf]; omega
          · have hst : Hid (S1 ++ lineS 45 Z (j + 1) = S1 ++ lineS 45 Z j ++ ⟨#[45]⟩ ++ decS x) := Lib.hid (by rw [lineS_succ (by omega), hxt]; simp only [ByteArray.append_assoc])
            have hs : ¬ 9223372036854775807 < (S1 ++ lineS 45 Z j).size + (⟨#[45]⟩ : ByteArray).size := by omega
            have hs2 : ¬ 9223372036854775807 < (S1 ++ lineS 45 Z j ++ ⟨#[45]⟩).size + (decS x).size := by rw [ByteArray.size_append]; omega
            have hk0 : 0 < (j : Int) := by omega
            have hx62 : x ≤ 4611686018427387904 := by omega
            clear hx hxt hxs hxl h0
            go_wp2_with (go_at_call 45; refine (l1Num_any x _ hx62).mono ?_; rintro e w1 ⟨rfl, hb1⟩)
            go_roundw
            case rel => exact ⟨j + 1, by omega, by go_num, by rw [hst.out], hbq.trans (hb1.mono hszq)⟩
            case measure => simp [intOf]; omega
        · obtain rfl : j = m := by omega
          have hend : Hid (btT ps (k + 1) = S1 ++ lineS 45 Z j ++ ⟨#[10]⟩) := Lib.hid hstep.out
          have hs : ¬ 9223372036854775807 < (S1 ++ lineS 45 Z j).size + (⟨#[10]⟩ : ByteArray).size := by omega
          go_wp2
          go_roundw
          case rel => exact ⟨k + 1, by omega, by go_num, by rw [hend.out], hbl2.trans (hbq.mono hbl2.size)⟩
          case measure => simp [intOf]; omega
    · obtain rfl : k = n := by omega
      go_wp2
      go_ret
      exact ⟨rfl, hbl⟩

set_option maxRecDepth 100000 in
theorem specBookText_any (v : Value) (ps : List Ph) (w : World) (hr : RdPs w v ps) :
    Calls Tryd.prog 16 #[.agg #[v]] w fun e w' => e = .returned (.tuple #[.string (btB ps), .bool (bookB ps)]) ∧ Below w.heap.size w w' := by
  obtain ⟨a, cap, rfl, hcap⟩ := hr.len
  have hbW := (Below.refl w.heap.size w).alloc (Nat.le_refl _) (.cells #[.slice a ps.length cap] 39)
  have hrW := hr.later hbW
  have hcW : (w.alloc (.cells #[.slice a ps.length cap] 39)).cell? ⟨w.heap.size, 0, none⟩ = some (.slice a ps.length cap) := by simp [go_sem]
  have hsW : w.heap.size < (w.alloc (.cells #[.slice a ps.length cap] 39)).heap.size := by simp
  have HR := Lib.hid hrW
  clear hr hrW
  go_enter Tryd.func16, Tryd.ntmps16
  go_wp2_with fail
  generalize w.alloc (.cells #[.slice a ps.length cap] 39) = W at *
  refine (bkGood_any _ ps _ HR.out).mono ?_
  rintro e w1 ⟨rfl, hb1⟩
  have c1 := hcW ▸ hb1.cell (p := ⟨w.heap.size, 0, none⟩) hsW
  have hB1 := hbW.trans (hb1.mono hbW.size)
  cases h : bookB ps with
  | false =>
    go_wp2
    go_ret2
    exact ⟨by rw [btB_no h, h]; rfl, hB1⟩
  | true =>
    have hR1 := Lib.hid (HR.out.later hb1)
    go_wp2_with fail
    refine (bkText_any _ ps _ hR1.out h).mono ?_
    rintro e w2 ⟨rfl, hb2⟩
    go_wp2
    go_ret2
    exact ⟨by rw [btB_yes h, h]; rfl, hB1.trans (hb2.mono hB1.size)⟩
end Go.Proofs.YtkmdionldaejjaaDoor
