/- Chapter 2: the first prefix by the program, and whether a book is free of prefixes. -/
import Derived.Test.YtkknmjioihnpkaaBkQ
namespace Go.Proofs.Ytkknmjioihnpkaa
open Go.RowKit
set_option linter.unusedSimpArgs false
set_option linter.unusedVariables false

def preC (ps : List Ph) : Bool := bookB ps && decide (0 ≤ preIZ ps)
theorem preC_no {ps : List Ph} (h : bookB ps = false) : preC ps = false := by simp [preC, h]
theorem preC_yes {ps : List Ph} (h : bookB ps = true) (h2 : 0 ≤ preIZ ps) : preC ps = true := by simp [preC, h, h2]
theorem preC_neg {ps : List Ph} (h2 : preIZ ps < 0) : preC ps = false := by simp [preC]; intro _; exact h2
def freeC (ps : List Ph) : Bool := bookB ps && decide (preIZ ps < 0)

set_option maxHeartbeats 1000000 in
theorem implPrefix_any (v : Value) (ps : List Ph) (w : World) (hr : RdPs w v ps) :
    Calls Try.prog 19 #[.agg #[v]] w fun e w' => e = .returned (.tuple #[.int .i64 (okI (preC ps) (preIZ ps)), .int .i64 (okI (preC ps) (preJZ ps)), .bool (preC ps)]) ∧ Below w.heap.size w w' := by
  obtain ⟨a, cap, rfl, -⟩ := hr.len
  have hbW := (Below.refl w.heap.size w).alloc (Nat.le_refl _) (.cells #[.slice a ps.length cap] 25)
  have hrW := hr.later hbW
  have hcW : (w.alloc (.cells #[.slice a ps.length cap] 25)).cell? ⟨w.heap.size, 0, none⟩ = some (.slice a ps.length cap) := by simp [go_sem]
  have hsW : w.heap.size < (w.alloc (.cells #[.slice a ps.length cap] 25)).heap.size := by simp
  go_enter Try.func19, Try.ntmps19
  go_wp2_with fail
  generalize w.alloc (.cells #[.slice a ps.length cap] 25) = W at *
  refine (implIsBook_any _ ps _ hrW).mono ?_
  rintro e w1 ⟨rfl, hb1⟩
  have c1 := hcW ▸ hb1.cell (p := ⟨w.heap.size, 0, none⟩) hsW
  cases hbk : bookB ps with
  | false =>
    have hf := Lib.hid (preC_no hbk)
    go_wp2
    go_ret3
    exact ⟨by rw [hf.out, okI_no rfl, okI_no rfl]; rfl, hbW.trans (hb1.mono hbW.size)⟩
  | true =>
    have hn40 := (bookB_len hbk).2
    obtain ⟨n, hn⟩ : ∃ n, n = ps.length := ⟨_, rfl⟩
    have HN := Lib.hid hn
    have HR := Lib.hid (hrW.later hb1)
    have HB := Lib.hid hbk
    rw [← hn] at hn40 c1
    have hs1 := Nat.lt_of_lt_of_le hsW hb1.size
    have hbw1 := hbW.trans (hb1.mono hbW.size)
    simp only [← hn]
    clear hn hcW hrW hr
    go_wp2
    clear hb1 hbW hsW
    go_loopw [17] (fun i wr => ∃ k : Nat, k ≤ n ∧ i = .int .i64 k ∧ Below w1.heap.size w1 wr ∧ Hid (∀ m, m < k → rowPre ps m = false)) (fun i wr => n - (intOf i).toNat)
    case atStart => exact ⟨0, Nat.zero_le _, rfl, Below.refl _ _, Lib.hid fun j hj => by omega⟩
    case round =>
      obtain ⟨i, hi, rfl, hbl, hall⟩ := hrel
      have hbc := c1 ▸ hbl.cell (p := ⟨w.heap.size, 0, none⟩) hs1
      have hbs := Nat.lt_of_lt_of_le hs1 hbl.size
      by_cases hlt : i < n
      · obtain ⟨g, off, u, rfl, hg, hts, hc0, hc1, hru⟩ := (HR.out.below hbl (Nat.le_refl _)).at_ (by rw [← HN.out]) i (by rw [← HN.out]; exact hlt)
        obtain ⟨ua, uc, rfl⟩ := hru.rd.len
        have hruW := hru.later ((Below.refl _ wr).alloc (Nat.le_refl _) (.cells #[.string (phAt ps i).txt, .slice ua (phAt ps i).sig.length uc] 33))
        have hblW := hbl.alloc hbl.size (.cells #[.string (phAt ps i).txt, .slice ua (phAt ps i).sig.length uc] 33)
        have hx1 : (wr.alloc (.cells #[.string (phAt ps i).txt, .slice ua (phAt ps i).sig.length uc] 33)).cell? ⟨wr.heap.size, 1, none⟩ = some (.slice ua (phAt ps i).sig.length uc) := by simp [go_sem]
        have hb1 : (wr.alloc (.cells #[.string (phAt ps i).txt, .slice ua (phAt ps i).sig.length uc] 33)).cell? ⟨w.heap.size, 0, none⟩ = some (.slice (some ⟨g, off, none⟩) n cap) := by rw [((Below.refl _ wr).alloc (Nat.le_refl _) _).cell (p := ⟨w.heap.size, 0, none⟩) hbs]; exact hbc
        have hsz : wr.heap.size < (wr.alloc (.cells #[.string (phAt ps i).txt, .slice ua (phAt ps i).sig.length uc] 33)).heap.size := by simp
        have HU := Lib.hid hruW
        clear hru hruW
        go_wp2
        generalize wr.alloc (.cells #[.string (phAt ps i).txt, .slice ua (phAt ps i).sig.length uc] 33) = W2 at *
        generalize wr.heap.size = B at *
        clear hbl hbc hc0 hc1 hb1
        go_loopw [25] (fun k wr => ∃ j : Nat, j ≤ n ∧ k = .int .i64 j ∧ Below W2.heap.size W2 wr ∧ Hid (∀ m, m < j → preB ps i m = false)) (fun k wr => n - (intOf k).toNat)
        case atStart => exact ⟨0, Nat.zero_le _, rfl, Below.refl _ _, Lib.hid fun j hj => by omega⟩
        case round =>
          obtain ⟨j, hj, rfl, hbj, hallj⟩ := hrel
          have hblj := hblW.trans (hbj.mono hblW.size)
          by_cases hltj : j < n
          · obtain ⟨g', off', u2, hge, hg', hts', hd0, hd1, hru2⟩ := (HR.out.below hblj (Nat.le_refl _)).at_ (by rw [← HN.out]) j (by rw [← HN.out]; exact hltj)
            simp only [Option.some.injEq, Addr.mk.injEq, and_true] at hge
            obtain ⟨rfl, rfl⟩ := hge
            obtain ⟨ua2, uc2, rfl⟩ := hru2.rd.len
            have x1 := hx1 ▸ hbj.cell (p := ⟨B, 1, none⟩) hsz
            have hba := fun o => (Below.refl wr.heap.size wr).alloc (Nat.le_refl _) o
            have x2 : ∀ o, (wr.alloc o).cell? ⟨B, 1, none⟩ = some (.slice ua (phAt ps i).sig.length uc) := fun o => by rw [(hba o).cell (p := ⟨B, 1, none⟩) (Nat.lt_of_lt_of_le hsz hbj.size)]; exact x1
            have hbja := fun o => hbj.alloc hbj.size o
            have hu1 := fun o => (HU.out.later hbj).later (hba o)
            have hu2 := fun o => hru2.later (hba o)
            have hkp : (kindOf (phAt ps i).sig (phAt ps j).sig == 1) = preB ps i j := kind_pre HB.out (by rw [← HN.out]; exact hlt) (by rw [← HN.out]; exact hltj)
            cases hp : preB ps i j with
            | true =>
              have hI : Hid (preIZ ps = i) := Lib.hid (preIZ_hit (by rw [← HN.out]; exact hlt) (by rw [← HN.out]; exact hltj) hp hall.out)
              have hJ : Hid (preJZ ps = j) := Lib.hid (preJZ_hit (by rw [← HN.out]; exact hlt) (by rw [← HN.out]; exact hltj) hp hall.out hallj.out)
              have hC : Hid (preC ps = true) := Lib.hid (preC_yes HB.out (by rw [hI.out]; omega))
              rw [hp] at hkp
              clear hp
              go_wp2_with (go_at_call 56; refine (whichBegins_any _ _ (phAt ps i).sig (phAt ps j).sig _ (hu1 _) (hu2 _)).mono ?_; rintro e w1 ⟨vR, rfl, hvR, n1, rfl⟩)
              go_ret3
              exact ⟨by rw [hI.out, hJ.out, hC.out]; rfl, hbw1.trans ((hblW.trans ((below_drewN (hbja _) n1).mono hblW.size)).mono hbw1.size)⟩
            | false =>
              have hallj' : Hid (∀ m, m < j + 1 → preB ps i m = false) := Lib.hid fun m hm => by
                by_cases e : m = j
                · subst e; exact hp
                · exact hallj.out m (by omega)
              rw [hp] at hkp
              clear hp
              go_wp2_with (go_at_call 56; refine (whichBegins_any _ _ (phAt ps i).sig (phAt ps j).sig _ (hu1 _) (hu2 _)).mono ?_; rintro e w1 ⟨vR, rfl, hvR, n1, rfl⟩)
              go_roundw
              case rel => exact ⟨j + 1, by omega, by go_num, below_drewN (hbja _) n1, hallj'⟩
              case measure => simp [intOf]; omega
          · have hall' : Hid (∀ m, m < i + 1 → rowPre ps m = false) := Lib.hid fun m hm => by
              by_cases e : m = i
              · subst e; exact rowPre_no fun q hq => hallj.out q (by rw [← HN.out] at hq; omega)
              · exact hall.out m (by omega)
            go_wp2
            go_roundw
            case rel => exact ⟨i + 1, by omega, by go_num, hblj, hall'⟩
            case measure => simp [intOf]; omega
      · have hC : Hid (preC ps = false) := Lib.hid (preC_neg (by rw [preIZ_none fun m hm => hall.out m (by rw [← HN.out] at hm; omega)]; omega))
        go_wp2
        go_ret3
        exact ⟨by rw [hC.out, okI_no rfl, okI_no rfl]; rfl, hbw1.trans (hbl.mono hbw1.size)⟩

theorem specPrefix_any (v : Value) (ps : List Ph) (w : World) (hr : RdPs w v ps) :
    Calls Try.prog 20 #[.agg #[v]] w fun e w' => e = .returned (.tuple #[.int .i64 (okI (preC ps) (preIZ ps)), .int .i64 (okI (preC ps) (preJZ ps)), .bool (preC ps)]) ∧ Below w.heap.size w w' := by
  obtain ⟨a, cap, rfl, -⟩ := hr.len
  have hbW := (Below.refl w.heap.size w).alloc (Nat.le_refl _) (.cells #[.slice a ps.length cap] 25)
  have hrW := hr.later hbW
  have hcW : (w.alloc (.cells #[.slice a ps.length cap] 25)).cell? ⟨w.heap.size, 0, none⟩ = some (.slice a ps.length cap) := by simp [go_sem]
  have hsW : w.heap.size < (w.alloc (.cells #[.slice a ps.length cap] 25)).heap.size := by simp
  go_enter Try.func20, Try.ntmps20
  go_wp2_with fail
  generalize w.alloc (.cells #[.slice a ps.length cap] 25) = W at *
  refine (bkGood_any _ ps _ hrW).mono ?_
  rintro e w1 ⟨rfl, hb1⟩
  have c1 := hcW ▸ hb1.cell (p := ⟨w.heap.size, 0, none⟩) hsW
  cases hbk : bookB ps with
  | false =>
    have hf := Lib.hid (preC_no hbk)
    go_wp2
    go_ret3
    exact ⟨by rw [hf.out, okI_no rfl, okI_no rfl]; rfl, hbW.trans (hb1.mono hbW.size)⟩
  | true =>
    have HB := Lib.hid hbk
    go_wp2_with fail
    refine (bkPrefix_any _ ps _ (hrW.later hb1)).mono ?_
    rintro e w2 ⟨rfl, hb2⟩
    have hB2 := hbW.trans ((hb1.trans (hb2.mono hb1.size)).mono hbW.size)
    by_cases hp : 0 ≤ preIZ ps
    · have hf := Lib.hid (preC_yes HB.out hp)
      go_wp2
      go_ret3
      exact ⟨by rw [hf.out, okI_yes rfl, okI_yes rfl]; rfl, hB2⟩
    · have hneg : preIZ ps < 0 := by omega
      have hf := Lib.hid (preC_neg hneg)
      clear hp
      go_wp2
      go_ret3
      exact ⟨by rw [hf.out, okI_no rfl, okI_no rfl]; rfl, hB2⟩

theorem freeC_no {ps : List Ph} (h : bookB ps = false) : freeC ps = false := by simp [freeC, h]
theorem freeC_yes {ps : List Ph} (h : bookB ps = true) : freeC ps = decide (preIZ ps < 0) := by simp [freeC, h]
theorem freeC_not {ps : List Ph} (h : bookB ps = true) : (!preC ps) = freeC ps := by
  rw [freeC_yes h]; simp only [preC, h, Bool.true_and]; by_cases h2 : 0 ≤ preIZ ps
  · rw [decide_eq_true h2, decide_eq_false (by omega)]; rfl
  · rw [decide_eq_false h2, decide_eq_true (by omega)]; rfl
theorem specFree_any (v : Value) (ps : List Ph) (w : World) (hr : RdPs w v ps) :
    Calls Try.prog 18 #[.agg #[v]] w fun e w' => e = .returned (.tuple #[.bool (freeC ps), .bool (bookB ps)]) ∧ Below w.heap.size w w' := by
  obtain ⟨a, cap, rfl, -⟩ := hr.len
  have hbW := (Below.refl w.heap.size w).alloc (Nat.le_refl _) (.cells #[.slice a ps.length cap] 25)
  have hrW := hr.later hbW
  have hcW : (w.alloc (.cells #[.slice a ps.length cap] 25)).cell? ⟨w.heap.size, 0, none⟩ = some (.slice a ps.length cap) := by simp [go_sem]
  have hsW : w.heap.size < (w.alloc (.cells #[.slice a ps.length cap] 25)).heap.size := by simp
  go_enter Try.func18, Try.ntmps18
  go_wp2_with fail
  generalize w.alloc (.cells #[.slice a ps.length cap] 25) = W at *
  refine (bkGood_any _ ps _ hrW).mono ?_
  rintro e w1 ⟨rfl, hb1⟩
  have c1 := hcW ▸ hb1.cell (p := ⟨w.heap.size, 0, none⟩) hsW
  cases hbk : bookB ps with
  | false =>
    have hf := Lib.hid (freeC_no hbk)
    go_wp2
    go_ret2
    exact ⟨by rw [hf.out, hbk]; rfl, hbW.trans (hb1.mono hbW.size)⟩
  | true =>
    have hf := Lib.hid (freeC_yes hbk)
    go_wp2_with fail
    refine (bkPrefix_any _ ps _ (hrW.later hb1)).mono ?_
    rintro e w2 ⟨rfl, hb2⟩
    have hB2 := hbW.trans ((hb1.trans (hb2.mono hb1.size)).mono hbW.size)
    go_wp2
    go_ret2
    exact ⟨by rw [hf.out, hbk]; rfl, hB2⟩
theorem implFree_any (v : Value) (ps : List Ph) (w : World) (hr : RdPs w v ps) :
    Calls Try.prog 17 #[.agg #[v]] w fun e w' => e = .returned (.tuple #[.bool (freeC ps), .bool (bookB ps)]) ∧ Below w.heap.size w w' := by
  obtain ⟨a, cap, rfl, -⟩ := hr.len
  have hbW := (Below.refl w.heap.size w).alloc (Nat.le_refl _) (.cells #[.slice a ps.length cap] 25)
  have hrW := hr.later hbW
  have hcW : (w.alloc (.cells #[.slice a ps.length cap] 25)).cell? ⟨w.heap.size, 0, none⟩ = some (.slice a ps.length cap) := by simp [go_sem]
  have hsW : w.heap.size < (w.alloc (.cells #[.slice a ps.length cap] 25)).heap.size := by simp
  go_enter Try.func17, Try.ntmps17
  go_wp2_with fail
  generalize w.alloc (.cells #[.slice a ps.length cap] 25) = W at *
  refine (implIsBook_any _ ps _ hrW).mono ?_
  rintro e w1 ⟨rfl, hb1⟩
  have c1 := hcW ▸ hb1.cell (p := ⟨w.heap.size, 0, none⟩) hsW
  cases hbk : bookB ps with
  | false =>
    have hf := Lib.hid (freeC_no hbk)
    go_wp2
    go_ret2
    exact ⟨by rw [hf.out, hbk]; rfl, hbW.trans (hb1.mono hbW.size)⟩
  | true =>
    have hf := Lib.hid (freeC_not hbk)
    go_wp2_with fail
    refine (implPrefix_any _ ps _ (hrW.later hb1)).mono ?_
    rintro e w2 ⟨rfl, hb2⟩
    have hB2 := hbW.trans ((hb1.trans (hb2.mono hb1.size)).mono hbW.size)
    go_wp2
    go_ret2
    exact ⟨by rw [← hf.out, hbk]; rfl, hB2⟩
end Go.Proofs.Ytkknmjioihnpkaa
