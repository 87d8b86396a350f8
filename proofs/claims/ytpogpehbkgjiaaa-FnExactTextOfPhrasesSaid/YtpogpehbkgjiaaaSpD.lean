/- Chapter 3: texts of phrases with some indices. -/
import Derived.Test.YtpogpehbkgjiaaaSpB
namespace Go.Proofs.Ytpogpehbkgjiaaa
open Go.RowKit
set_option linter.unusedSimpArgs false
set_option linter.unusedVariables false

def tpC (ps : List Ph) (l : List Int) : Bool := bookB ps && (decide (l.length ≤ 40) && allIn l 0 ((ps.length : Int) - 1))
def tpT (ps : List Ph) (l : List Int) : ByteArray := if tpC ps l = true then txtB ps l else ⟨#[]⟩
theorem tpC_no1 {ps : List Ph} {l : List Int} (h : bookB ps = false) : tpC ps l = false := by simp [tpC, h]
theorem tpC_no2 {ps : List Ph} {l : List Int} (h : ¬ l.length ≤ 40) : tpC ps l = false := by simp [tpC, h]
theorem tpC_no3 {ps : List Ph} {l : List Int} (h : allIn l 0 ((ps.length : Int) - 1) = false) : tpC ps l = false := by simp [tpC, h]
theorem tpC_yes {ps : List Ph} {l : List Int} (h : bookB ps = true) (h2 : l.length ≤ 40) (h3 : allIn l 0 ((ps.length : Int) - 1) = true) : tpC ps l = true := by simp [tpC, h, h2, h3]
theorem tpT_no {ps : List Ph} {l : List Int} (h : tpC ps l = false) : tpT ps l = ⟨#[]⟩ := by simp [tpT, h]
theorem tpT_yes {ps : List Ph} {l : List Int} (h : tpC ps l = true) : tpT ps l = txtB ps l := by simp [tpT, h]
theorem allIn_in {ps : List Ph} {l : List Int} (h : allIn l 0 ((ps.length : Int) - 1) = true) : ∀ k, k < l.length → 0 ≤ l[k]?.getD 0 ∧ l[k]?.getD 0 < (ps.length : Int) := fun k hk => by
  have := allIn_get h k hk; omega
theorem l1All_is (v : Value) (zs : List Int) (lo hi : Int) (b : Bool) (w : World) (h : allIn zs lo hi = b) (hr : Rd w v zs) :
    Calls Try.prog 64 #[v, .int .i64 lo, .int .i64 hi] w fun e w' => e = .returned (.bool b) ∧ w = w' := by subst h; exact l1All_any v zs lo hi w hr

theorem specTexts_any (v u : Value) (ps : List Ph) (l : List Int) (w : World) (hr : RdPs w v ps) (hu : RdC w u l) :
    Calls Try.prog 32 #[.agg #[v], u] w fun e w' => e = .returned (.tuple #[.string (tpT ps l), .bool (tpC ps l)]) ∧ Below w.heap.size w w' := by
  have hm := hu.rd.max
  unfold maxLen at hm
  obtain ⟨a, cap, rfl, -⟩ := hr.len
  have hb0 := (Below.refl w.heap.size w).alloc (Nat.le_refl _) (.cells #[.slice a ps.length cap] 31)
  have hrW := hr.later hb0
  have huW := hu.later hb0
  have hx0 : (w.alloc (.cells #[.slice a ps.length cap] 31)).cell? ⟨w.heap.size, 0, none⟩ = some (.slice a ps.length cap) := by simp [go_sem]
  have hsz0 : w.heap.size < (w.alloc (.cells #[.slice a ps.length cap] 31)).heap.size := by simp
  obtain ⟨-, au, cu, rfl, hcu⟩ := id hu
  cases hbk : bookB ps with
  | false =>
    have hC := Lib.hid (tpC_no1 (l := l) hbk)
    go_enter Try.func32, Try.ntmps32
    go_wp2_with fail
    generalize w.alloc (.cells #[.slice a ps.length cap] 31) = W at *
    refine (bkGood_is _ ps false _ hbk hrW).mono ?_
    rintro e w1 ⟨rfl, hb1⟩
    go_wp2
    go_ret2
    exact ⟨by rw [tpT_no hC.out, hC.out]; rfl, hb0.trans (hb1.mono hb0.size)⟩
  | true =>
    by_cases hl : l.length ≤ 40
    · obtain ⟨z, hz⟩ : ∃ z : Int, z = (ps.length : Int) - 1 := ⟨_, rfl⟩
      have hp40 := bookB_len hbk
      have hw2 : IntKind.i64.wrap ((ps.length : Int) - 1) = z := by rw [hz]; exact IntWalk.i64_in _ (by omega)
      have HZ := Lib.hid hz
      clear hz
      cases hal : allIn l 0 z with
      | false =>
        have hC : Hid (tpC ps l = false) := Lib.hid (tpC_no3 (by rw [← HZ.out]; exact hal))
        go_enter Try.func32, Try.ntmps32
        go_wp2_with fail
        generalize w.alloc (.cells #[.slice a ps.length cap] 31) = W at *
        refine (bkGood_is _ ps true _ hbk hrW).mono ?_
        rintro e w1 ⟨rfl, hb1⟩
        have c1 := hx0 ▸ hb1.cell (p := ⟨w.heap.size, 0, none⟩) hsz0
        go_wp2_with fail
        refine (l1All_is _ l _ _ false _ hal (huW.later hb1).rd).mono ?_
        rintro e w2 ⟨rfl, rfl⟩
        go_wp2
        go_ret2
        exact ⟨by rw [tpT_no hC.out, hC.out]; rfl, hb0.trans (hb1.mono hb0.size)⟩
      | true =>
        have hal' : allIn l 0 ((ps.length : Int) - 1) = true := by rw [← HZ.out]; exact hal
        have hC := Lib.hid (tpC_yes hbk hl hal')
        have hT := Lib.hid (tpT_yes hC.out)
        have HIN := Lib.hid (allIn_in hal')
        clear hal'
        go_enter Try.func32, Try.ntmps32
        go_wp2_with fail
        generalize w.alloc (.cells #[.slice a ps.length cap] 31) = W at *
        refine (bkGood_is _ ps true _ hbk hrW).mono ?_
        rintro e w1 ⟨rfl, hb1⟩
        have c1 := hx0 ▸ hb1.cell (p := ⟨w.heap.size, 0, none⟩) hsz0
        go_wp2_with fail
        refine (l1All_is _ l _ _ true _ hal (huW.later hb1).rd).mono ?_
        rintro e w2 ⟨rfl, rfl⟩
        go_wp2_with fail
        refine (spText_any _ _ ps l _ (hrW.later hb1) (huW.later hb1) hbk HIN.out (by omega)).mono ?_
        rintro e w3 ⟨rfl, hb3⟩
        go_wp2
        go_ret2
        exact ⟨by rw [hT.out, hC.out]; rfl, hb0.trans ((hb1.trans (hb3.mono hb1.size)).mono hb0.size)⟩
    · have hC := Lib.hid (tpC_no2 (ps := ps) hl)
      go_enter Try.func32, Try.ntmps32
      go_wp2_with fail
      generalize w.alloc (.cells #[.slice a ps.length cap] 31) = W at *
      refine (bkGood_is _ ps true _ hbk hrW).mono ?_
      rintro e w1 ⟨rfl, hb1⟩
      go_wp2
      go_ret2
      exact ⟨by rw [tpT_no hC.out, hC.out]; rfl, hb0.trans (hb1.mono hb0.size)⟩

theorem implTexts_any (v u : Value) (ps : List Ph) (l : List Int) (w : World) (hr : RdPs w v ps) (hu : RdC w u l) :
    Calls Try.prog 34 #[.agg #[v], u] w fun e w' => e = .returned (.tuple #[.string (tpT ps l), .bool (tpC ps l)]) ∧ Below w.heap.size w w' := by
  have hm := hu.rd.max
  unfold maxLen at hm
  obtain ⟨a, cap, rfl, -⟩ := hr.len
  have hb0 := (Below.refl w.heap.size w).alloc (Nat.le_refl _) (.cells #[.slice a ps.length cap] 31)
  have hrW := hr.later hb0
  have huW := hu.later hb0
  have hx0 : (w.alloc (.cells #[.slice a ps.length cap] 31)).cell? ⟨w.heap.size, 0, none⟩ = some (.slice a ps.length cap) := by simp [go_sem]
  have hsz0 : w.heap.size < (w.alloc (.cells #[.slice a ps.length cap] 31)).heap.size := by simp
  obtain ⟨-, au, cu, rfl, hcu⟩ := id hu
  cases hbk : bookB ps with
  | false =>
    have hC := Lib.hid (tpC_no1 (l := l) hbk)
    go_enter Try.func34, Try.ntmps34
    go_wp2_with fail
    generalize w.alloc (.cells #[.slice a ps.length cap] 31) = W at *
    refine (implIsBook_is _ ps false _ hbk hrW).mono ?_
    rintro e w1 ⟨rfl, hb1⟩
    go_wp2
    go_ret2
    exact ⟨by rw [tpT_no hC.out, hC.out]; rfl, hb0.trans (hb1.mono hb0.size)⟩
  | true =>
    by_cases hl : l.length ≤ 40
    · go_enter Try.func34, Try.ntmps34
      go_wp2_with fail
      generalize w.alloc (.cells #[.slice a ps.length cap] 31) = W at *
      refine (implIsBook_is _ ps true _ hbk hrW).mono ?_
      rintro e w1 ⟨rfl, hb1⟩
      have c1 := hx0 ▸ hb1.cell (p := ⟨w.heap.size, 0, none⟩) hsz0
      have hB1 := hb0.trans (hb1.mono hb0.size)
      obtain ⟨n, hn⟩ : ∃ n, n = l.length := ⟨_, rfl⟩
      have HN := Lib.hid hn
      obtain ⟨np, hnp⟩ : ∃ np, np = ps.length := ⟨_, rfl⟩
      have HNP := Lib.hid hnp
      have HR := Lib.hid (hrW.later hb1)
      have HU := Lib.hid (huW.later hb1)
      have HL := Lib.hid hl
      have HB := Lib.hid hbk
      rw [← hnp] at c1 HR ⊢
      rw [← hn] at HU hl hm ⊢
      clear hn hnp hrW huW hr hu hx0 hsz0 hbk hcu
      go_wp2
      go_loopw [18] (fun i wr => ∃ k : Nat, k ≤ n ∧ i = .int .i64 k ∧ wr = w1 ∧ Hid (∀ j, j < k → inB (l[j]?.getD 0) 0 ((np : Int) - 1) = true)) (fun i _ => n - (intOf i).toNat)
      case atStart => exact ⟨0, Nat.zero_le _, rfl, rfl, Lib.hid fun j hj => by omega⟩
      case round =>
        obtain ⟨k, hk, rfl, rfl, hall⟩ := hrel
        by_cases hlt : k < n
        · obtain ⟨gu, ou, rfl, hgu, hcz⟩ := HU.out.rd.at_ HN.out k hlt
          obtain ⟨z, hz⟩ : ∃ z, z = l[k]?.getD 0 := ⟨_, rfl⟩
          have HZ := Lib.hid hz
          rw [← hz] at hcz
          clear hz
          have HNO : Hid (inB z 0 ((np : Int) - 1) = false → tpC ps l = false) := Lib.hid fun h => tpC_no3 (allIn_false l _ _ k (by rw [← HN.out]; exact hlt) (by rw [← HZ.out, ← HNP.out]; exact h))
          by_cases h1 : z < 0
          · have hC := Lib.hid (HNO.out (inB_no (.inl h1)))
            go_wp2
            go_ret2
            exact ⟨by rw [tpT_no hC.out, hC.out]; rfl, hB1⟩
          · by_cases h2 : (np : Int) ≤ z
            · have hC := Lib.hid (HNO.out (inB_no (.inr (by omega))))
              go_wp2
              go_ret2
              exact ⟨by rw [tpT_no hC.out, hC.out]; rfl, hB1⟩
            · have hall' : Hid (∀ j, j < k + 1 → inB (l[j]?.getD 0) 0 ((np : Int) - 1) = true) := Lib.hid fun j hj => by
                by_cases e : j = k
                · subst e; rw [← HZ.out]; exact inB_yes (by omega) (by omega)
                · exact hall.out j (by omega)
              go_wp2
              go_roundw
              case rel => exact ⟨k + 1, by omega, by go_num, by first | rfl | trivial, hall'⟩
              case measure => simp [intOf]; omega
        · have hal : allIn l 0 ((ps.length : Int) - 1) = true := allIn_true l _ _ fun j hj => by rw [← HNP.out]; exact hall.out j (by rw [← HN.out] at hj; omega)
          have hC := Lib.hid (tpC_yes HB.out HL.out hal)
          have hT := Lib.hid (tpT_yes hC.out)
          have HIN := Lib.hid (allIn_in hal)
          clear hal
          go_wp2_with fail
          refine (joinedTexts_any _ _ ps l _ HR.out HU.out HB.out HIN.out (by have := HL.out; omega)).mono ?_
          rintro e w3 ⟨rfl, hb3⟩
          go_wp2
          go_ret2
          exact ⟨by rw [hT.out, hC.out]; rfl, hB1.trans (hb3.mono hB1.size)⟩
    · have hC := Lib.hid (tpC_no2 (ps := ps) hl)
      go_enter Try.func34, Try.ntmps34
      go_wp2_with fail
      generalize w.alloc (.cells #[.slice a ps.length cap] 31) = W at *
      refine (implIsBook_is _ ps true _ hbk hrW).mono ?_
      rintro e w1 ⟨rfl, hb1⟩
      go_wp2
      go_ret2
      exact ⟨by rw [tpT_no hC.out, hC.out]; rfl, hb0.trans (hb1.mono hb0.size)⟩
end Go.Proofs.Ytpogpehbkgjiaaa
