/- Chapter 3: how many lists of steps there are. -/
import Derived.Test.YtpogpehbkgjiaaaSp0
import Derived.RegionTactic
import Derived.ChangeAlike
import Derived.BigRegion
namespace Go.Proofs.Ytpogpehbkgjiaaa
open Go.RowKit
set_option linter.unusedSimpArgs false
set_option linter.unusedVariables false

theorem made_ints (n : Nat) : (madeCells (Value.int .i64 0).cells (n * 1)).toList = (List.range (n * 1)).map fun _ => Value.int .i64 0 := by
  have := toList_madeCells_one (.int .i64 0) n
  rw [Nat.mul_one]
  simpa [Value.cells, List.map_const'] using this

theorem made_row {w w1 : World} {m : Nat} (h : w1.ownsRow w.heap.size 3 1 (.slice (some ⟨w.heap.size, 0, none⟩) m m) m (madeCells (Value.int .i64 0).cells (m * 1)).toList) (hg : w.grownBy w1 none) :
    RowF w1 w.heap.size 3 1 (.slice (some ⟨w.heap.size, 0, none⟩) m m) m (fun _ => .int .i64 0) ∧ Below w.heap.size w w1 := by
  refine ⟨?_, (Below.refl _ _).grown hg (Nat.le_refl _) (fun k h => by cases h)⟩
  unfold RowF; rw [← made_ints]; exact h

set_option maxRecDepth 100000 in
set_option maxHeartbeats 1000000 in
theorem countLists_any (v : Value) (n : Nat) (ss : Nat → List St) (f : Nat → Int) (w : World) (hn : n ≤ 60) (hr : RdSS w v n ss) (ha : Ahead n ss) (hl : ∀ a, a < n → (ss a).length ≤ 40) (hf : Counts n ss f) :
    Calls Try.prog 62 #[v] w fun e w' => e = .returned (.int .i64 (f 0)) ∧ Below w.heap.size w w' := by
  obtain ⟨i0, hi, hz0, hz1, hz2⟩ := info_parts Try_info_int
  obtain ⟨gs, rfl, hgs⟩ := hr.v
  have HR := Lib.hid hr
  have HA := Lib.hid ha
  have HL := Lib.hid hl
  have HF := Lib.hid hf
  clear hr ha hl hf
  obtain ⟨m, hm⟩ : ∃ m, m = n + 1 := ⟨_, rfl⟩
  have HM := Lib.hid hm
  have hm1 : (n : Int) + 1 = (m : Int) := by omega
  have hm2 : (n : Int) < (m : Int) := by omega
  have hm3 : n < m := by omega
  have hm4 : m ≤ 61 := by omega
  have hw1 : IntKind.i64.wrap ((n : Int) + 1) = (m : Int) := by rw [hm1]; exact IntWalk.i64_in _ (by omega)
  obtain ⟨z0, hz0'⟩ : ∃ z0 : Int, z0 = (n : Int) - 1 := ⟨_, rfl⟩
  have HZ := Lib.hid hz0'
  have hw2 : IntKind.i64.wrap ((n : Int) - 1) = z0 := by rw [hz0']; exact IntWalk.i64_in _ (by omega)
  clear hz0'
  clear hm hm1
  go_enter Try.func62, Try.ntmps62
  go_wp2_with (refine wpList_make_full _ rfl _ _ 26 rfl w.heap.size 3 i0 (.int .i64 0) 1 Try.underlying26 hi hz0 hz1 .i64 .i64 _ _ m rfl rfl rfl rfl (by rw [hz2]; omega) (by unfold maxLen; omega) (Nat.le_refl _) ?_; intro w1 hown1 hgrow1; have ho0 := made_row hown1 hgrow1; obtain ⟨ho0, hb0⟩ := ho0; have hc0 := ho0.at_ n (by omega); have hf0 := ho0.frozen n; have HP := Lib.hid (ho0.put n (.int .i64 1)); have hs0 := ho0.lt.2; clear hown1 hgrow1 ho0)
  have hst0 : RowF (w1.setCell ⟨w.heap.size, n, none⟩ (.int .i64 1)) w.heap.size 3 1 (.slice (some ⟨w.heap.size, 0, none⟩) m m) m (fun j => .int .i64 (if n ≤ j then f j else 0)) := HP.out.1.congr fun j hj => by
    have hj' : j < n + 1 := by have := HM.out; omega
    show (if j = n then _ else _) = _
    by_cases e : j = n
    · subst e; rw [if_pos rfl, if_pos (Nat.le_refl _), HF.out.1]
    · rw [if_neg e, if_neg (by omega)]
  have HS0 := Lib.hid hst0
  have hbS := hb0.setCell (p := ⟨w.heap.size, n, none⟩) (Nat.le_refl _) (.int .i64 1)
  clear hst0
  go_loopw [4] (fun i wr => ∃ (k : Nat) (z : Int), k ≤ n ∧ i = .int .i64 z ∧ Hid (z = (k : Int) - 1) ∧ RowF wr w.heap.size 3 1 (.slice (some ⟨w.heap.size, 0, none⟩) m m) m (fun j => .int .i64 (if k ≤ j then f j else 0)) ∧ Below w.heap.size w wr ∧ w.heap.size < wr.heap.size) (fun i _ => (intOf i + 1).toNat)
  case atStart => exact ⟨n, _, Nat.le_refl _, rfl, HZ, HS0.out, hbS, by simpa using hs0⟩
  case round =>
    obtain ⟨k, z, hk, rfl, hz, hrow, hbl, hsz⟩ := hrel
    rcases Nat.eq_zero_or_pos k with rfl | hpos
    · obtain rfl : z = -1 := by have := hz.out; omega
      have hc9 : wr.cell? ⟨w.heap.size, 0, none⟩ = some (.int .i64 (f 0)) := by have := hrow.at_ 0 (by omega); simpa using this
      have hm5 : (0 : Int) < (m : Int) := by omega
      clear hrow
      go_wp2
      go_ret
      exact ⟨rfl, hbl⟩
    · obtain ⟨a, rfl⟩ : ∃ a : Nat, z = (a : Int) := ⟨k - 1, by have := hz.out; omega⟩
      have ha1 : a < n := by have := hz.out; omega
      have HK : Hid (k = a + 1) := Lib.hid (by have := hz.out; omega)
      obtain ⟨-, B', ad, kc, hc, hst, hle⟩ := HR.out.at_ a ha1
      obtain ⟨len, hlen⟩ : ∃ len, len = (ss a).length := ⟨_, rfl⟩
      have hl40 : len ≤ 40 := by rw [hlen]; exact HL.out a ha1
      rw [← hlen] at hc hst hle
      have HLEN := Lib.hid hlen
      have HST := Lib.hid hst
      have hrow2 : RowF wr w.heap.size 3 1 (.slice (some ⟨w.heap.size, 0, none⟩) m m) m (fun j => .int .i64 (if a < j then f j else if j = a then foldW f ((ss a).take 0) else 0)) := hrow.congr fun j hj => by
        have := HK.out
        by_cases h1 : a < j
        · rw [if_pos h1, if_pos (by omega)]
        · rw [if_neg h1, if_neg (by omega)]
          by_cases h2 : j = a
          · rw [if_pos h2]; rfl
          · rw [if_neg h2]
      have hcw := hc ▸ hbl.cell (p := ⟨gs, a, none⟩) hgs
      have HR2 := Lib.hid hrow2
      have ha2 : (a : Int) < (n : Int) := by omega
      have hwa : IntKind.i64.wrap ((a : Int) - 1) = (a : Int) - 1 := IntWalk.i64_in _ (by omega)
      clear hrow hrow2 hlen hst hc hk hpos hz
      rename World => W
      go_wp2
      go_loopw [27] (fun i wr => ∃ q : Nat, q ≤ len ∧ i = .int .i64 q ∧ RowF wr w.heap.size 3 1 (.slice (some ⟨w.heap.size, 0, none⟩) m m) m (fun j => .int .i64 (if a < j then f j else if j = a then foldW f ((ss a).take q) else 0)) ∧ Below w.heap.size w wr ∧ w.heap.size < wr.heap.size) (fun i _ => len - (intOf i).toNat)
      case atStart => exact ⟨0, Nat.zero_le _, rfl, HR2.out, hbl, hsz⟩
      case round =>
        obtain ⟨q, hq, rfl, hrow, hblq, hszq⟩ := hrel
        by_cases hlt : q < len
        · obtain ⟨g2, rfl, -, hg2, hd0, hd1⟩ := OwnSt.at_ (row_below HST.out hblq (fun j hj => (World.ownsRow.lt HST.out j hj).2)) HLEN.out q hlt
          have hmem := HA.out a ha1 _ (stAt_mem (by rw [← HLEN.out]; exact hlt))
          have hsn := take_snoc (l := ss a) (i := q) (by rw [← HLEN.out]; exact hlt)
          obtain ⟨xp, xe, hx⟩ : ∃ xp xe, stAt (ss a) q = (xp, xe) := ⟨_, _, rfl⟩
          rw [hx] at hd0 hd1 hmem hsn
          obtain ⟨he1, he2⟩ := hmem
          simp only at hd0 hd1 he1 he2
          have HSN := Lib.hid hsn
          obtain ⟨A, hA⟩ : ∃ A, A = foldW f ((ss a).take q) := ⟨_, rfl⟩
          have HAA := Lib.hid hA
          have hbA := (Below.refl wr.heap.size wr).alloc (Nat.le_refl _) (.cells #[.int .i64 xp, .int .i64 xe] 71)
          have hrA := hrow.later hbA
          have hblA := hblq.trans (hbA.mono hblq.size)
          have hx1 : (wr.alloc (.cells #[.int .i64 xp, .int .i64 xe] 71)).cell? ⟨wr.heap.size, 1, none⟩ = some (.int .i64 xe) := by simp [go_sem]
          have hszA : w.heap.size < (wr.alloc (.cells #[.int .i64 xp, .int .i64 xe] 71)).heap.size := by simp; omega
          have hca := hrA.at_ a (by omega)
          have hce := hrA.at_ xe (by omega)
          have hfa := hrA.frozen a
          rw [if_neg (by omega), if_pos rfl, ← hA] at hca
          rw [if_pos he1] at hce
          have HPA := Lib.hid (hrA.put a (.int .i64 (wrap64 (A + f xe))))
          have he3 : (xe : Int) < (m : Int) := by omega
          have ha3 : (a : Int) < (m : Int) := by omega
          clear hsn hA hrow hrA hx hblq
          go_wp2
          generalize wr.alloc (.cells #[.int .i64 xp, .int .i64 xe] 71) = WX at *
          generalize wr.heap.size = BX at *
          go_region
          go_wp2
          go_roundw
          case rel =>
            refine ⟨q + 1, by omega, by go_num, ?_, ((hblA.setCell (p := ⟨w.heap.size, a, none⟩) (Nat.le_refl _) _).drew), by simpa using hszA⟩
            refine RowF.later (HPA.out.1.congr fun j hj => ?_) ((Below.refl _ _).drew)
            show (if j = a then _ else _) = _
            by_cases e : j = a
            · subst e; rw [if_pos rfl, if_neg (Nat.lt_irrefl _), if_pos rfl, HSN.out, foldW_snoc, HAA.out]
            · rw [if_neg e]
              by_cases h1 : a < j
              · rw [if_pos h1, if_pos h1]
              · rw [if_neg h1, if_neg h1, if_neg e, if_neg e]
          case measure => simp [intOf]; omega
        · have : q = len := by omega
          subst this
          have HR3 : Hid (RowF wr w.heap.size 3 1 (.slice (some ⟨w.heap.size, 0, none⟩) m m) m (fun j => .int .i64 (if a ≤ j then f j else 0))) := Lib.hid (hrow.congr fun j hj => by
            by_cases h1 : a < j
            · rw [if_pos h1, if_pos (by omega)]
            · rw [if_neg h1]
              by_cases h2 : j = a
              · subst h2; rw [if_pos rfl, if_pos (Nat.le_refl _), HLEN.out, List.take_length, HF.out.2 _ ha1]
              · rw [if_neg h2, if_neg (by omega)])
          clear hrow
          obtain ⟨z1, hz1'⟩ : ∃ z1 : Int, z1 = (a : Int) - 1 := ⟨_, rfl⟩
          have HZ1 := Lib.hid hz1'
          clear hz1'
          go_wp2
          go_roundw
          case rel => exact ⟨a, (a : Int) - 1, by omega, rfl, Lib.hid rfl, HR3.out, hblq, hszq⟩
          case measure => simp [intOf]
end Go.Proofs.Ytpogpehbkgjiaaa
