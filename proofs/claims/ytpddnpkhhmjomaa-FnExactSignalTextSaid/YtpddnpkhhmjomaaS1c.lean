/- Chapter 1: texts of signals. -/
import Derived.Test.YtpddnpkhhmjomaaS1
import Derived.Lib.OthersKept
import Derived.Laws.RangeAny
namespace Go.Proofs.Ytpddnpkhhmjomaa
open Go.RowKit
set_option linter.unusedSimpArgs false
set_option linter.unusedVariables false

/-! Plain: texts. -/
def txL (n : Int) (k : Nat) : List UInt8 := (List.range k).map fun i : Nat => if clB n i then 35 else 46
def tx (n : Int) (k : Nat) : ByteArray := ⟨(txL n k).toArray⟩
theorem txL_len (n : Int) (k : Nat) : (txL n k).length = k := by simp [txL]
theorem tx_size (n : Int) (k : Nat) : (tx n k).size = k := by show (txL n k).toArray.size = k; simp [txL_len]
theorem tx_yes (n : Int) (k : Nat) (h : clB n k = true) : tx n (k + 1) = tx n k ++ ⟨#[35]⟩ := by
  show _ = (⟨(txL n k).toArray⟩ : ByteArray) ++ ⟨[35].toArray⟩
  rw [ByteArray.mk_append_mk]
  simp [tx, txL, List.range_succ, h]
theorem tx_no (n : Int) (k : Nat) (h : clB n k = false) : tx n (k + 1) = tx n k ++ ⟨#[46]⟩ := by
  show _ = (⟨(txL n k).toArray⟩ : ByteArray) ++ ⟨[46].toArray⟩
  rw [ByteArray.mk_append_mk]
  simp [tx, txL, List.range_succ, h]
theorem tx_toList (n : Int) (k : Nat) : (tx n k).toList = txL n k := ByteArray.toList_mk _

theorem sgText_any (n : Int) (w : World) (h0 : 0 ≤ n) (h1 : n ≤ 63) :
    Calls Try.prog 42 #[.int .i64 n] w fun e w' => e = .returned (.string (tx n 6)) ∧ w = w' := by
  go_enter Try.func42, Try.ntmps42
  go_wp2
  go_loop [3, 4] (fun v i => ∃ k : Nat, k ≤ 6 ∧ i = .int .i64 k ∧ v = .string (tx n k)) (fun _ i => 6 - (intOf i).toNat)
  case atStart => exact ⟨0, by omega, rfl, rfl⟩
  case round =>
    obtain ⟨k, hk, rfl, rfl⟩ := hrel
    have hsz : (tx n k).size ≤ 6 := by rw [tx_size]; exact hk
    by_cases hlt : k < 6
    · cases hb : clB n k with
      | true =>
        have hs := Lib.hid (tx_yes n k hb)
        go_wp2_with (go_at_call 55; refine (sgClosed_any _ _ _ h0 h1 (by omega) (by omega)).mono ?_; rintro e w' ⟨rfl, rfl⟩)
        go_round
        case rel => exact ⟨k + 1, by omega, by go_num, by rw [hs.out]⟩
        case measure => simp [intOf]; omega
      | false =>
        have hs := Lib.hid (tx_no n k hb)
        go_wp2_with (go_at_call 55; refine (sgClosed_any _ _ _ h0 h1 (by omega) (by omega)).mono ?_; rintro e w' ⟨rfl, rfl⟩)
        go_round
        case rel => exact ⟨k + 1, by omega, by go_num, by rw [hs.out]⟩
        case measure => simp [intOf]; omega
    · obtain rfl : k = 6 := by omega
      go_wp2
      go_ret
      exact ⟨rfl, rfl⟩

/-! ReadSignal. -/
theorem txL_inj (a b : Int) (a0 : 0 ≤ a) (a1 : a ≤ 63) (b0 : 0 ≤ b) (b1 : b ≤ 63) (h : txL a 6 = txL b 6) : a = b := by
  have := all64 (P := fun a => ∀ m : Fin 64, txL a 6 = txL (m.val : Int) 6 → a = (m.val : Int)) (by decide +kernel) a a0 a1 ⟨b.toNat, by omega⟩
  simp only [Int.toNat_of_nonneg b0] at this
  exact this h
def okL (l : List UInt8) : Prop := l.length = 6 ∧ ∀ i, i < 6 → l[i]?.getD 0 = 35 ∨ l[i]?.getD 0 = 46
def valTo (l : List UInt8) : Nat → Int
  | 0 => 0
  | k + 1 => valTo l k + if l[k]?.getD 0 = 35 then 2 ^ k else 0
theorem valTo_bd (l : List UInt8) (k : Nat) : 0 ≤ valTo l k ∧ valTo l k < 2 ^ k := by
  induction k with
  | zero => simp [valTo]
  | succ k ih =>
    have hp : (2 : Int) ^ (k + 1) = 2 ^ k + 2 ^ k := by rw [Int.pow_succ]; omega
    simp only [valTo]
    rw [hp]
    split <;> omega
theorem or_bit (k : Nat) (v : Int) (hk : k < 6) (h0 : 0 ≤ v) (h1 : v < 2 ^ k) : bits BinOp.or IntKind.i64 v (wrap64 (2 ^ k)) = v + 2 ^ k := by
  have h : ∀ j : Fin 6, ∀ m : Fin 64, (m.val : Int) < 2 ^ j.val → bits BinOp.or IntKind.i64 (m.val : Int) (wrap64 (2 ^ j.val)) = (m.val : Int) + 2 ^ j.val := by decide +kernel
  have h2 : (2 : Int) ^ k ≤ 2 ^ 6 := by
    have := Nat.pow_le_pow_right (n := 2) (by decide) (show k ≤ 6 by omega)
    exact_mod_cast this
  have := h ⟨k, hk⟩ ⟨v.toNat, by omega⟩
  simp only [Int.toNat_of_nonneg h0] at this
  exact this h1
theorem val_text (l : List UInt8) (h : okL l) : (0 ≤ valTo l 6 ∧ valTo l 6 ≤ 63) ∧ txL (valTo l 6) 6 = l := by
  obtain ⟨hl, hi⟩ := h
  match l, hl with
  | [a, b, c, d, e, f], _ =>
    have h0 := hi 0 (by omega); have h1 := hi 1 (by omega); have h2 := hi 2 (by omega); have h3 := hi 3 (by omega); have h4 := hi 4 (by omega); have h5 := hi 5 (by omega)
    simp at h0 h1 h2 h3 h4 h5
    rcases h0 with rfl | rfl <;> rcases h1 with rfl | rfl <;> rcases h2 with rfl | rfl <;> rcases h3 with rfl | rfl <;> rcases h4 with rfl | rfl <;> rcases h5 with rfl | rfl <;> decide +kernel
theorem text_ok (n : Int) (h0 : 0 ≤ n) (h1 : n ≤ 63) : okL (txL n 6) := by
  refine ⟨txL_len n 6, fun i hi => ?_⟩
  simp only [txL, List.getElem?_map]
  rw [List.getElem?_range hi]
  simp only [Option.map_some, Option.getD_some]
  split
  · exact .inl rfl
  · exact .inr rfl

theorem specRead_yes (s : ByteArray) (w : World) (h : okL s.toList) :
    Calls Try.prog 22 #[.string s] w fun e w' => e = .returned (.tuple #[.int .i64 (valTo s.toList 6), .bool true]) ∧ w = w' := by
  obtain ⟨⟨v0, v1⟩, ht⟩ := val_text _ h
  obtain ⟨m, hm⟩ : ∃ m : Nat, valTo s.toList 6 = m := ⟨(valTo s.toList 6).toNat, by omega⟩
  rw [hm] at v0 v1 ht ⊢
  have HT := Lib.hid ht
  clear ht hm h
  go_enter Try.func22, Try.ntmps22
  go_wp2
  go_loop [4] (fun i => ∃ k : Nat, k ≤ m ∧ i = .int .i64 k) (fun i => 64 - (intOf i).toNat)
  case atStart => exact ⟨0, by omega, rfl⟩
  case round =>
    obtain ⟨k, hk, rfl⟩ := hrel
    by_cases hlt : k < m
    · have hne : ((tx k 6).toList == s.toList) = false := by
        rw [tx_toList, beq_eq_false_iff_ne, ← HT.out]
        intro e
        have := txL_inj k m (by omega) (by omega) v0 v1 e
        omega
      go_wp2_with (go_at_call 42; refine (sgText_any _ _ (by omega) (by omega)).mono ?_; rintro e w' ⟨rfl, rfl⟩)
      go_round
      case rel => exact ⟨k + 1, by omega, by go_num⟩
      case measure => simp [intOf]; omega
    · obtain rfl : k = m := by omega
      have he : ((tx k 6).toList == s.toList) = true := by rw [tx_toList, HT.out]; simp
      go_wp2_with (go_at_call 42; refine (sgText_any _ _ (by omega) (by omega)).mono ?_; rintro e w' ⟨rfl, rfl⟩)
      go_ret2
      exact ⟨rfl, rfl⟩
theorem specRead_no (s : ByteArray) (w : World) (h : ¬ okL s.toList) :
    Calls Try.prog 22 #[.string s] w fun e w' => e = .returned (.tuple #[.int .i64 0, .bool false]) ∧ w = w' := by
  have hne : ∀ k : Nat, k < 64 → ((tx k 6).toList == s.toList) = false := by
    intro k hk
    rw [tx_toList, beq_eq_false_iff_ne]
    intro e
    exact h (e ▸ text_ok k (by omega) (by omega))
  have HNE := Lib.hid hne
  clear hne h
  go_enter Try.func22, Try.ntmps22
  go_wp2
  go_loop [4] (fun i => ∃ k : Nat, k ≤ 64 ∧ i = .int .i64 k) (fun i => 64 - (intOf i).toNat)
  case atStart => exact ⟨0, by omega, rfl⟩
  case round =>
    obtain ⟨k, hk, rfl⟩ := hrel
    by_cases hlt : k < 64
    · have hne := HNE.out k hlt
      go_wp2_with (go_at_call 42; refine (sgText_any _ _ (by omega) (by omega)).mono ?_; rintro e w' ⟨rfl, rfl⟩)
      go_round
      case rel => exact ⟨k + 1, by omega, by go_num⟩
      case measure => simp [intOf]; omega
    · go_wp2
      go_ret2
      exact ⟨rfl, rfl⟩

theorem implRead_yes (s : ByteArray) (w : World) (h : okL s.toList) :
    Calls Try.prog 23 #[.string s] w fun e w' => e = .returned (.tuple #[.int .i64 (valTo s.toList 6), .bool true]) ∧ Below w.heap.size w w' := by
  have hs : s.size = 6 := by have := h.1; rw [ByteArray.toList_eq] at this; simpa using this
  have hse : ((s.size : Int) != 6) = false := by simp [hs]
  have HS := Lib.hid hs
  clear hs
  go_enter Try.func23, Try.ntmps23
  go_wp2
  go_loopw [4] (fun n wr => ∃ k : Nat, k ≤ 6 ∧ n = .int .i64 (valTo s.toList k) ∧ wr.heap[w.heap.size]? = some (.stringIter s k) ∧ Below w.heap.size w wr) (fun _ wr => 6 - wr.iterPos w.heap.size)
  case atStart => exact ⟨0, by omega, rfl, by have := World.iter_heap w s 0; simpa using this, (Below.refl _ w).alloc (Nat.le_refl _) _⟩
  case round =>
    obtain ⟨k, hk, rfl, hit, hb⟩ := hrel
    have hsz : w.heap.size < wr.heap.size := (Array.getElem?_eq_some_iff.1 hit).1
    by_cases hlt : k < 6
    · have hks : k < s.size := by rw [HS.out]; exact hlt
      have hbyte := h.2 k hlt
      have hgb : s.toList[k]?.getD 0 = s[k]'hks := by
        rw [ByteArray.toList_eq, List.getElem?_eq_getElem (by simpa using hks)]
        rfl
      rw [hgb] at hbyte
      have ha : (s[k]'hks).toNat < 128 := by rcases hbyte with h | h <;> rw [h] <;> decide
      have hnx : ∀ ty, (Instr.next (.pointer (some ⟨w.heap.size, 0, none⟩)) true ty).run Try.prog wr = _ := fun ty => Lib.run_next_ascii_at wr w.heap.size s k ty hit hks ha
      have hit2 := Lib.iterAt_heap wr w.heap.size s k (k + 1) hit
      have hb2 := Lib.below_iterAt hb (k := w.heap.size) (Nat.le_refl _) s (k + 1)
      rcases hbyte with hb35 | hb46
      · rw [hb35] at hnx
        have hv := valTo_bd s.toList k
        have HB := Lib.hid (or_bit k (valTo s.toList k) hlt hv.1 hv.2)
        clear hv
        go_wp2
        go_roundw
        case rel => exact ⟨k + 1, by omega, by rw [HB.out]; simp only [valTo]; rw [hgb, hb35]; simp, hit2, hb2⟩
        case measure => simp only [World.iterPos, hit2, hit]; omega
      · rw [hb46] at hnx
        go_wp2
        go_roundw
        case rel => exact ⟨k + 1, by omega, by simp only [valTo]; rw [hgb, hb46]; simp, hit2, hb2⟩
        case measure => simp only [World.iterPos, hit2, hit]; omega
    · obtain rfl : k = 6 := by omega
      have hnx : ∀ ty, (Instr.next (.pointer (some ⟨w.heap.size, 0, none⟩)) true ty).run Try.prog wr = _ := fun ty => Lib.run_next_end_at wr w.heap.size s 6 ty hit (by rw [HS.out]; omega)
      go_wp2
      go_ret2
      exact ⟨rfl, hb⟩

theorem implRead_no (s : ByteArray) (w : World) (h : ¬ okL s.toList) :
    Calls Try.prog 23 #[.string s] w fun e w' => e = .returned (.tuple #[.int .i64 0, .bool false]) ∧ Below w.heap.size w w' := by
  by_cases hs : s.size = 6
  · have hse : ((s.size : Int) != 6) = false := by simp [hs]
    have HS := Lib.hid hs
    have hbad : ∃ j, j < 6 ∧ s.toList[j]?.getD 0 ≠ 35 ∧ s.toList[j]?.getD 0 ≠ 46 := by
      refine Classical.byContradiction fun hn => h ⟨?_, fun i hi => ?_⟩
      · rw [ByteArray.toList_eq]; simpa using hs
      · refine Classical.byContradiction fun hh => hn ⟨i, hi, ?_, ?_⟩
        · intro e; exact hh (.inl e)
        · intro e; exact hh (.inr e)
    have HBAD := Lib.hid hbad
    clear hs hbad h
    go_enter Try.func23, Try.ntmps23
    go_wp2
    go_loopw [4] (fun n wr => ∃ k : Nat, k ≤ 6 ∧ n = .int .i64 (valTo s.toList k) ∧ wr.heap[w.heap.size]? = some (.stringIter s k) ∧ Below w.heap.size w wr ∧ Hid (∀ j, j < k → s.toList[j]?.getD 0 = 35 ∨ s.toList[j]?.getD 0 = 46)) (fun _ wr => 6 - wr.iterPos w.heap.size)
    case atStart => exact ⟨0, by omega, rfl, by have := World.iter_heap w s 0; simpa using this, (Below.refl _ w).alloc (Nat.le_refl _) _, Lib.hid fun j hj => by omega⟩
    case round =>
      obtain ⟨k, hk, rfl, hit, hb, hok⟩ := hrel
      have hsz : w.heap.size < wr.heap.size := (Array.getElem?_eq_some_iff.1 hit).1
      have hlt : k < 6 := by
        obtain ⟨j, hj, h1, h2⟩ := HBAD.out
        refine Nat.lt_of_not_le fun hge => ?_
        rcases hok.out j (by omega) with e | e
        · exact h1 e
        · exact h2 e
      have hks : k < s.size := by rw [HS.out]; exact hlt
      have hgb : s.toList[k]?.getD 0 = s[k]'hks := by
        rw [ByteArray.toList_eq, List.getElem?_eq_getElem (by simpa using hks)]
        rfl
      by_cases hb35 : s[k]'hks = 35
      · have ha : (s[k]'hks).toNat < 128 := by rw [hb35]; decide
        have hnx : ∀ ty, (Instr.next (.pointer (some ⟨w.heap.size, 0, none⟩)) true ty).run Try.prog wr = _ := fun ty => Lib.run_next_ascii_at wr w.heap.size s k ty hit hks ha
        have hit2 := Lib.iterAt_heap wr w.heap.size s k (k + 1) hit
        have hb2 := Lib.below_iterAt hb (k := w.heap.size) (Nat.le_refl _) s (k + 1)
        have hv := valTo_bd s.toList k
        have HB := Lib.hid (or_bit k (valTo s.toList k) hlt hv.1 hv.2)
        have hok2 : Hid (∀ j, j < k + 1 → s.toList[j]?.getD 0 = 35 ∨ s.toList[j]?.getD 0 = 46) := Lib.hid fun j hj => by
          by_cases e : j = k
          · rw [e, hgb]; exact .inl hb35
          · exact hok.out j (by omega)
        have HK := Lib.hid hgb
        have H35 := Lib.hid hb35
        rw [hb35] at hnx
        clear hv hb35 hgb hok
        go_wp2
        go_roundw
        case rel => exact ⟨k + 1, by omega, by rw [HB.out]; simp only [valTo]; rw [HK.out, H35.out]; simp, hit2, hb2, hok2⟩
        case measure => simp only [World.iterPos, hit2, hit]; omega
      · by_cases hb46 : s[k]'hks = 46
        · have ha : (s[k]'hks).toNat < 128 := by rw [hb46]; decide
          have hnx : ∀ ty, (Instr.next (.pointer (some ⟨w.heap.size, 0, none⟩)) true ty).run Try.prog wr = _ := fun ty => Lib.run_next_ascii_at wr w.heap.size s k ty hit hks ha
          have hit2 := Lib.iterAt_heap wr w.heap.size s k (k + 1) hit
          have hb2 := Lib.below_iterAt hb (k := w.heap.size) (Nat.le_refl _) s (k + 1)
          have hok2 : Hid (∀ j, j < k + 1 → s.toList[j]?.getD 0 = 35 ∨ s.toList[j]?.getD 0 = 46) := Lib.hid fun j hj => by
            by_cases e : j = k
            · rw [e, hgb]; exact .inr hb46
            · exact hok.out j (by omega)
          have HK := Lib.hid hgb
          have H46 := Lib.hid hb46
          rw [hb46] at hnx
          clear hb46 hgb hok hb35
          go_wp2
          go_roundw
          case rel => exact ⟨k + 1, by omega, by simp only [valTo]; rw [HK.out, H46.out]; simp, hit2, hb2, hok2⟩
          case measure => simp only [World.iterPos, hit2, hit]; omega
        · -- another byte: the rune is neither
          have hr : ((Utf8.decode s k).1 : Int) ≠ 35 ∧ ((Utf8.decode s k).1 : Int) ≠ 46 := by
            by_cases ha : (s[k]'hks).toNat < 128
            · rw [decode_ascii s k hks ha]
              refine ⟨fun e => hb35 ?_, fun e => hb46 ?_⟩
              · apply UInt8.toNat_inj.1; have : UInt8.toNat 35 = 35 := rfl; simp at e; omega
              · apply UInt8.toNat_inj.1; have : UInt8.toNat 46 = 46 := rfl; simp at e; omega
            · have := (decode_high s k hks (by omega)).1
              omega
          have r35 : (((Utf8.decode s k).1 : Int) == 35) = false := beq_eq_false_iff_ne.2 hr.1
          have r46 : (((Utf8.decode s k).1 : Int) == 46) = false := beq_eq_false_iff_ne.2 hr.2
          have hnx : ∀ ty, (Instr.next (.pointer (some ⟨w.heap.size, 0, none⟩)) true ty).run Try.prog wr = _ := fun ty => Lib.run_next_any_at wr w.heap.size s k ty hit hks
          have hb2 := Lib.below_iterAt hb (k := w.heap.size) (Nat.le_refl _) s (k + (Utf8.decode s k).2)
          clear hr hb35 hb46 hgb hok
          go_wp2
          go_ret2
          exact ⟨rfl, hb2⟩
  · have hse : ((s.size : Int) != 6) = true := by rw [bne_iff_ne]; omega
    go_enter Try.func23, Try.ntmps23
    go_wp2
    go_ret2
    exact ⟨rfl, Below.refl _ _⟩
end Go.Proofs.Ytpddnpkhhmjomaa
