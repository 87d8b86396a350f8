/- Chapter 2: phrase texts. -/
import Derived.Test.YtkmdionldaejjaaDoorBk0
import Derived.Test.YtkmdionldaejjaaDoorChecked
import Derived.Outline
import Derived.Deep.QuietTactic
import Derived.BigQuiet
namespace Go.Proofs.YtkmdionldaejjaaDoor
open Go.RowKit
set_option linter.unusedSimpArgs false
set_option linter.unusedVariables false

theorem ret_int {k : IntKind} {a b : Int} (h : a = b) : Ending.returned (.int k a) = .returned (.int k b) := by rw [h]
theorem ret_bool {a b : Bool} (h : a = b) : Ending.returned (.bool a) = .returned (.bool b) := by rw [h]

theorem bkLetters_any (s : ByteArray) (w : World) (hs : s.size ≤ maxLen) :
    Calls Tryd.prog 71 #[.string s] w fun e w' => e = .returned (.bool (begB s)) ∧ w = w' := by
  unfold maxLen at hs
  go_enter Tryd.func71, Tryd.ntmps71
  go_wp2
  go_loop [3] (fun i => ∃ k : Nat, k ≤ s.size ∧ i = .int .i64 k ∧ Hid (∀ j, (hj : j < s.size) → j < k → 97 ≤ (s[j].toNat : Int) ∧ (s[j].toNat : Int) ≤ 122)) (fun i => s.size - (intOf i).toNat)
  case atStart => exact ⟨0, Nat.zero_le _, rfl, Lib.hid fun j _ hj => by omega⟩
  case round =>
    obtain ⟨k, hk, rfl, hall⟩ := hrel
    by_cases hlt : k < s.size
    · by_cases hg : 97 ≤ (s[k].toNat : Int) ∧ (s[k].toNat : Int) ≤ 122
      · obtain ⟨g0, g1⟩ := hg
        have hall' : Hid (∀ j, (hj : j < s.size) → j < k + 1 → 97 ≤ (s[j].toNat : Int) ∧ (s[j].toNat : Int) ≤ 122) := Lib.hid fun j hj hjk => by
          by_cases e : j = k
          · subst e; exact ⟨g0, g1⟩
          · exact hall.out j hj (by omega)
        go_wp2
        go_round
        case rel => exact ⟨k + 1, by omega, by go_num, hall'⟩
        case measure => simp [intOf]; omega
      · have hf : Hid (letB s.data.toList = false) := Lib.hid (letB_no hlt (by omega))
        by_cases h1 : (s[k].toNat : Int) < 97
        · clear hg
          go_wp2
          go_ret
          exact ⟨ret_bool (by simp [begB, hf.out]), rfl⟩
        · have h2 : 122 < (s[k].toNat : Int) := by omega
          clear hg
          go_wp2
          go_ret
          exact ⟨ret_bool (by simp [begB, hf.out]), rfl⟩
    · have hf : Hid (letB s.data.toList = true) := Lib.hid (letB_yes fun j hj => hall.out j hj (by omega))
      go_wp2
      go_ret
      exact ⟨ret_bool (by simp [begB, hf.out]; omega), rfl⟩

theorem areLetters_any (s : ByteArray) (w : World) (hs : s.size ≤ maxLen) :
    Calls Tryd.prog 107 #[.string s] w fun e w' => e = .returned (.bool (letB s.data.toList)) ∧ Below w.heap.size w w' := by
  unfold maxLen at hs
  go_enter Tryd.func107, Tryd.ntmps107
  go_wp2
  go_loopw [] (fun wr => ∃ k : Nat, k ≤ s.size ∧ wr.heap[w.heap.size]? = some (.stringIter s k) ∧ Below w.heap.size w wr ∧ Hid (∀ j, (hj : j < s.size) → j < k → 97 ≤ (s[j].toNat : Int) ∧ (s[j].toNat : Int) ≤ 122)) (fun wr => s.size - wr.iterPos w.heap.size)
  case atStart => exact ⟨0, Nat.zero_le _, by have := World.iter_heap w s 0; simpa using this, (Below.refl _ w).alloc (Nat.le_refl _) _, Lib.hid fun j _ hj => by omega⟩
  case round =>
    obtain ⟨k, hk, hit, hb, hall⟩ := hrel
    have hsz : w.heap.size < wr.heap.size := (Array.getElem?_eq_some_iff.1 hit).1
    by_cases hks : k < s.size
    · have hit2 := Lib.iterAt_heap wr w.heap.size s k (k + 1) hit
      have hb2 := Lib.below_iterAt hb (k := w.heap.size) (Nat.le_refl _) s (k + 1)
      by_cases hg : 97 ≤ (s[k].toNat : Int) ∧ (s[k].toNat : Int) ≤ 122
      · obtain ⟨g0, g1⟩ := hg
        have ha : (s[k]'hks).toNat < 128 := by omega
        have hnx : ∀ ty, (Instr.next (.pointer (some ⟨w.heap.size, 0, none⟩)) true ty).run Tryd.prog wr = _ := fun ty => Lib.run_next_ascii_at wr w.heap.size s k ty hit hks ha
        have hall' : Hid (∀ j, (hj : j < s.size) → j < k + 1 → 97 ≤ (s[j].toNat : Int) ∧ (s[j].toNat : Int) ≤ 122) := Lib.hid fun j hj hjk => by
          by_cases e : j = k
          · subst e; exact ⟨g0, g1⟩
          · exact hall.out j hj (by omega)
        go_wp2
        go_roundw
        case rel => exact ⟨k + 1, by omega, hit2, hb2, hall'⟩
        case measure => simp only [World.iterPos, hit2, hit]; omega
      · have hf : Hid (letB s.data.toList = false) := Lib.hid (letB_no hks (by omega))
        have hr : ((Utf8.decode s k).1 : Int) < 97 ∨ 122 < ((Utf8.decode s k).1 : Int) := by
          by_cases ha : (s[k]'hks).toNat < 128
          · rw [decode_ascii s k hks ha]; show ((s[k]'hks).toNat : Int) < 97 ∨ 122 < ((s[k]'hks).toNat : Int); omega
          · have := (decode_high s k hks (by omega)).1
            omega
        have hnx : ∀ ty, (Instr.next (.pointer (some ⟨w.heap.size, 0, none⟩)) true ty).run Tryd.prog wr = _ := fun ty => Lib.run_next_any_at wr w.heap.size s k ty hit hks
        have hb3 := Lib.below_iterAt hb (k := w.heap.size) (Nat.le_refl _) s (k + (Utf8.decode s k).2)
        clear hit2 hb2 hg
        rcases hr with hr | hr
        · go_wp2
          go_ret
          exact ⟨ret_bool hf.out.symm, hb3⟩
        · go_wp2
          go_ret
          exact ⟨ret_bool hf.out.symm, hb3⟩
    · have hf : Hid (letB s.data.toList = true) := Lib.hid (letB_yes fun j hj => hall.out j hj (by omega))
      have hnx : ∀ ty, (Instr.next (.pointer (some ⟨w.heap.size, 0, none⟩)) true ty).run Tryd.prog wr = _ := fun ty => Lib.run_next_end_at wr w.heap.size s k ty hit (by omega)
      go_wp2
      go_ret
      exact ⟨ret_bool hf.out.symm, hb⟩

theorem isPhraseBeginning_any (s : ByteArray) (w : World) (hs : s.size ≤ maxLen) :
    Calls Tryd.prog 89 #[.string s] w fun e w' => e = .returned (.bool (begB s)) ∧ Below w.heap.size w w' := by
  by_cases h : s.size ≤ 12
  · go_enter Tryd.func89, Tryd.ntmps89
    go_wp2_with (go_at_call 107; refine (areLetters_any _ _ hs).mono ?_; rintro e w' ⟨rfl, hb⟩)
    go_ret
    exact ⟨ret_bool (by simp [begB, h]), hb⟩
  · go_enter Tryd.func89, Tryd.ntmps89
    go_wp2
    go_ret
    exact ⟨ret_bool (by simp [begB, h]), Below.refl _ _⟩

theorem textB_eq (s : ByteArray) (h : 0 < s.size) : textB s = begB s := by simp [textB, h]
theorem textB_empty (s : ByteArray) (h : ¬ 0 < s.size) : textB s = false := by simp [textB, h]
theorem str_empty {s : ByteArray} (h : ¬ 0 < s.size) : s.toList = [] := by
  rw [ByteArray.toList_eq]; apply List.eq_nil_of_length_eq_zero; simpa using (by omega : s.size = 0)
theorem str_some {s : ByteArray} (h : 0 < s.size) : s.toList.isEmpty = false := by
  rw [ByteArray.toList_eq]
  cases hl : s.data.toList with
  | nil =>
    have h1 : s.data.toList.length = 0 := by rw [hl]; rfl
    have h2 : s.data.toList.length = s.size := by simp
    omega
  | cons a l => rfl

theorem implPhraseText_any (s : ByteArray) (w : World) (hs : s.size ≤ maxLen) :
    Calls Tryd.prog 73 #[.string s] w fun e w' => e = .returned (.bool (textB s)) ∧ Below w.heap.size w w' := by
  by_cases h : 0 < s.size
  · have he := str_some h
    have ht := Lib.hid (textB_eq s h)
    go_enter Tryd.func73, Tryd.ntmps73
    go_wp2_with (go_at_call 89; refine (isPhraseBeginning_any _ _ hs).mono ?_; rintro e w' ⟨rfl, hb⟩)
    go_ret
    exact ⟨ret_bool ht.out.symm, hb⟩
  · have he : s.toList.isEmpty = true := by rw [str_empty h]; rfl
    have ht := Lib.hid (textB_empty s h)
    go_enter Tryd.func73, Tryd.ntmps73
    go_wp2
    go_ret
    exact ⟨ret_bool ht.out.symm, Below.refl _ _⟩

theorem bkPhraseText_any (s : ByteArray) (w : World) (hs : s.size ≤ maxLen) :
    Calls Tryd.prog 52 #[.string s] w fun e w' => e = .returned (.bool (textB s)) ∧ w = w' := by
  by_cases h : 0 < s.size
  · have he := str_some h
    have ht := Lib.hid (textB_eq s h)
    go_enter Tryd.func52, Tryd.ntmps52
    go_wp2_with (go_at_call 71; refine (bkLetters_any _ _ hs).mono ?_; rintro e w' ⟨rfl, rfl⟩)
    all_goals
      go_ret
      exact ⟨ret_bool (by rw [ht.out]; try simp_all), rfl⟩
  · have he : s.toList.isEmpty = true := by rw [str_empty h]; rfl
    have ht := Lib.hid (textB_empty s h)
    go_enter Tryd.func52, Tryd.ntmps52
    go_wp2_with (go_at_call 71; refine (bkLetters_any _ _ hs).mono ?_; rintro e w' ⟨rfl, rfl⟩)
    all_goals
      go_ret
      exact ⟨ret_bool (by rw [ht.out]; try simp_all), rfl⟩
end Go.Proofs.YtkmdionldaejjaaDoor
