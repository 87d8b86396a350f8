/- Chapter 3: letters that are asked for; the number of spellings, on both sides. -/
import Derived.Test.YtpogpehbkgjiaaaSpN
import Derived.Test.YtpogpehbkgjiaaaSp5
import Derived.Test.YtpogpehbkgjiaaaSp9
namespace Go.Proofs.Ytpogpehbkgjiaaa
open Go.RowKit
set_option linter.unusedSimpArgs false
set_option linter.unusedVariables false

def msgB (s : ByteArray) : Bool := decide (s.size ≤ 40) && letB s.data.toList
def askB (ps : List Ph) (s : ByteArray) : Bool := bookB ps && msgB s
theorem msgB_len {s : ByteArray} (h : msgB s = true) : s.size ≤ 40 := by simp [msgB] at h; exact h.1
theorem msgB_short {s : ByteArray} (h : s.size ≤ 40) : msgB s = letB s.data.toList := by simp [msgB, h]
theorem msgB_long {s : ByteArray} (h : ¬ s.size ≤ 40) : msgB s = false := by simp [msgB, h]
theorem askB_book {ps : List Ph} {s : ByteArray} (h : askB ps s = true) : bookB ps = true := by simp [askB] at h; exact h.1
theorem askB_msg {ps : List Ph} {s : ByteArray} (h : askB ps s = true) : msgB s = true := by simp [askB] at h; exact h.2
theorem askB_no1 {ps : List Ph} {s : ByteArray} (h : bookB ps = false) : askB ps s = false := by simp [askB, h]
theorem askB_no2 {ps : List Ph} {s : ByteArray} (h : msgB s = false) : askB ps s = false := by simp [askB, h]

theorem spLetters_any (s : ByteArray) (w : World) (hs : s.size ≤ maxLen) :
    Calls Try.prog 80 #[.string s] w fun e w' => e = .returned (.bool (msgB s)) ∧ w = w' := by
  unfold maxLen at hs
  go_enter Try.func80, Try.ntmps80
  go_wp2
  go_loop [3] (fun i => ∃ k : Nat, k ≤ s.size ∧ i = .int .i64 k ∧ Hid (∀ j, (hj : j < s.size) → j < k → 97 ≤ (s[j].toNat : Int) ∧ (s[j].toNat : Int) ≤ 122)) (fun i => s.size - (intOf i).toNat)
  case atStart => exact ⟨0, Nat.zero_le _, rfl, Lib.hid fun j _ hj => by omega⟩
  case round =>
    obtain ⟨k, hk, rfl, hall⟩ := hrel
    by_cases hlt : k < s.size
    · by_cases hg : 97 ≤ (s[k].toNat : Int) ∧ (s[k].toNat : Int) ≤ 122
      · obtain ⟨g0, g1⟩ := hg
        have hall' : Hid (∀ j, (hj : j < s.size) → j < k + 1 → 97 ≤ (s[j].toNat : Int) ∧ (s[j].toNat : Int) ≤ 122) := Lib.hid fun j hj hjk => by
          by_cases e : j = k
          · subst e; exact ⟨g0, g1⟩
          · exact hall.out j hj (by omega)
        go_wp2
        go_round
        case rel => exact ⟨k + 1, by omega, by go_num, hall'⟩
        case measure => simp [intOf]; omega
      · have hf : Hid (letB s.data.toList = false) := Lib.hid (letB_no hlt (by omega))
        by_cases h1 : (s[k].toNat : Int) < 97
        · clear hg
          go_wp2
          go_ret
          exact ⟨ret_bool (by simp [msgB, hf.out]), rfl⟩
        · have h2 : 122 < (s[k].toNat : Int) := by omega
          clear hg
          go_wp2
          go_ret
          exact ⟨ret_bool (by simp [msgB, hf.out]), rfl⟩
    · have hf : Hid (letB s.data.toList = true) := Lib.hid (letB_yes fun j hj => hall.out j hj (by omega))
      go_wp2
      go_ret
      exact ⟨ret_bool (by simp [msgB, hf.out]; omega), rfl⟩
theorem spLetters_is (s : ByteArray) (b : Bool) (w : World) (h : msgB s = b) (hs : s.size ≤ maxLen) :
    Calls Try.prog 80 #[.string s] w fun e w' => e = .returned (.bool b) ∧ w = w' := by subst h; exact spLetters_any s w hs
theorem areLetters_is (s : ByteArray) (b : Bool) (w : World) (h : letB s.data.toList = b) (hs : s.size ≤ maxLen) :
    Calls Try.prog 84 #[.string s] w fun e w' => e = .returned (.bool b) ∧ Below w.heap.size w w' := by subst h; exact areLetters_any s w hs
theorem isMessage_any (s : ByteArray) (w : World) (hs : s.size ≤ maxLen) :
    Calls Try.prog 52 #[.string s] w fun e w' => e = .returned (.bool (msgB s)) ∧ Below w.heap.size w w' := by
  have hs2 := hs
  unfold maxLen at hs2
  by_cases h : s.size ≤ 40
  · have hf := Lib.hid (msgB_short h)
    go_enter Try.func52, Try.ntmps52
    go_wp2_with fail
    refine (areLetters_any s _ hs).mono ?_
    rintro e w1 ⟨rfl, hb⟩
    go_wp2
    go_ret
    exact ⟨ret_bool hf.out.symm, hb⟩
  · have hf := Lib.hid (msgB_long h)
    go_enter Try.func52, Try.ntmps52
    go_wp2
    go_ret
    exact ⟨ret_bool hf.out.symm, Below.refl _ _⟩
theorem isMessage_is (s : ByteArray) (b : Bool) (w : World) (h : msgB s = b) (hs : s.size ≤ maxLen) :
    Calls Try.prog 52 #[.string s] w fun e w' => e = .returned (.bool b) ∧ Below w.heap.size w w' := by subst h; exact isMessage_any s w hs
theorem spAsked_is (v : Value) (ps : List Ph) (s : ByteArray) (b : Bool) (w : World) (h : askB ps s = b) (hs : s.size ≤ maxLen) (hr : RdPs w v ps) :
    Calls Try.prog 48 #[.agg #[v], .string s] w fun e w' => e = .returned (.bool b) ∧ Below w.heap.size w w' := by
  subst h
  obtain ⟨a, cap, rfl, -⟩ := hr.len
  have hb0 := (Below.refl w.heap.size w).alloc (Nat.le_refl _) (.cells #[.slice a ps.length cap] 31)
  have hrW := hr.later hb0
  cases hbk : bookB ps with
  | false =>
    have hf := Lib.hid (askB_no1 (s := s) hbk)
    go_enter Try.func48, Try.ntmps48
    go_wp2_with fail
    refine (bkGood_is _ ps false _ hbk hrW).mono ?_
    rintro e w1 ⟨rfl, hb1⟩
    go_wp2
    go_ret
    exact ⟨ret_bool hf.out.symm, hb0.trans (hb1.mono hb0.size)⟩
  | true =>
    have hf : Hid (askB ps s = msgB s) := Lib.hid (by unfold askB; rw [hbk]; rfl)
    go_enter Try.func48, Try.ntmps48
    go_wp2_with fail
    refine (bkGood_is _ ps true _ hbk hrW).mono ?_
    rintro e w1 ⟨rfl, hb1⟩
    go_wp2_with fail
    refine (spLetters_any s _ hs).mono ?_
    rintro e w2 ⟨rfl, rfl⟩
    go_wp2
    go_ret
    exact ⟨ret_bool hf.out.symm, hb0.trans (hb1.mono hb0.size)⟩

/-! ### A text at a place -/
def hasPreT (s t : ByteArray) : Bool := decide (t.size ≤ s.size) && ((s.extract 0 t.size).toList == t.toList)
theorem hasPreT_no {s t : ByteArray} (h : ¬ t.size ≤ s.size) : hasPreT s t = false := by simp [hasPreT, h]
theorem hasPreT_yes {s t : ByteArray} (h : t.size ≤ s.size) : hasPreT s t = ((s.extract 0 t.size).toList == t.toList) := by simp [hasPreT, h]
theorem hasPreT_fit {s t : ByteArray} {a : Nat} (ha : a ≤ s.size) : hasPreT (s.extract a s.size) t = fitT t s a := by
  have h1 : (s.extract a s.size).size = s.size - a := by rw [ByteArray.size_extract]; omega
  have hsz : s.data.toList.length = s.size := by simp
  have h2 : ((s.extract a s.size).extract 0 t.size).toList = (s.data.toList.drop a).take t.size := by
    rw [ByteArray.toList_eq]
    have := ext_take (s.extract a s.size) 0 t.size
    rw [Nat.zero_add] at this
    rw [this]
    have h3 := ext_take s a (s.size - a)
    rw [show a + (s.size - a) = s.size by omega] at h3
    rw [h3, List.drop_zero, List.take_of_length_le (l := s.data.toList.drop a) (by rw [List.length_drop, hsz]; omega)]
  unfold hasPreT fitT
  rw [h1, h2, ByteArray.toList_eq, ext_take]
  by_cases h : a + t.size ≤ s.size
  · rw [decide_eq_true h, decide_eq_true (show t.size ≤ s.size - a by omega), Bool.true_and, Bool.true_and, Bool.eq_iff_iff]
    simp
  · rw [decide_eq_false h, decide_eq_false (show ¬ t.size ≤ s.size - a by omega)]; rfl
theorem spBegins_any (s t : ByteArray) (w : World) (hs : s.size ≤ maxLen) (ht : t.size ≤ maxLen) :
    Calls Try.prog 61 #[.string s, .string t] w fun e w' => e = .returned (.bool (hasPreT s t)) ∧ w' = w := by
  unfold maxLen at hs ht
  by_cases h : t.size ≤ s.size
  · have hf := Lib.hid (hasPreT_yes h)
    go_enter Try.func61, Try.ntmps61
    go_wp2
    go_ret
    exact ⟨ret_bool hf.out.symm, rfl⟩
  · have hf := Lib.hid (hasPreT_no h)
    go_enter Try.func61, Try.ntmps61
    go_wp2
    go_ret
    exact ⟨ret_bool hf.out.symm, rfl⟩
theorem spBegins_is (s t : ByteArray) (a : Nat) (b : Bool) (w : World) (ha : a ≤ s.size) (hf : fitT t s a = b) (hs : s.size ≤ maxLen) (ht : t.size ≤ maxLen) :
    Calls Try.prog 61 #[.string (s.extract a s.size), .string t] w fun e w' => e = .returned (.bool b) ∧ w' = w := by
  have := spBegins_any (s.extract a s.size) t w (by rw [ByteArray.size_extract]; omega) ht
  rw [hasPreT_fit ha, hf] at this
  exact this
abbrev allS : Nat → Bool := fun _ => true
def txTo (ps : List Ph) (s : ByteArray) (a k : Nat) : List St := stepsOf (fun i => allS i && fitT (phAt ps i).txt s a) (fun i => a + (phAt ps i).txt.size) k
theorem txTo_yes {ps : List Ph} {s : ByteArray} {a k : Nat} (h : fitT (phAt ps k).txt s a = true) : txTo ps s a (k + 1) = txTo ps s a k ++ [(k, a + (phAt ps k).txt.size)] := stepsOf_yes (by simp [h])
theorem txTo_no {ps : List Ph} {s : ByteArray} {a k : Nat} (h : fitT (phAt ps k).txt s a = false) : txTo ps s a (k + 1) = txTo ps s a k := stepsOf_no (by simp [h])
theorem book_tx {ps : List Ph} (hb : bookB ps = true) {i : Nat} (hi : i < ps.length) : 1 ≤ (phAt ps i).txt.size ∧ (phAt ps i).txt.size ≤ 12 := by
  have h := goodAt_txt (bookB_at hb hi)
  simp only [textB, begB, Bool.and_eq_true, decide_eq_true_eq] at h
  exact ⟨h.2, h.1.1⟩
theorem txSt_ahead {ps : List Ph} (hb : bookB ps = true) (sel : Nat → Bool) (s : ByteArray) : Ahead s.size (txSt ps sel s) := by
  intro a ha x hx
  obtain ⟨h1, h2, h3⟩ := stepsOf_mem hx
  simp only [Bool.and_eq_true] at h2
  have h4 := (fitT_le h2.2).1
  have h5 := book_tx hb h1
  omega
theorem txSt_inside (ps : List Ph) (sel : Nat → Bool) (s : ByteArray) : Inside ps s.size (txSt ps sel s) := fun a ha x hx => (stepsOf_mem hx).1
theorem txSt_len {ps : List Ph} (hb : bookB ps = true) (sel : Nat → Bool) (s : ByteArray) : ∀ a, a < s.size → (txSt ps sel s a).length ≤ 40 := fun a _ => Nat.le_trans (stepsOf_len _ _ _) (bookB_len hb).2

theorem spell_exists (ps : List Ph) (s : ByteArray) : ∃ f, bookB ps = true → Counts s.size (txSt ps allS s) f := by
  by_cases h : bookB ps = true
  · obtain ⟨f, hf⟩ := counts_exists (txSt_ahead h allS s)
    exact ⟨f, fun _ => hf⟩
  · exact ⟨fun _ => 0, fun e => absurd e h⟩
noncomputable def spellF (ps : List Ph) (s : ByteArray) : Nat → Int := Classical.choose (spell_exists ps s)
theorem spellF_is {ps : List Ph} {s : ByteArray} (h : bookB ps = true) : Counts s.size (txSt ps allS s) (spellF ps s) := Classical.choose_spec (spell_exists ps s) h
noncomputable def spellN (ps : List Ph) (s : ByteArray) : Int := okI (askB ps s) (spellF ps s 0)
theorem spellN_no {ps : List Ph} {s : ByteArray} (h : askB ps s = false) : spellN ps s = 0 := by unfold spellN; rw [h]; rfl
theorem spellN_yes {ps : List Ph} {s : ByteArray} (h : askB ps s = true) : spellN ps s = spellF ps s 0 := by unfold spellN; rw [h]; rfl
end Go.Proofs.Ytpogpehbkgjiaaa
