/- The laws' marks: the text that is written for a number. -/
import Derived.Test.YtpogpehbkgjiaaaBk3
import Derived.Laws.BytesString
import Derived.Laws.Cells
namespace Go.Proofs.Ytpogpehbkgjiaaa
open Go.RowKit
set_option linter.unusedSimpArgs false
set_option linter.unusedVariables false

theorem ret_str {a b : ByteArray} (h : a = b) : Ending.returned (.string a) = .returned (.string b) := by rw [h]
/-- 'string([]byte{c})'. -/
theorem one_byte {w : World} {g : Nat} {n : Int} (h : w.cell? ⟨g, 0, none⟩ = some (.int .u8 n)) :
    (convert 101 9 (.slice (some ⟨g, 0, none⟩) 1 1)).run Try.prog w = .ok (.string ⟨#[UInt8.ofNat n.toNat]⟩) w := by
  rw [run_convert_bytes_string w 101 9 5 _ _ _ Try.underlying101 Try.underlying5 Try.underlying9]
  have hl : (loadCells ⟨g, 0, none⟩ 1).run Try.prog w = .ok (([n].map (Value.int .u8)).toArray) w := by
    have := run_loadCells_list (P := Try.prog) (w := w) ⟨g, 0, none⟩ [.int .u8 n] (fun j v hj => by
      match j, hj with
      | 0, hj => simp at hj; subst hj; simpa [Addr.add] using h)
    simpa using this
  rw [run_bytesToString w _ 1 1 [n] hl]
  rfl
def digit (k : Nat) : ByteArray := ⟨#[UInt8.ofNat (48 + k % 10)]⟩
def mtGo : Nat → Nat → ByteArray → ByteArray
  | 0, _, s => s
  | f + 1, k, s => if k = 0 then s else mtGo f (k / 10) (digit k ++ s)
def mtS (k : Nat) : ByteArray := ⟨#[109]⟩ ++ mtGo k k ByteArray.empty

set_option maxRecDepth 100000 in
set_option maxHeartbeats 400000 in
theorem markText_any (k : Nat) (w : World) (h0 : 1 ≤ k) (h1 : k ≤ 4398046511104) :
    Calls Try.prog 87 #[.int .i64 k] w fun e w' => e = .returned (.string (mtS k)) ∧ Below w.heap.size w w' := by
  have hle : ¬ (k : Int) ≤ 0 := by omega
  go_enter Try.func87, Try.ntmps87
  go_wp2
  go_loopw [0, 3] (fun i s wr => ∃ (j f : Nat) (t : ByteArray), j ≤ f ∧ j ≤ k ∧ i = .int .i64 j ∧ s = .string t ∧ Hid (mtGo f j t = mtGo k k ByteArray.empty) ∧ t.size + j ≤ k ∧ Below w.heap.size w wr) (fun i s wr => (intOf i).toNat)
  case atStart => exact ⟨k, k, _, Nat.le_refl _, Nat.le_refl _, rfl, rfl, Lib.hid rfl, by show 0 + k ≤ k; omega, Below.refl _ _⟩
  case round =>
    obtain ⟨j, f, t, hjf, hjk, rfl, rfl, HM, hsz, hb⟩ := hrel
    by_cases hlt : 0 < j
    · have hcv : (convert 101 9 (.slice (some ⟨wr.heap.size, 0, none⟩) 1 1)).run Try.prog (wr.alloc (.cells #[.int .u8 (48 + (j : Int) % 10)] 5)) = .ok (.string (digit j)) (wr.alloc (.cells #[.int .u8 (48 + (j : Int) % 10)] 5)) := by
        rw [one_byte (n := 48 + (j : Int) % 10) (by simp [go_sem])]
        have e : (48 + (j : Int) % 10).toNat = 48 + j % 10 := by omega
        rw [e]; rfl
      have hds : (digit j).size = 1 := rfl
      have hsum : ¬ 9223372036854775807 < (digit j).size + t.size := by omega
      have HM' : Hid (mtGo (f - 1) (j / 10) (digit j ++ t) = mtGo k k ByteArray.empty) := Lib.hid (by
        rw [← HM.out]
        obtain ⟨f', rfl⟩ : ∃ f', f = f' + 1 := ⟨f - 1, by omega⟩
        simp only [mtGo, Nat.add_sub_cancel]
        rw [if_neg (by omega)])
      have hsz' : (digit j ++ t).size + j / 10 ≤ k := by rw [ByteArray.size_append]; omega
      go_wp2
      go_roundw
      case rel => exact ⟨j / 10, f - 1, _, by omega, by omega, by simp, rfl, HM', hsz', hb.alloc hb.size _⟩
      case measure => simp [intOf]; omega
    · obtain rfl : j = 0 := by omega
      have HM' : Hid (mtS k = ⟨#[109]⟩ ++ t) := Lib.hid (by
        unfold mtS; rw [← HM.out]; cases f <;> simp [mtGo])
      have hm1 : (⟨#[109]⟩ : ByteArray).size = 1 := rfl
      have hsum : ¬ 9223372036854775807 < (⟨#[109]⟩ : ByteArray).size + t.size := by omega
      go_wp2
      go_ret
      exact ⟨ret_str HM'.out.symm, hb⟩
theorem mtGo_size : ∀ (f k : Nat) (s : ByteArray), (mtGo f k s).size ≤ s.size + f
  | 0, _, s => by simp [mtGo]
  | f + 1, k, s => by
    simp only [mtGo]
    split
    · omega
    · have h1 := mtGo_size f (k / 10) (digit k ++ s)
      have h2 : (digit k ++ s).size = 1 + s.size := by rw [ByteArray.size_append]; rfl
      omega
theorem mtS_size (k : Nat) : (mtS k).size ≤ k + 1 := by
  unfold mtS
  rw [ByteArray.size_append]
  have h1 := mtGo_size k k ByteArray.empty
  have h2 : (⟨#[109]⟩ : ByteArray).size = 1 := rfl
  have h3 : ByteArray.empty.size = 0 := rfl
  omega
end Go.Proofs.Ytpogpehbkgjiaaa
