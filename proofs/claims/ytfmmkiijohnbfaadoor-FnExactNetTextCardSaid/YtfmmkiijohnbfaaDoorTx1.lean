/- Texts: numbers in decimal, by the model. -/
import Derived.Test.YtfmmkiijohnbfaaDoorTx0
import Derived.Test.YtfmmkiijohnbfaaDoorBk4
import Derived.Deep.RegionHeld3
import Derived.Laws.BytesString
import Derived.Laws.Cells
namespace Go.Proofs.YtfmmkiijohnbfaaDoor
open Go.RowKit
set_option linter.unusedSimpArgs false
set_option linter.unusedVariables false

theorem ret_str {a b : ByteArray} (h : a = b) : Ending.returned (.string a) = .returned (.string b) := by rw [h]
/-- 'string([]byte{c})'. -/
theorem one_byte {w : World} {g : Nat} {n : Int} (h : w.cell? ⟨g, 0, none⟩ = some (.int .u8 n)) :
    (convert 47 9 (.slice (some ⟨g, 0, none⟩) 1 1)).run Tryd.prog w = .ok (.string ⟨#[UInt8.ofNat n.toNat]⟩) w := by
  rw [run_convert_bytes_string w 47 9 5 _ _ _ Tryd.underlying47 Tryd.underlying5 Tryd.underlying9]
  have hl : (loadCells ⟨g, 0, none⟩ 1).run Tryd.prog w = .ok (([n].map (Value.int .u8)).toArray) w := by
    have := run_loadCells_list (P := Tryd.prog) (w := w) ⟨g, 0, none⟩ [.int .u8 n] (fun j v hj => by
      match j, hj with
      | 0, hj => simp at hj; subst hj; simpa [Addr.add] using h)
    simpa using this
  rw [run_bytesToString w _ 1 1 [n] hl]
  rfl
def dg1 (d : Nat) : ByteArray := ⟨#[UInt8.ofNat (48 + d)]⟩
theorem dg1_size (d : Nat) : (dg1 d).size = 1 := rfl
theorem decS_small {n : Nat} (h : n < 10) : decS n = dg1 n := by unfold decS; rw [dec_small h]; rfl
theorem decS_big {n : Nat} (h : ¬ n < 10) : decS n = decS (n / 10) ++ dg1 (n % 10) := by
  unfold decS dg1; rw [dec_big h]
  apply ByteArray.ext
  simp
theorem decS_size (n : Nat) : (decS n).size = (dec n).length := by simp [decS, ByteArray.size]
theorem dec_le {n : Nat} (h : n ≤ 4611686018427387904) : (dec n).length ≤ 19 := dec_len (k := 19) (by omega) (by decide)

set_option maxRecDepth 100000 in
set_option maxHeartbeats 400000 in
theorem l1Num_any (n : Nat) : ∀ (w : World), n ≤ 4611686018427387904 →
    Calls Tryd.prog 54 #[.int .i64 n] w fun e w' => e = .returned (.string (decS n)) ∧ Below w.heap.size w w' := by
  induction n using Nat.strongRecOn with
  | _ n ih =>
    intro w hn
    by_cases h : n < 10
    · have HE := Lib.hid (decS_small h)
      have hcv : (convert 47 9 (.slice (some ⟨w.heap.size, 0, none⟩) 1 1)).run Tryd.prog (w.alloc (.cells #[.int .u8 (48 + (n : Int))] 5)) = .ok (.string (dg1 n)) (w.alloc (.cells #[.int .u8 (48 + (n : Int))] 5)) := by
        rw [one_byte (n := 48 + (n : Int)) (by simp [go_sem])]
        have e : (48 + (n : Int)).toNat = 48 + n := by omega
        rw [e]; rfl
      go_enter Tryd.func54, Tryd.ntmps54
      go_wp2
      go_ret
      exact ⟨ret_str HE.out.symm, (Below.refl _ _).alloc (Nat.le_refl _) _⟩
    · have HE := Lib.hid (decS_big h)
      have hi := ih (n / 10) (by omega)
      have hq : (n : Int) / 10 = ((n / 10 : Nat) : Int) := by omega
      obtain ⟨m, hm⟩ : ∃ m, m = n / 10 := ⟨_, rfl⟩
      rw [← hm] at hi hq HE
      have hml : m ≤ 4611686018427387904 := by omega
      have hwr : IntKind.i64.wrap (m : Int) = m := IntWalk.i64_in _ (by omega)
      obtain ⟨d, hd⟩ : ∃ d, d = n % 10 := ⟨_, rfl⟩
      rw [← hd] at HE
      have hd9 : d < 10 := by omega
      have hmod : (n : Int).tmod 10 = (d : Int) := by rw [Int.tmod_eq_emod_of_nonneg (by omega)]; omega
      have hw48 : IntKind.i64.wrap (48 + (d : Int)) = 48 + (d : Int) := IntWalk.i64_in _ (by omega)
      have hu8 : IntKind.u8.wrap (48 + (d : Int)) = 48 + (d : Int) := IntWalk.u8_in _ (by omega)
      have ed : (48 + (d : Int)).toNat = 48 + d := by omega
      have hcv1 : ∀ W : World, (convert 47 9 (.slice (some ⟨W.heap.size, 0, none⟩) 1 1)).run Tryd.prog (W.alloc (.cells #[.int .u8 (48 + (d : Int))] 5)) = .ok (.string (dg1 d)) (W.alloc (.cells #[.int .u8 (48 + (d : Int))] 5)) := fun W => by
        rw [one_byte (n := 48 + (d : Int)) (by simp [go_sem]), ed]; rfl
      have HCV2 : Hid (∀ w1 : World, Below ((w.alloc (.cells #[.int .u8 (48 + (d : Int))] 5)).drew).heap.size ((w.alloc (.cells #[.int .u8 (48 + (d : Int))] 5)).drew) w1 → (convert 47 9 (.slice (some ⟨w.heap.size, 0, none⟩) 1 1)).run Tryd.prog w1 = .ok (.string (dg1 d)) w1) := Lib.hid fun w1 h => by
        rw [one_byte (n := 48 + (d : Int)) (by rw [h.cell (p := ⟨w.heap.size, 0, none⟩) (by simp)]; simp [go_sem]), ed]; rfl
      have hcv3 : (convert 47 9 (.slice (some ⟨w.heap.size, 0, none⟩) 1 1)).run Tryd.prog ((w.alloc (.cells #[.int .u8 (48 + (d : Int))] 5)).drew) = .ok (.string (dg1 d)) ((w.alloc (.cells #[.int .u8 (48 + (d : Int))] 5)).drew) := by
        rw [one_byte (n := 48 + (d : Int)) (by simp [go_sem]), ed]; rfl
      have hz1 := decS_size m
      have hz2 := dec_le hml
      have hz3 : (dg1 d).size = 1 := rfl
      have hsum : ¬ 9223372036854775807 < (decS m).size + (dg1 d).size := by omega
      have HI := Lib.hid hi
      have hbA := (Below.refl w.heap.size w).drew
      have hbB : Below w.heap.size w ((w.alloc (.cells #[.int .u8 (48 + (d : Int))] 5)).drew) := ((Below.refl w.heap.size w).alloc (Nat.le_refl _) _).drew
      clear hi ih hm hd ed hz1 hz2 hz3 hn
      go_enter Tryd.func54, Tryd.ntmps54
      go_wp2
      go_region_with (go_at_call 54; refine (HI.out _ hml).mono ?_; rintro e w1 ⟨rfl, hb1⟩; try have hcv2 := HCV2.out _ hb1)
      all_goals
        have hbZ : Below w.heap.size w w1 := by first | exact hbA.trans (hb1.mono (by simp)) | exact hbB.trans (hb1.mono (by simp))
        have hzZ := hbZ.size
        go_wp2
        go_ret
        exact ⟨ret_str HE.out.symm, by first | exact hbZ | exact hbZ.alloc hzZ _⟩

/-! ### Signals in a line, by the model -/
def lineTo (b : UInt8) (zs : List Int) : Nat → List UInt8
  | 0 => []
  | k + 1 => lineTo b zs k ++ ((if k = 0 then [] else [b]) ++ dec (zs[k]?.getD 0).toNat)
def lineS (b : UInt8) (zs : List Int) (k : Nat) : ByteArray := ⟨(lineTo b zs k).toArray⟩
theorem lineS_zero (b : UInt8) (zs : List Int) : lineS b zs 0 = ⟨#[]⟩ := rfl
theorem lineS_one {b : UInt8} {zs : List Int} : lineS b zs 1 = lineS b zs 0 ++ decS (zs[0]?.getD 0).toNat := by
  unfold lineS decS; apply ByteArray.ext; simp [lineTo]
theorem lineS_succ {b : UInt8} {zs : List Int} {k : Nat} (h : 0 < k) : lineS b zs (k + 1) = lineS b zs k ++ ⟨#[b]⟩ ++ decS (zs[k]?.getD 0).toNat := by
  have h0 : ¬ k = 0 := by omega
  unfold lineS decS; apply ByteArray.ext; simp [lineTo, h0]
theorem lineTo_len {b : UInt8} {zs : List Int} {m : Nat} (hz : ∀ k, k < zs.length → 0 ≤ zs[k]?.getD 0 ∧ zs[k]?.getD 0 < (10 : Int) ^ m) (hm : 1 ≤ m) (k : Nat) (hk : k ≤ zs.length) : (lineTo b zs k).length ≤ k * (m + 1) := by
  induction k with
  | zero => simp [lineTo]
  | succ k ih =>
    have h1 := ih (by omega)
    have h2 := hz k (by omega)
    have h3 : (dec (zs[k]?.getD 0).toNat).length ≤ m := dec_len (k := m) (by
      have : ((zs[k]?.getD 0).toNat : Int) < ((10 ^ m : Nat) : Int) := by rw [Int.toNat_of_nonneg h2.1]; simpa using h2.2
      exact Int.ofNat_lt.1 this) hm
    simp only [lineTo, List.length_append]
    rw [Nat.succ_mul]
    split <;> simp <;> omega
theorem lineS_size (b : UInt8) (zs : List Int) (k : Nat) : (lineS b zs k).size = (lineTo b zs k).length := by simp [lineS, ByteArray.size]
end Go.Proofs.YtfmmkiijohnbfaaDoor
