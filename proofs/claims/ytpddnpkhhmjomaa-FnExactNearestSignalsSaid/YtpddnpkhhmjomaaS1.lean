/- Chapter 1: the functions of the model and of the program, by their contracts. -/
import Derived.Test.YtpddnpkhhmjomaaHelp
namespace Go.Proofs.Ytpddnpkhhmjomaa
open Go.RowKit
set_option linter.unusedSimpArgs false
set_option linter.unusedVariables false

theorem ret_int {k : IntKind} {a b : Int} (h : a = b) : Ending.returned (.int k a) = .returned (.int k b) := by rw [h]
theorem ret_bool {a b : Bool} (h : a = b) : Ending.returned (.bool a) = .returned (.bool b) := by rw [h]
theorem all64 {P : Int → Prop} (h : ∀ k : Fin 64, P (k.val : Int)) (a : Int) (h0 : 0 ≤ a) (h1 : a ≤ 63) : P a := by
  have := h ⟨a.toNat, by omega⟩
  simpa [Int.toNat_of_nonneg h0] using this

/-- Is shutter i closed in n? -/
def clB (n i : Int) : Bool := n / 2 ^ i.toNat % 2 == 1
def shutTo (n : Int) (k : Nat) : List Int := ((List.range k).map fun i : Nat => (i : Int)).filter fun i => clB n i
def shut (n : Int) : List Int := shutTo n 6
theorem shutTo_yes (n : Int) (k : Nat) (h : clB n k = true) : shutTo n (k + 1) = shutTo n k ++ [(k : Int)] := by
  simp [shutTo, List.range_succ, h]
theorem shutTo_no (n : Int) (k : Nat) (h : clB n k = false) : shutTo n (k + 1) = shutTo n k := by
  simp [shutTo, List.range_succ, h]
theorem shutTo_len (n : Int) (k : Nat) : (shutTo n k).length ≤ k := by
  unfold shutTo; exact Nat.le_trans (List.length_filter_le _ _) (by simp)
theorem shut_len (n : Int) : (shut n).length ≤ 6 := shutTo_len n 6
def dist (a b : Int) : Int := (shut (bits BinOp.xor IntKind.i64 a b)).length
theorem xor_range (a b : Int) (a0 : 0 ≤ a) (a1 : a ≤ 63) (b0 : 0 ≤ b) (b1 : b ≤ 63) : 0 ≤ bits BinOp.xor IntKind.i64 a b ∧ bits BinOp.xor IntKind.i64 a b ≤ 63 :=
  all64 (P := fun a => 0 ≤ bits BinOp.xor IntKind.i64 a b ∧ bits BinOp.xor IntKind.i64 a b ≤ 63)
    (fun k => all64 (P := fun b => 0 ≤ bits BinOp.xor IntKind.i64 (k.val : Int) b ∧ bits BinOp.xor IntKind.i64 (k.val : Int) b ≤ 63) (by revert k; decide +kernel) b b0 b1) a a0 a1
theorem dist_bd (a b : Int) : 0 ≤ dist a b ∧ dist a b ≤ 6 := by
  have := shut_len (bits BinOp.xor IntKind.i64 a b); unfold dist; omega
theorem and_one (E : Int) (h0 : 0 ≤ E) (h1 : E ≤ 63) : bits BinOp.and IntKind.i64 E 1 = E % 2 :=
  all64 (P := fun E => bits BinOp.and IntKind.i64 E 1 = E % 2) (by decide +kernel) E h0 h1
theorem div_range (n i : Int) (h0 : 0 ≤ n) (h1 : n ≤ 63) : 0 ≤ n / 2 ^ i.toNat ∧ n / 2 ^ i.toNat ≤ 63 := by
  have hp : (0 : Int) < 2 ^ i.toNat := Int.pow_pos (by decide)
  exact ⟨Int.ediv_nonneg h0 (Int.le_of_lt hp), Int.le_trans (Int.ediv_le_self _ h0) h1⟩

theorem sgClosed_any (n i : Int) (w : World) (h0 : 0 ≤ n) (h1 : n ≤ 63) (i0 : 0 ≤ i) (i1 : i ≤ 5) :
    Calls Try.prog 55 #[.int .i64 n, .int .i64 i] w fun e w' => e = .returned (.bool (clB n i)) ∧ w = w' := by
  go_enter Try.func55, Try.ntmps55
  go_wp2
  go_ret
  refine ⟨ret_bool ?_, rfl⟩
  have d := div_range n i h0 h1
  unfold clB; rw [and_one _ d.1 d.2]
theorem isClosed_any (n i : Int) (w : World) (h0 : 0 ≤ n) (h1 : n ≤ 63) (i0 : 0 ≤ i) (i1 : i ≤ 5) :
    Calls Try.prog 56 #[.int .i64 n, .int .i64 i] w fun e w' => e = .returned (.bool (clB n i)) ∧ w = w' := by
  go_enter Try.func56, Try.ntmps56
  go_wp2
  go_ret
  refine ⟨ret_bool ?_, rfl⟩
  have d := div_range n i h0 h1
  unfold clB; rw [and_one _ d.1 d.2]
theorem ones_any (n : Int) (w : World) (h0 : 0 ≤ n) (h1 : n ≤ 63) :
    Calls Try.prog 59 #[.int .u64 n] w fun e w' => e = .returned (.int .i64 (shut n).length) ∧ w = w' := by
  go_enter Try.func59, Try.ntmps59
  go_wp2
  go_ret
  refine ⟨ret_int ?_, rfl⟩
  rename_i h
  clear h
  revert n
  apply all64
  decide +kernel
theorem countChanged_any (a b : Int) (w : World) (a0 : 0 ≤ a) (a1 : a ≤ 63) (b0 : 0 ≤ b) (b1 : b ≤ 63) :
    Calls Try.prog 47 #[.int .i64 a, .int .i64 b] w fun e w' => e = .returned (.int .i64 (dist a b)) ∧ w = w' := by
  have x0 := (xor_range a b a0 a1 b0 b1).1
  have x1 := (xor_range a b a0 a1 b0 b1).2
  go_enter Try.func47, Try.ntmps47
  go_wp2_with (go_at_call 59; refine (ones_any _ _ (by omega) (by omega)).mono ?_; rintro e w' ⟨rfl, rfl⟩)
  go_ret
  exact ⟨rfl, rfl⟩

theorem sgShutters_any (n : Int) (w : World) (h0 : 0 ≤ n) (h1 : n ≤ 63) :
    Calls Try.prog 39 #[.int .i64 n] w fun e w' => ∃ v, e = .returned v ∧ Own w' w.heap.size v (shut n) ∧ Below w.heap.size w w' := by
  obtain ⟨i0, hi, hz0, hz1, hz2⟩ := info_parts Try_info_int
  go_enter Try.func39, Try.ntmps39
  go_wp2
  go_loopw [3, 4] (fun v i wr => ∃ k : Nat, k ≤ 6 ∧ i = .int .i64 k ∧ Own wr w.heap.size v (shutTo n k) ∧ Below w.heap.size w wr) (fun _ i _ => 6 - (intOf i).toNat)
  case atStart => exact ⟨0, by omega, rfl, Own.nil _ _, Below.refl _ _⟩
  case round =>
    obtain ⟨k, hk, rfl, hown, hbel⟩ := hrel
    have hlen := shutTo_len n k
    by_cases hlt : k < 6
    · cases hb : clB n k with
      | true =>
        have hs := Lib.hid (shutTo_yes n k hb)
        have hsz := hbel.size
        go_wp2_with (first
          | (go_at_call 55; refine (sgClosed_any _ _ _ h0 h1 (by omega) (by omega)).mono ?_; rintro e w' ⟨rfl, rfl⟩)
          | (at_builtin; refine append_int rfl _ _ rfl w.heap.size _ (shutTo n k) (k : Int) wr.heap.size rfl rfl (hown.alloc _) (new_cell _ _ _) (by omega) (by simp; omega) ?_; intro v' w1 hown1 hgrow1))
        go_roundw
        case rel => exact ⟨k + 1, by omega, by go_num, by rw [hs.out]; exact hown1, (hbel.alloc hsz _).grown hgrow1 (by simp; omega) (fun j hj => (hown.lt j hj).1)⟩
        case measure => simp [intOf]; omega
      | false =>
        have hs := Lib.hid (shutTo_no n k hb)
        go_wp2_with (first
          | (go_at_call 55; refine (sgClosed_any _ _ _ h0 h1 (by omega) (by omega)).mono ?_; rintro e w' ⟨rfl, rfl⟩))
        go_roundw
        case rel => exact ⟨k + 1, by omega, by go_num, by rw [hs.out]; exact hown, hbel⟩
        case measure => simp [intOf]; omega
    · obtain rfl : k = 6 := by omega
      go_wp2
      go_ret
      exact ⟨_, rfl, hown, hbel⟩

theorem shuttersIn_any (n : Int) (w : World) (h0 : 0 ≤ n) (h1 : n ≤ 63) :
    Calls Try.prog 41 #[.int .i64 n] w fun e w' => ∃ v, e = .returned v ∧ Own w' w.heap.size v (shut n) ∧ Below w.heap.size w w' := by
  go_enter Try.func41, Try.ntmps41
  go_wp2
  go_loopw [3, 5] (fun v i wr => ∃ k : Nat, k ≤ 6 ∧ i = .int .i64 k ∧ Own wr w.heap.size v (shutTo n k) ∧ Below w.heap.size w wr) (fun _ i _ => 6 - (intOf i).toNat)
  case atStart => exact ⟨0, by omega, rfl, Own.nil _ _, Below.refl _ _⟩
  case round =>
    obtain ⟨k, hk, rfl, hown, hbel⟩ := hrel
    have hlen := shutTo_len n k
    by_cases hlt : k < 6
    · cases hb : clB n k with
      | true =>
        have hs := Lib.hid (shutTo_yes n k hb)
        have hsz := hbel.size
        go_wp2_with (first
          | (go_at_call 56; refine (isClosed_any _ _ _ h0 h1 (by omega) (by omega)).mono ?_; rintro e w' ⟨rfl, rfl⟩)
          | (at_builtin; refine append_int rfl _ _ rfl w.heap.size _ (shutTo n k) (k : Int) wr.heap.size rfl rfl (hown.alloc _) (new_cell _ _ _) (by omega) (by simp; omega) ?_; intro v' w1 hown1 hgrow1))
        go_roundw
        case rel => exact ⟨k + 1, by omega, by go_num, by rw [hs.out]; exact hown1, (hbel.alloc hsz _).grown hgrow1 (by simp; omega) (fun j hj => (hown.lt j hj).1)⟩
        case measure => simp [intOf]; omega
      | false =>
        have hs := Lib.hid (shutTo_no n k hb)
        go_wp2_with (first
          | (go_at_call 56; refine (isClosed_any _ _ _ h0 h1 (by omega) (by omega)).mono ?_; rintro e w' ⟨rfl, rfl⟩))
        go_roundw
        case rel => exact ⟨k + 1, by omega, by go_num, by rw [hs.out]; exact hown, hbel⟩
        case measure => simp [intOf]; omega
    · obtain rfl : k = 6 := by omega
      go_wp2
      go_ret
      exact ⟨_, rfl, hown, hbel⟩

theorem sgDistance_any (a b : Int) (w : World) (a0 : 0 ≤ a) (a1 : a ≤ 63) (b0 : 0 ≤ b) (b1 : b ≤ 63) :
    Calls Try.prog 46 #[.int .i64 a, .int .i64 b] w fun e w' => e = .returned (.int .i64 (dist a b)) ∧ Below w.heap.size w w' := by
  have x0 := (xor_range a b a0 a1 b0 b1).1
  have x1 := (xor_range a b a0 a1 b0 b1).2
  go_enter Try.func46, Try.ntmps46
  go_wp2_with (go_at_call 39; refine (sgShutters_any _ _ (by omega) (by omega)).mono ?_; rintro e w1 ⟨v, rfl, ho, hb⟩; obtain ⟨ad, cap, rfl⟩ := ho.rd.len)
  go_ret
  exact ⟨rfl, hb⟩

/-! The two functions of each name, where the argument is a signal and where it is none. -/
def isSig (n : Int) : Bool := decide (0 ≤ n) && decide (n ≤ 63)
theorem isSig_iff {n : Int} : isSig n = true ↔ 0 ≤ n ∧ n ≤ 63 := by simp [isSig]
theorem isSig_not {n : Int} : isSig n = false ↔ n < 0 ∨ 63 < n := by simp only [isSig, Bool.and_eq_false_iff, decide_eq_false_iff_not]; omega
theorem sgGood_any (n : Int) (w : World) : Calls Try.prog 38 #[.int .i64 n] w fun e w' => e = .returned (.bool (isSig n)) ∧ w = w' := by
  by_cases h0 : 0 ≤ n
  · go_enter Try.func38, Try.ntmps38
    go_wp2
    go_ret
    exact ⟨ret_bool (by unfold isSig; simp; try omega), rfl⟩
  · go_enter Try.func38, Try.ntmps38
    go_wp2
    go_ret
    exact ⟨ret_bool (by unfold isSig; simp; try omega), rfl⟩
theorem isSignal_any (n : Int) (w : World) : Calls Try.prog 40 #[.int .i64 n] w fun e w' => e = .returned (.bool (isSig n)) ∧ w = w' := by
  by_cases h0 : 0 ≤ n
  · go_enter Try.func40, Try.ntmps40
    go_wp2
    go_ret
    exact ⟨ret_bool (by unfold isSig; simp; try omega), rfl⟩
  · go_enter Try.func40, Try.ntmps40
    go_wp2
    go_ret
    exact ⟨ret_bool (by unfold isSig; simp; try omega), rfl⟩

theorem specClosed_yes (n : Int) (w : World) (h : isSig n = true) :
    Calls Try.prog 15 #[.int .i64 n] w fun e w' => ∃ v, e = .returned (.tuple #[v, .bool true]) ∧ Own w' w.heap.size v (shut n) ∧ Below w.heap.size w w' := by
  have b := isSig_iff.1 h
  go_enter Try.func15, Try.ntmps15
  go_wp2_with (first
    | (go_at_call 38; refine (sgGood_any _ _).mono ?_; rintro e w' ⟨rfl, rfl⟩)
    | (go_at_call 39; refine (sgShutters_any _ _ b.1 b.2).mono ?_; rintro e w1 ⟨v, rfl, ho, hb⟩))
  go_ret2
  exact ⟨_, rfl, ho, hb⟩
theorem specClosed_no (n : Int) (w : World) (h : isSig n = false) :
    Calls Try.prog 15 #[.int .i64 n] w fun e w' => e = .returned (.tuple #[.slice none 0 0, .bool false]) ∧ w = w' := by
  go_enter Try.func15, Try.ntmps15
  go_wp2_with (first
    | (go_at_call 38; refine (sgGood_any _ _).mono ?_; rintro e w' ⟨rfl, rfl⟩))
  go_ret2
  exact ⟨rfl, rfl⟩
theorem implClosed_yes (n : Int) (w : World) (h : isSig n = true) :
    Calls Try.prog 16 #[.int .i64 n] w fun e w' => ∃ v, e = .returned (.tuple #[v, .bool true]) ∧ Own w' w.heap.size v (shut n) ∧ Below w.heap.size w w' := by
  have b := isSig_iff.1 h
  go_enter Try.func16, Try.ntmps16
  go_wp2_with (first
    | (go_at_call 40; refine (isSignal_any _ _).mono ?_; rintro e w' ⟨rfl, rfl⟩)
    | (go_at_call 41; refine (shuttersIn_any _ _ b.1 b.2).mono ?_; rintro e w1 ⟨v, rfl, ho, hb⟩))
  go_ret2
  exact ⟨_, rfl, ho, hb⟩
theorem implClosed_no (n : Int) (w : World) (h : isSig n = false) :
    Calls Try.prog 16 #[.int .i64 n] w fun e w' => e = .returned (.tuple #[.slice none 0 0, .bool false]) ∧ w = w' := by
  go_enter Try.func16, Try.ntmps16
  go_wp2_with (first
    | (go_at_call 40; refine (isSignal_any _ _).mono ?_; rintro e w' ⟨rfl, rfl⟩))
  go_ret2
  exact ⟨rfl, rfl⟩

theorem specChanged_yes (a b : Int) (w : World) (h : isSig a = true) (h' : isSig b = true) :
    Calls Try.prog 26 #[.int .i64 a, .int .i64 b] w fun e w' => ∃ v, e = .returned (.tuple #[v, .bool true]) ∧ Own w' w.heap.size v (shut (bits BinOp.xor IntKind.i64 a b)) ∧ Below w.heap.size w w' := by
  have b0 := isSig_iff.1 h
  have b1 := isSig_iff.1 h'
  have x := xor_range a b b0.1 b0.2 b1.1 b1.2
  go_enter Try.func26, Try.ntmps26
  go_wp2_with (first
    | (go_at_call 38; refine (sgGood_any _ _).mono ?_; rintro e w' ⟨rfl, rfl⟩)
    | (go_at_call 39; refine (sgShutters_any _ _ x.1 x.2).mono ?_; rintro e w1 ⟨v, rfl, ho, hb⟩))
  go_ret2
  exact ⟨_, rfl, ho, hb⟩
theorem specChanged_no (a b : Int) (w : World) (h : isSig a = false ∨ isSig b = false) :
    Calls Try.prog 26 #[.int .i64 a, .int .i64 b] w fun e w' => e = .returned (.tuple #[.slice none 0 0, .bool false]) ∧ w = w' := by
  cases ha : isSig a with
  | false =>
    clear h
    go_enter Try.func26, Try.ntmps26
    go_wp2_with (first
      | (go_at_call 38; refine (sgGood_any _ _).mono ?_; rintro e w' ⟨rfl, rfl⟩))
    go_ret2
    exact ⟨rfl, rfl⟩
  | true =>
    have hb : isSig b = false := by rcases h with h | h; (rw [ha] at h; cases h); exact h
    clear h
    go_enter Try.func26, Try.ntmps26
    go_wp2_with (first
      | (go_at_call 38; refine (sgGood_any _ _).mono ?_; rintro e w' ⟨rfl, rfl⟩))
    go_ret2
    exact ⟨rfl, rfl⟩

theorem specDistance_yes (a b : Int) (w : World) (h : isSig a = true) (h' : isSig b = true) :
    Calls Try.prog 24 #[.int .i64 a, .int .i64 b] w fun e w' => e = .returned (.tuple #[.int .i64 (dist a b), .bool true]) ∧ Below w.heap.size w w' := by
  have b0 := isSig_iff.1 h
  have b1 := isSig_iff.1 h'
  go_enter Try.func24, Try.ntmps24
  go_wp2_with (first
    | (go_at_call 38; refine (sgGood_any _ _).mono ?_; rintro e w' ⟨rfl, rfl⟩)
    | (go_at_call 46; refine (sgDistance_any _ _ _ b0.1 b0.2 b1.1 b1.2).mono ?_; rintro e w1 ⟨rfl, hb⟩))
  go_ret2
  exact ⟨rfl, hb⟩
theorem specDistance_no (a b : Int) (w : World) (h : isSig a = false ∨ isSig b = false) :
    Calls Try.prog 24 #[.int .i64 a, .int .i64 b] w fun e w' => e = .returned (.tuple #[.int .i64 0, .bool false]) ∧ w = w' := by
  cases ha : isSig a with
  | false =>
    clear h
    go_enter Try.func24, Try.ntmps24
    go_wp2_with (first
      | (go_at_call 38; refine (sgGood_any _ _).mono ?_; rintro e w' ⟨rfl, rfl⟩))
    go_ret2
    exact ⟨rfl, rfl⟩
  | true =>
    have hb : isSig b = false := by rcases h with h | h; (rw [ha] at h; cases h); exact h
    clear h
    go_enter Try.func24, Try.ntmps24
    go_wp2_with (first
      | (go_at_call 38; refine (sgGood_any _ _).mono ?_; rintro e w' ⟨rfl, rfl⟩))
    go_ret2
    exact ⟨rfl, rfl⟩

theorem implChanged_yes (a b : Int) (w : World) (h : isSig a = true) (h' : isSig b = true) :
    Calls Try.prog 27 #[.int .i64 a, .int .i64 b] w fun e w' => ∃ v, e = .returned (.tuple #[v, .bool true]) ∧ Own w' w.heap.size v (shut (bits BinOp.xor IntKind.i64 a b)) ∧ Below w.heap.size w w' := by
  have b0 := isSig_iff.1 h
  have b1 := isSig_iff.1 h'
  have x := xor_range a b b0.1 b0.2 b1.1 b1.2
  go_enter Try.func27, Try.ntmps27
  go_wp2_with (first
    | (go_at_call 40; refine (isSignal_any _ _).mono ?_; rintro e w' ⟨rfl, rfl⟩)
    | (go_at_call 41; refine (shuttersIn_any _ _ x.1 x.2).mono ?_; rintro e w1 ⟨v, rfl, ho, hb⟩))
  go_ret2
  exact ⟨_, rfl, ho, hb⟩
theorem implChanged_no (a b : Int) (w : World) (h : isSig a = false ∨ isSig b = false) :
    Calls Try.prog 27 #[.int .i64 a, .int .i64 b] w fun e w' => e = .returned (.tuple #[.slice none 0 0, .bool false]) ∧ w = w' := by
  cases ha : isSig a with
  | false =>
    clear h
    go_enter Try.func27, Try.ntmps27
    go_wp2_with (first
      | (go_at_call 40; refine (isSignal_any _ _).mono ?_; rintro e w' ⟨rfl, rfl⟩))
    go_ret2
    exact ⟨rfl, rfl⟩
  | true =>
    have hb : isSig b = false := by rcases h with h | h; (rw [ha] at h; cases h); exact h
    clear h
    go_enter Try.func27, Try.ntmps27
    go_wp2_with (first
      | (go_at_call 40; refine (isSignal_any _ _).mono ?_; rintro e w' ⟨rfl, rfl⟩))
    go_ret2
    exact ⟨rfl, rfl⟩

theorem implDistance_yes (a b : Int) (w : World) (h : isSig a = true) (h' : isSig b = true) :
    Calls Try.prog 25 #[.int .i64 a, .int .i64 b] w fun e w' => e = .returned (.tuple #[.int .i64 (dist a b), .bool true]) ∧ Below w.heap.size w w' := by
  have b0 := isSig_iff.1 h
  have b1 := isSig_iff.1 h'
  go_enter Try.func25, Try.ntmps25
  go_wp2_with (first
    | (go_at_call 40; refine (isSignal_any _ _).mono ?_; rintro e w' ⟨rfl, rfl⟩)
    | (go_at_call 47; refine (countChanged_any _ _ _ b0.1 b0.2 b1.1 b1.2).mono ?_; rintro e w1 ⟨rfl, rfl⟩))
  go_ret2
  exact ⟨rfl, Below.refl _ _⟩
theorem implDistance_no (a b : Int) (w : World) (h : isSig a = false ∨ isSig b = false) :
    Calls Try.prog 25 #[.int .i64 a, .int .i64 b] w fun e w' => e = .returned (.tuple #[.int .i64 0, .bool false]) ∧ w = w' := by
  cases ha : isSig a with
  | false =>
    clear h
    go_enter Try.func25, Try.ntmps25
    go_wp2_with (first
      | (go_at_call 40; refine (isSignal_any _ _).mono ?_; rintro e w' ⟨rfl, rfl⟩))
    go_ret2
    exact ⟨rfl, rfl⟩
  | true =>
    have hb : isSig b = false := by rcases h with h | h; (rw [ha] at h; cases h); exact h
    clear h
    go_enter Try.func25, Try.ntmps25
    go_wp2_with (first
      | (go_at_call 40; refine (isSignal_any _ _).mono ?_; rintro e w' ⟨rfl, rfl⟩))
    go_ret2
    exact ⟨rfl, rfl⟩
end Go.Proofs.Ytpddnpkhhmjomaa
