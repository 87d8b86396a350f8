/- Chapter 8: sets as numbers: what the program does with them. -/
import Derived.Test.YtpmdjdlojbpcfaaSt1
import Derived.Laws.Bits64b
import Derived.Laws.BitsAllLaws
namespace Go.Proofs.Ytpmdjdlojbpcfaa
open Go.RowKit
set_option linter.unusedSimpArgs false
set_option linter.unusedVariables false

theorem and_i64 (a b : Nat) (ha : a < 9223372036854775808) (hb : b < 9223372036854775808) : bits .and .i64 (a : Int) (b : Int) = ((a &&& b : Nat) : Int) := by
  have hx : a &&& b ≤ a := Nat.and_le_left
  have h1 : (BitVec.ofInt 64 (a : Int)).toNat = a := by
    rw [BitVec.ofInt_natCast, BitVec.toNat_ofNat]; exact Nat.mod_eq_of_lt (by omega)
  have h2 : (BitVec.ofInt 64 (b : Int)).toNat = b := by
    rw [BitVec.ofInt_natCast, BitVec.toNat_ofNat]; exact Nat.mod_eq_of_lt (by omega)
  show IntKind.i64.wrap ((BitVec.ofInt 64 (a : Int) &&& BitVec.ofInt 64 (b : Int)).toNat : Int) = _
  rw [BitVec.toNat_and, h1, h2]
  exact IntWalk.i64_in _ (by omega)
theorem wrapU (a : Nat) (h : a < 18446744073709551616) : IntKind.u64.wrap (a : Int) = a := by rw [IntKind.wrap_u64]; omega
theorem bit_and (s i : Nat) (hs : s < 65536) : (bits BinOp.and IntKind.u64 ((s : Int) / 2 ^ i) 1 == 1) = s.testBit i := by
  have h1 : (s : Int) / 2 ^ i = ((s / 2 ^ i : Nat) : Int) := shr_bit s i
  have h2 : s / 2 ^ i ≤ s := Nat.div_le_self _ _
  rw [h1, and_one_u64 _ (Int.natCast_nonneg _) (by omega), ← bit_of, Bool.eq_iff_iff]
  simp only [beq_iff_eq, decide_eq_true_eq]
  omega
theorem has_any (s i : Nat) (w : World) (hs : s < 65536) (hi : i < 16) :
    Calls Try.prog 90 #[.int .u64 s, .int .i64 i] w fun e w' => e = .returned (.bool (s.testBit i)) ∧ w = w' := by
  go_enter Try.func90, Try.ntmps90
  go_wp2
  go_ret
  exact ⟨ret_bool (bit_and s i hs), rfl⟩
theorem wrap_all (m : Nat) (hm : m ≤ 16) : IntKind.u64.wrap (IntKind.u64.wrap (2 ^ m) - 1) = ((2 ^ m - 1 : Nat) : Int) := by
  have h := two16 hm
  have h0 := Nat.two_pow_pos m
  have e : ((2 : Int) ^ m) = ((2 ^ m : Nat) : Int) := by simp
  rw [e, wrapU _ (by omega), show ((2 ^ m : Nat) : Int) - 1 = ((2 ^ m - 1 : Nat) : Int) by omega, wrapU _ (by omega)]
theorem allBelow_any (m : Nat) (w : World) (hm : m ≤ 16) :
    Calls Try.prog 69 #[.int .i64 m] w fun e w' => e = .returned (.int .u64 ((2 ^ m - 1 : Nat) : Int)) ∧ w = w' := by
  go_enter Try.func69, Try.ntmps69
  go_wp2
  go_ret
  exact ⟨ret_int (wrap_all m hm), rfl⟩

/-! ### How many digits are one -/
def popF (s : Nat) : Nat → Nat
  | 0 => 0
  | k + 1 => popF s k + (s.testBit k).toNat
theorem popF_eq (s k : Nat) : popF s k = popN s k := by
  induction k with
  | zero => rfl
  | succ k ih =>
    unfold popF popN
    rw [nums_succ, ih]
    cases s.testBit k <;> simp [popN]
def sw1 (s : Nat) : Nat := (s / 2 &&& 6148914691236517205) + (s &&& 6148914691236517205)
def sw2 (t : Nat) : Nat := (t / 4 &&& 3689348814741910323) + (t &&& 3689348814741910323)
def sw3 (t : Nat) : Nat := (t / 16 + t) &&& 1085102592571150095
def sw4 (t : Nat) : Nat := t + t / 256
def sw5 (t : Nat) : Nat := t + t / 65536
def sw6 (t : Nat) : Nat := t + t / 4294967296
def swar (s : Nat) : Nat := sw6 (sw5 (sw4 (sw3 (sw2 (sw1 s))))) &&& 127
/-- A byte above another one: what a mask leaves. -/
theorem and_split (h l M : Nat) (hl : l < 256) : (256 * h + l) &&& M = 256 * (h &&& (M / 256)) + (l &&& (M % 256)) := by
  have hM : M = 2 ^ 8 * (M / 256) + M % 256 := by omega
  have hlt : l &&& (M % 256) < 2 ^ 8 := Nat.lt_of_le_of_lt Nat.and_le_left hl
  refine Nat.eq_of_testBit_eq fun j => ?_
  rw [Nat.testBit_and, show 256 = 2 ^ 8 from rfl, Nat.testBit_two_pow_mul_add _ (show l < 2 ^ 8 from hl), Nat.testBit_two_pow_mul_add _ hlt]
  conv => lhs; rhs; rw [hM]
  rw [Nat.testBit_two_pow_mul_add _ (show M % 256 < 2 ^ 8 by omega)]
  split <;> simp [Nat.testBit_and]
theorem and_small (l M : Nat) (hl : l < 256) : l &&& M = l &&& (M % 256) := by
  have := and_split 0 l M hl
  simpa using this
theorem all256 {P : Nat → Prop} (h : ∀ k : Fin 256, P k.val) (a : Nat) (ha : a < 256) : P a := h ⟨a, ha⟩
/-- The three steps on one byte. -/
def b1 (x : Nat) : Nat := (x / 2 &&& 85) + (x &&& 85)
def b2 (x : Nat) : Nat := (x / 4 &&& 51) + (x &&& 51)
def b3 (x : Nat) : Nat := (x / 16 + x) &&& 15
theorem b1_low : ∀ (c : Fin 2) (l : Fin 256), (c.val * 128 + l.val / 2) &&& 85 = l.val / 2 &&& 85 := by decide +kernel
theorem b2_low : ∀ (c : Fin 4) (l : Fin 256), (c.val * 64 + l.val / 4) &&& 51 = l.val / 4 &&& 51 := by decide +kernel
theorem sw1_two (h l : Nat) (hh : h < 256) (hl : l < 256) : sw1 (256 * h + l) = 256 * b1 h + b1 l := by
  unfold sw1 b1
  have e : (256 * h + l) / 2 = 256 * (h / 2) + (h % 2 * 128 + l / 2) := by omega
  have k := b1_low ⟨h % 2, by omega⟩ ⟨l, hl⟩
  simp only at k
  rw [e, and_split _ _ _ (by omega), and_split _ _ _ hl]
  simp only [Nat.reduceDiv, Nat.reduceMod]
  rw [k, and_small (h / 2) _ (by omega), and_small h _ hh]
  simp only [Nat.reduceMod]
  omega
theorem sw2_two (h l : Nat) (hh : h < 256) (hl : l < 256) : sw2 (256 * h + l) = 256 * b2 h + b2 l := by
  unfold sw2 b2
  have e : (256 * h + l) / 4 = 256 * (h / 4) + (h % 4 * 64 + l / 4) := by omega
  have k := b2_low ⟨h % 4, by omega⟩ ⟨l, hl⟩
  simp only at k
  rw [e, and_split _ _ _ (by omega), and_split _ _ _ hl]
  simp only [Nat.reduceDiv, Nat.reduceMod]
  rw [k, and_small (h / 4) _ (by omega), and_small h _ hh]
  simp only [Nat.reduceMod]
  omega
theorem and15 (x : Nat) : x &&& 15 = x % 16 := Nat.and_two_pow_sub_one_eq_mod x 4
theorem sw3_two (h l : Nat) (hh : h ≤ 68) (hl : l ≤ 68) (hh' : h % 16 ≤ 4) : sw3 (256 * h + l) = 256 * b3 h + b3 l := by
  unfold sw3 b3
  have e : (256 * h + l) / 16 + (256 * h + l) = 256 * (h / 16 + h) + (h % 16 * 16 + l / 16 + l) := by omega
  rw [e, and_split _ _ _ (by omega)]
  simp only [Nat.reduceDiv, Nat.reduceMod]
  rw [and_small (h / 16 + h) _ (by omega)]
  simp only [Nat.reduceMod]
  rw [and15 (h % 16 * 16 + l / 16 + l), and15 (l / 16 + l)]
  omega
theorem byte_eq : ∀ x : Fin 256, b1 x.val < 256 ∧ b2 (b1 x.val) ≤ 68 ∧ b2 (b1 x.val) % 16 ≤ 4 ∧ b3 (b2 (b1 x.val)) = popF x.val 8 ∧ popF x.val 8 ≤ 8 := by decide +kernel
theorem popF_two (h l : Nat) (hh : h < 256) (hl : l < 256) : popF (256 * h + l) 16 = popF h 8 + popF l 8 := by
  have hb : ∀ j, (256 * h + l).testBit j = if j < 8 then l.testBit j else h.testBit (j - 8) := fun j => Nat.testBit_two_pow_mul_add (i := 8) h hl j
  simp only [popF, hb]
  simp
  omega
theorem swar_eq (s : Nat) (hs : s < 65536) : swar s = popN s 16 := by
  rw [← popF_eq]
  obtain ⟨h, l, hh, hl, rfl⟩ : ∃ h l, h < 256 ∧ l < 256 ∧ s = 256 * h + l := ⟨s / 256, s % 256, by omega, by omega, by omega⟩
  obtain ⟨h1, h2, h3, h4, h5⟩ := byte_eq ⟨h, hh⟩
  obtain ⟨l1, l2, l3, l4, l5⟩ := byte_eq ⟨l, hl⟩
  simp only at h1 h2 h3 h4 h5 l1 l2 l3 l4 l5
  unfold swar
  rw [sw1_two h l hh hl, sw2_two _ _ h1 l1, sw3_two _ _ h2 l2 h3, h4, l4, popF_two h l hh hl]
  have e : sw6 (sw5 (sw4 (256 * popF h 8 + popF l 8))) = 256 * popF h 8 + popF l 8 + popF h 8 := by
    unfold sw6 sw5 sw4
    omega
  rw [e, show (127 : Nat) = 2 ^ 7 - 1 from rfl, Nat.and_two_pow_sub_one_eq_mod]
  omega
theorem sw_bd (s : Nat) (hs : s < 65536) : sw1 s < 131072 ∧ sw2 (sw1 s) < 262144 ∧ sw3 (sw2 (sw1 s)) < 524288 ∧ sw4 (sw3 (sw2 (sw1 s))) < 1048576 ∧ sw5 (sw4 (sw3 (sw2 (sw1 s)))) < 2097152 ∧ sw6 (sw5 (sw4 (sw3 (sw2 (sw1 s))))) < 4194304 := by
  have a1 : sw1 s < 131072 := by
    unfold sw1
    have h1 : s / 2 &&& 6148914691236517205 ≤ s / 2 := Nat.and_le_left
    have h2 : s &&& 6148914691236517205 ≤ s := Nat.and_le_left
    omega
  have a2 : sw2 (sw1 s) < 262144 := by
    unfold sw2
    have h1 : sw1 s / 4 &&& 3689348814741910323 ≤ sw1 s / 4 := Nat.and_le_left
    have h2 : sw1 s &&& 3689348814741910323 ≤ sw1 s := Nat.and_le_left
    omega
  have a3 : sw3 (sw2 (sw1 s)) < 524288 := by
    unfold sw3
    have h1 : (sw2 (sw1 s) / 16 + sw2 (sw1 s)) &&& 1085102592571150095 ≤ sw2 (sw1 s) / 16 + sw2 (sw1 s) := Nat.and_le_left
    omega
  refine ⟨a1, a2, a3, ?_⟩
  generalize sw3 (sw2 (sw1 s)) = t at a3 ⊢
  unfold sw6 sw5 sw4
  omega
theorem c1 (s : Nat) (hs : s < 65536) : IntKind.u64.wrap (bits BinOp.and IntKind.u64 ((s : Int) / 2) 6148914691236517205 + bits BinOp.and IntKind.u64 (s : Int) 6148914691236517205) = (sw1 s : Int) := by
  have hb := (sw_bd s hs).1
  have e1 := bits_and_u64_nat (s / 2) 6148914691236517205 (by omega) (by omega)
  have e2 := bits_and_u64_nat s 6148914691236517205 (by omega) (by omega)
  rw [show (s : Int) / 2 = ((s / 2 : Nat) : Int) by omega]
  rw [show bits BinOp.and IntKind.u64 ((s / 2 : Nat) : Int) 6148914691236517205 = _ from e1, show bits BinOp.and IntKind.u64 (s : Int) 6148914691236517205 = _ from e2, ← Int.natCast_add]
  exact wrapU _ (by unfold sw1 at hb; omega)
theorem c2 (t : Nat) (ht : t < 131072) : IntKind.u64.wrap (bits BinOp.and IntKind.u64 ((t : Int) / 4) 3689348814741910323 + bits BinOp.and IntKind.u64 (t : Int) 3689348814741910323) = (sw2 t : Int) := by
  have e1 := bits_and_u64_nat (t / 4) 3689348814741910323 (by omega) (by omega)
  have e2 := bits_and_u64_nat t 3689348814741910323 (by omega) (by omega)
  have h1 : t / 4 &&& 3689348814741910323 ≤ t / 4 := Nat.and_le_left
  have h2 : t &&& 3689348814741910323 ≤ t := Nat.and_le_left
  rw [show (t : Int) / 4 = ((t / 4 : Nat) : Int) by omega]
  rw [show bits BinOp.and IntKind.u64 ((t / 4 : Nat) : Int) 3689348814741910323 = _ from e1, show bits BinOp.and IntKind.u64 (t : Int) 3689348814741910323 = _ from e2, ← Int.natCast_add]
  exact wrapU _ (by omega)
theorem c3 (t : Nat) (ht : t < 262144) : bits BinOp.and IntKind.u64 (IntKind.u64.wrap ((t : Int) / 16 + t)) 1085102592571150095 = (sw3 t : Int) := by
  rw [show (t : Int) / 16 + t = ((t / 16 + t : Nat) : Int) by omega, wrapU _ (by omega)]
  exact bits_and_u64_nat (t / 16 + t) 1085102592571150095 (by omega) (by omega)
theorem c4 (t : Nat) (ht : t < 524288) : IntKind.u64.wrap ((t : Int) + t / 256) = (sw4 t : Int) := by
  rw [show (t : Int) + t / 256 = ((t + t / 256 : Nat) : Int) by omega, wrapU _ (by omega)]; rfl
theorem c5 (t : Nat) (ht : t < 1048576) : IntKind.u64.wrap ((t : Int) + t / 65536) = (sw5 t : Int) := by
  rw [show (t : Int) + t / 65536 = ((t + t / 65536 : Nat) : Int) by omega, wrapU _ (by omega)]; rfl
theorem c6 (t : Nat) (ht : t < 2097152) : IntKind.u64.wrap ((t : Int) + t / 4294967296) = (sw6 t : Int) := by
  rw [show (t : Int) + t / 4294967296 = ((t + t / 4294967296 : Nat) : Int) by omega, wrapU _ (by omega)]; rfl
theorem ones64_any (s : Nat) (w : World) (hs : s < 65536) :
    Calls Try.prog 99 #[.int .u64 s] w fun e w' => e = .returned (.int .i64 (popN s 16)) ∧ w = w' := by
  obtain ⟨d1, d2, d3, d4, d5, d6⟩ := sw_bd s hs
  have HE : Hid (swar s = popN s 16) := Lib.hid (swar_eq s hs)
  unfold swar at HE
  have e1 := c1 s hs
  have e2 := c2 _ d1
  have e3 := c3 _ d2
  have e4 := c4 _ d3
  have e5 := c5 _ d4
  have e6 := c6 _ d5
  have e7 : IntKind.i64.wrap (sw6 (sw5 (sw4 (sw3 (sw2 (sw1 s)))))) = (sw6 (sw5 (sw4 (sw3 (sw2 (sw1 s))))) : Int) := IntWalk.i64_in _ (by omega)
  have e8 : bits BinOp.and IntKind.i64 (sw6 (sw5 (sw4 (sw3 (sw2 (sw1 s))))) : Int) 127 = ((sw6 (sw5 (sw4 (sw3 (sw2 (sw1 s))))) &&& 127 : Nat) : Int) := and_i64 _ 127 (by omega) (by omega)
  rw [HE.out] at e8
  clear d1 d2 d3 d4 d5 d6
  generalize sw6 (sw5 (sw4 (sw3 (sw2 (sw1 s))))) = t6 at *
  generalize sw5 (sw4 (sw3 (sw2 (sw1 s)))) = t5 at *
  generalize sw4 (sw3 (sw2 (sw1 s))) = t4 at *
  generalize sw3 (sw2 (sw1 s)) = t3 at *
  generalize sw2 (sw1 s) = t2 at *
  generalize sw1 s = t1 at *
  generalize popN s 16 = r at *
  go_enter Try.func99, Try.ntmps99
  go_wp2
  go_ret
  exact ⟨rfl, rfl⟩
end Go.Proofs.Ytpmdjdlojbpcfaa
