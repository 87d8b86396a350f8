/- Doubles that are bounded: what sums of them cannot exceed. No program in sight. -/
import Derived.Test.YtkdmjeonlghnjaaLib2
import Derived.Laws.FloatArith
namespace Go.Proofs.Ytkdmjeonlghnjaa
open Go.RowKit
set_option linter.unusedSimpArgs false
set_option linter.unusedVariables false

/-- The word x is a finite double, not below zero, of at most 2 ^ k. -/
def LeP (k x : Nat) : Prop := x ≤ (k + 1023) * 2 ^ 52
theorem LeP.mono {k l x : Nat} (h : LeP k x) (hl : k ≤ l) : LeP l x := Nat.le_trans h (Nat.mul_le_mul_right _ (by omega))

theorem div_two {m a b : Nat} (h : m < 2 ^ (a + b)) : m / 2 ^ b < 2 ^ a := by
  rw [Nat.div_lt_iff_lt_mul (Nat.two_pow_pos b), ← Nat.pow_add]; exact h
theorem lt_two (m : Nat) : m < 2 ^ (m.log2 + 1) := Nat.lt_log2_self
theorem two_mono {a b : Nat} (h : a ≤ b) : 2 ^ a ≤ 2 ^ b := Nat.pow_le_pow_right (by decide) h
theorem log2_le {m a : Nat} (h : m < 2 ^ (a + 1)) : m.log2 ≤ a := by
  by_cases h0 : m = 0
  · subst h0; simp
  · have := (Nat.log2_lt h0).2 h; omega

theorem cut_low (way : Ieee.Toward) (s : Bool) (n drop a : Nat) (h : n < 2 ^ (a + drop)) : n / (1 <<< min drop (n.log2 + 2)) < 2 ^ a := by
  rw [Nat.one_shiftLeft]
  by_cases hd : drop ≤ n.log2 + 2
  · rw [Nat.min_eq_left hd]; exact div_two h
  · rw [Nat.min_eq_right (by omega)]
    have : n / 2 ^ (n.log2 + 2) = 0 := Nat.div_eq_of_lt (Nat.lt_of_lt_of_le (lt_two n) (two_mono (by omega)))
    rw [this]; exact Nat.two_pow_pos _
theorem cut_le (way : Ieee.Toward) (s : Bool) (n drop a : Nat) (h : n < 2 ^ (a + drop)) : way.cut s n drop ≤ 2 ^ a := by
  have := cut_low way s n drop a h
  unfold Ieee.Toward.cut
  dsimp only
  refine Nat.le_trans (Nat.add_le_add_left (Bool.toNat_le _) _) ?_
  exact this
theorem cut_zero (s : Bool) (n drop a : Nat) (h : n < 2 ^ (a + drop)) : Ieee.Toward.zero.cut s n drop < 2 ^ a := by
  have := cut_low .zero s n drop a h
  unfold Ieee.Toward.cut
  simpa using this

theorem double_least : Ieee.double.leastPlace = -1074 := by decide
theorem double_binade : Ieee.double.binade = 2 ^ 52 := by decide
theorem double_weight : Ieee.double.signWeight = 2 ^ 63 := by decide
theorem double_inf : Ieee.double.infRung = 2047 * 2 ^ 52 := by decide

theorem nearest_leP {m : Nat} {p : Int} {k : Nat} (h : m = 0 ∨ p + m.log2 < k) : LeP k (Ieee.double.nearest false m p) := by
  unfold Ieee.Format.nearest
  by_cases h0 : m = 0
  · rw [if_pos h0]; simp [Ieee.Format.word, LeP]
  · rw [if_neg h0]
    have h := h.resolve_left h0
    rw [double_least, double_binade, show Ieee.double.fractionBits = 52 from rfl]
    dsimp only
    obtain ⟨last, hl⟩ : ∃ last, last = max (p + m.log2 - (52 : Nat)) (-1074 : Int) := ⟨_, rfl⟩
    rw [← hl]
    have hk : Ieee.Toward.even.cut false (m <<< (p - last).toNat) (last - p).toNat ≤ 2 ^ 53 := by
      refine cut_le _ _ _ _ _ ?_
      rw [Nat.shiftLeft_eq]
      have hm := lt_two m
      have h1 : m * 2 ^ (p - last).toNat < 2 ^ (m.log2 + 1 + (p - last).toNat) := by
        rw [Nat.pow_add 2 (m.log2 + 1)]; exact Nat.mul_lt_mul_of_pos_right hm (Nat.two_pow_pos _)
      exact Nat.lt_of_lt_of_le h1 (two_mono (by omega))
    have hw : ∀ r, Ieee.double.word false r = r := fun r => rfl
    rw [hw]
    unfold LeP
    refine Nat.le_trans (Nat.min_le_left _ _) ?_
    have hj : (last - -1074).toNat + 2 ≤ k + 1023 := by omega
    have := Nat.mul_le_mul_right (2 ^ 52) hj
    rw [Nat.add_mul] at this
    omega

theorem read_leP {x k : Nat} (hk : k ≤ 1000) (h : LeP k x) : ∃ m p, Ieee.double.read x = .number false m p ∧ m < 2 ^ 53 ∧ (m = 0 ∨ p + m.log2 ≤ k) := by
  unfold LeP at h
  have hx : x < 2 ^ 63 := by omega
  have e1 : x / 2 ^ 63 = 0 := Nat.div_eq_of_lt hx
  have e2 : x % 2 ^ 63 = x := Nat.mod_eq_of_lt hx
  unfold Ieee.Format.read
  rw [double_weight, double_binade, double_inf, double_least]
  dsimp only
  rw [e1, e2]
  by_cases c : x < 2 ^ 52
  · rw [if_pos c]
    have := log2_le (a := 51) c
    exact ⟨x, _, rfl, by omega, .inr (by omega)⟩
  · rw [if_neg c, if_pos (by omega)]
    have hm := Nat.mod_lt x (y := 2 ^ 52) (by decide)
    have := log2_le (m := 2 ^ 52 + x % 2 ^ 52) (a := 52) (by omega)
    refine ⟨_, _, rfl, by omega, .inr ?_⟩
    have h5 : x / 2 ^ 52 ≤ k + 1023 := Nat.div_le_of_le_mul (by rw [Nat.mul_comm]; exact h)
    omega

theorem ofInt_leP (n : Int) (k : Nat) (h0 : 0 ≤ n) (h : n < 2 ^ k) : LeP k (floatOfInt .f64 n) := by
  have e : floatOfInt .f64 n = Ieee.double.nearest (decide (n < 0)) n.natAbs 0 := rfl
  rw [e, decide_eq_false (by omega)]
  refine nearest_leP ?_
  by_cases hz : n.natAbs = 0
  · exact .inl hz
  · refine .inr ?_
    have : n.natAbs < 2 ^ k := by
      have : (n.natAbs : Int) < ((2 ^ k : Nat) : Int) := by push_cast; omega
      exact_mod_cast this
    have := (Nat.log2_lt hz).2 this
    omega

theorem quo_leP {x c k n e : Nat} {j : Int} (hk : k ≤ 1000) (hx : LeP k x) (hc : Ieee.double.read c = .number false n j) (hn : n ≠ 0) (hj : (e : Int) ≤ j + n.log2) (he : e ≤ k) :
    ∃ r, floatBits .quo .f64 x c = some r ∧ LeP (k + 1 - e) r := by
  obtain ⟨m, p, hr, hm, hb⟩ := read_leP hk hx
  have h1 : floatBits .quo .f64 x c = ((Ieee.double.read x).quotient 54 (Ieee.double.read c)).map Ieee.double.write := rfl
  rw [h1, hr, hc]
  simp only [Ieee.Datum.quotient, if_neg hn, Option.map_some]
  refine ⟨_, rfl, ?_⟩
  simp only [Ieee.Format.write, Bool.xor_self]
  refine nearest_leP ?_
  by_cases h0 : m = 0
  · subst h0
    left; simp
  · right
    have hb := hb.resolve_left h0
    have hl := log2_le (a := 52) hm
    obtain ⟨more, hmore⟩ : ∃ more, more = 54 + n.log2 - m.log2 := ⟨_, rfl⟩
    rw [← hmore, Nat.shiftLeft_eq]
    have hd : m * 2 ^ more < 2 ^ (55 + n.log2) := by
      have h1 : m * 2 ^ more < 2 ^ (m.log2 + 1 + more) := by
        rw [Nat.pow_add 2 (m.log2 + 1)]; exact Nat.mul_lt_mul_of_pos_right (lt_two m) (Nat.two_pow_pos _)
      exact Nat.lt_of_lt_of_le h1 (two_mono (by omega))
    have hq : m * 2 ^ more / n < 2 ^ 55 := by
      refine Nat.lt_of_le_of_lt (Nat.div_le_div_left (Nat.log2_self_le hn) (Nat.two_pow_pos _)) (div_two hd)
    have ht : (m * 2 ^ more % n != 0).toNat ≤ 1 := Bool.toNat_le _
    have := log2_le (m := 2 * (m * 2 ^ more / n) + (m * 2 ^ more % n != 0).toNat) (a := 55) (by omega)
    omega

theorem mul_leP {x y k l : Nat} (hk : k ≤ 1000) (hl : l ≤ 1000) (hx : LeP k x) (hy : LeP l y) : ∃ r, floatBits .mul .f64 x y = some r ∧ LeP (k + l + 2) r := by
  obtain ⟨m, p, hr, hm, hb⟩ := read_leP hk hx
  obtain ⟨n, q, hs, hn, hc⟩ := read_leP hl hy
  have h1 : floatBits .mul .f64 x y = ((Ieee.double.read x).product (Ieee.double.read y)).map Ieee.double.write := rfl
  rw [h1, hr, hs]
  simp only [Ieee.Datum.product, Option.map_some]
  refine ⟨_, rfl, ?_⟩
  simp only [Ieee.Format.write, Bool.xor_self]
  refine nearest_leP ?_
  by_cases h0 : m = 0
  · subst h0; left; simp
  · by_cases h2 : n = 0
    · subst h2; left; simp
    · right
      have hb := hb.resolve_left h0
      have hc := hc.resolve_left h2
      have : m * n < 2 ^ (m.log2 + n.log2 + 1 + 1) := by
        rw [show m.log2 + n.log2 + 1 + 1 = (m.log2 + 1) + (n.log2 + 1) by omega, Nat.pow_add 2 (m.log2 + 1)]
        exact Nat.mul_lt_mul'' (lt_two m) (lt_two n)
      have := log2_le this
      omega

theorem rootFrom_le (n : Nat) : ∀ (todo root : Nat), root * root ≤ n → Ieee.Datum.rootFrom n todo root * Ieee.Datum.rootFrom n todo root ≤ n := by
  intro todo
  induction todo with
  | zero => intro root h; exact h
  | succ todo ih =>
    intro root h
    unfold Ieee.Datum.rootFrom
    dsimp only
    apply ih
    split
    · assumption
    · exact h

theorem sqrt_leP {x k : Nat} (hk : k ≤ 1000) (hx : LeP k x) : ∃ r, FloatKind.f64.format.sqrt x = some r ∧ LeP (k / 2 + 1) r := by
  obtain ⟨m, p, hr, hm, hb⟩ := read_leP hk hx
  have h1 : FloatKind.f64.format.sqrt x = ((Ieee.double.read x).root 54).map Ieee.double.write := rfl
  rw [h1, hr]
  by_cases h0 : m = 0
  · subst h0
    simp only [Ieee.Datum.root, if_pos, Option.map_some]
    exact ⟨_, rfl, nearest_leP (.inl rfl)⟩
  · have hb := hb.resolve_left h0
    simp only [Ieee.Datum.root, if_neg h0, Bool.false_eq_true, if_false, Option.map_some]
    refine ⟨_, rfl, ?_⟩
    simp only [Ieee.Format.write]
    refine nearest_leP (.inr ?_)
    obtain ⟨more, hmore⟩ : ∃ more, more = 2 * 54 - m.log2 + ((p - (2 * 54 - m.log2 : Nat)) % 2).toNat := ⟨_, rfl⟩
    rw [← hmore, Nat.shiftLeft_eq]
    obtain ⟨n, hn⟩ : ∃ n, n = m * 2 ^ more := ⟨_, rfl⟩
    rw [← hn]
    have hw := rootFrom_le n (n.log2 / 2 + 1) 0 (by omega)
    obtain ⟨whole, hwh⟩ : ∃ whole, whole = Ieee.Datum.rootFrom n (n.log2 / 2 + 1) 0 := ⟨_, rfl⟩
    rw [← hwh] at hw ⊢
    have hd : n < 2 ^ (m.log2 + 1 + more) := by
      rw [hn, Nat.pow_add 2 (m.log2 + 1)]; exact Nat.mul_lt_mul_of_pos_right (lt_two m) (Nat.two_pow_pos _)
    have hwl : whole < 2 ^ ((m.log2 + more) / 2 + 1) := by
      rcases Nat.lt_or_ge whole (2 ^ ((m.log2 + more) / 2 + 1)) with h | h
      · exact h
      · have h2 := Nat.mul_le_mul h h
        rw [← Nat.pow_add] at h2
        have h3 := two_mono (a := m.log2 + 1 + more) (b := (m.log2 + more) / 2 + 1 + ((m.log2 + more) / 2 + 1)) (by omega)
        omega
    have ht : (whole * whole != n).toNat ≤ 1 := Bool.toNat_le _
    have := log2_le (m := 2 * whole + (whole * whole != n).toNat) (a := (m.log2 + more) / 2 + 1) (by rw [Nat.pow_succ]; omega)
    omega

theorem toInt_leP {x k : Nat} (hk : k ≤ 60) (hx : LeP k x) : ∃ n : Nat, floatToIntVal .f64 x .i64 = some (n : Int) ∧ n < 2 ^ (k + 1) := by
  obtain ⟨m, p, hr, hm, hb⟩ := read_leP (by omega) hx
  have hlt : Ieee.Toward.zero.cut false (m <<< p.toNat) (-p).toNat < 2 ^ (k + 1) := by
    refine cut_zero _ _ _ _ ?_
    rw [Nat.shiftLeft_eq]
    rcases hb with rfl | hb
    · rw [Nat.zero_mul]; exact Nat.two_pow_pos _
    · have h1 : m * 2 ^ p.toNat < 2 ^ (m.log2 + 1 + p.toNat) := by
        rw [Nat.pow_add 2 (m.log2 + 1)]; exact Nat.mul_lt_mul_of_pos_right (lt_two m) (Nat.two_pow_pos _)
      exact Nat.lt_of_lt_of_le h1 (two_mono (by omega))
  refine ⟨Ieee.Toward.zero.cut false (m <<< p.toNat) (-p).toNat, ?_, hlt⟩
  have e : (FloatKind.f64.decode x).toInt .zero = some ((Ieee.Toward.zero.cut false (m <<< p.toNat) (-p).toNat : Nat) : Int) := by
    show (Ieee.Datum.toInt .zero (Ieee.double.read x)) = _
    rw [hr]
    simp [Ieee.Datum.toInt, Ieee.Datum.integral, Ieee.signed]
  unfold floatToIntVal
  rw [e]
  have h2 : (2 : Nat) ^ (k + 1) ≤ 2 ^ 61 := two_mono (by omega)
  have h3 : IntKind.i64.min = -9223372036854775808 := by rfl
  have h4 : IntKind.i64.max = 9223372036854775807 := by rfl
  simp only [h3, h4]
  rw [if_pos ⟨by omega, by omega⟩]
end Go.Proofs.Ytkdmjeonlghnjaa
