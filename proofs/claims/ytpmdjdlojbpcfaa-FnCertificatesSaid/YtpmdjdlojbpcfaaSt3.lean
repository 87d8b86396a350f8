/- Chapter 8: lists and sets of the program. -/
import Derived.Test.YtpmdjdlojbpcfaaSt2
import Derived.Test.YtpmdjdlojbpcfaaShelf
namespace Go.Proofs.Ytpmdjdlojbpcfaa
open Go.RowKit
set_option linter.unusedSimpArgs false
set_option linter.unusedVariables false

theorem ones_any (s : Nat) (w : World) (hs : s < 65536) :
    Calls Try.prog 89 #[.int .u64 s] w fun e w' => e = .returned (.int .i64 (popN s 16)) ∧ w = w' := by
  go_enter Try.func89, Try.ntmps89
  go_wp2_with (go_at_call 99; refine (ones64_any s _ hs).mono ?_; rintro e w' ⟨rfl, rfl⟩)
  go_ret
  exact ⟨rfl, rfl⟩
theorem size_any (s : Nat) (w : World) (hs : s < 65536) :
    Calls Try.prog 65 #[.int .u64 s] w fun e w' => e = .returned (.int .i64 (popN s 16)) ∧ w = w' := by
  go_enter Try.func65, Try.ntmps65
  go_wp2_with (go_at_call 89; refine (ones_any s _ hs).mono ?_; rintro e w' ⟨rfl, rfl⟩)
  go_ret
  exact ⟨rfl, rfl⟩
theorem len_any (s : Nat) (w : World) (hs : s < 65536) :
    Calls Try.prog 92 #[.int .u64 s] w fun e w' => e = .returned (.int .i64 (Lib.bitLen s)) ∧ w = w' :=
  (Try.bits_Len s w (by omega) (by omega)).mono fun e w' ⟨he, hw⟩ => ⟨by simpa using he, hw.symm⟩
theorem bitLenAux_lt : ∀ (f x : Nat), x < 2 ^ f → x < 2 ^ Lib.bitLenAux f x
  | 0, x, h => by simpa [Lib.bitLenAux] using h
  | f + 1, x, h => by
    unfold Lib.bitLenAux
    split
    · next h0 => subst h0; simp
    · have := bitLenAux_lt f (x / 2) (by rw [Nat.pow_succ] at h; omega)
      rw [Nat.add_comm, Nat.pow_succ]; omega
theorem bitLen_lt (s : Nat) (hs : s < 65536) : s < 2 ^ Lib.bitLen s := bitLenAux_lt 64 s (by omega)
theorem bitLen_16 (s : Nat) (hs : s < 65536) : Lib.bitLen s ≤ 16 := Lib.bitLen_le s 16 (by decide) (by omega)
theorem nums_bl (s : Nat) (hs : s < 65536) : nums s (Lib.bitLen s) = nums s 16 := (nums_top (bitLen_lt s hs) (bitLen_16 s hs)).symm

theorem numbers_any (s : Nat) (w : World) (hs : s < 65536) :
    Calls Try.prog 75 #[.int .u64 s] w fun e w' => ∃ v, e = .returned v ∧ Own w' w.heap.size v (nums s 16) ∧ Below w.heap.size w w' := by
  have hb16 := bitLen_16 s hs
  have HB := Lib.hid (nums_bl s hs)
  have HL := fun W => Lib.hid (len_any s W hs)
  obtain ⟨b, hbe⟩ : ∃ b, b = Lib.bitLen s := ⟨_, rfl⟩
  simp only [← hbe] at HL HB hb16
  clear hbe
  go_enter Try.func75, Try.ntmps75
  go_wp2_with (go_at_call 92; refine (HL _).out.mono ?_; rintro e w' ⟨rfl, rfl⟩)
  go_loopw [3, 7] (fun v i wr => ∃ k : Nat, k ≤ b ∧ i = .int .i64 k ∧ Own wr w.heap.size v (nums s k) ∧ Below w.heap.size w wr) (fun _ i _ => b - (intOf i).toNat)
  case atStart => exact ⟨0, by omega, rfl, Own.nil _ _, Below.refl _ _⟩
  case round =>
    obtain ⟨k, hk, rfl, hown, hbel⟩ := hrel
    have hlen := nums_len s k
    by_cases hlt : k < b
    · have hc := has_any s k wr hs (by omega)
      cases hb : s.testBit k with
      | true =>
        rw [hb] at hc
        have hs := Lib.hid (nums_yes hb)
        have hsz := hbel.size
        clear hb
        go_wp2_with (first
          | (go_at_call 90; refine hc.mono ?_; rintro e w' ⟨rfl, rfl⟩)
          | (at_builtin; refine append_int rfl _ _ rfl w.heap.size _ (nums s k) (k : Int) wr.heap.size rfl rfl (hown.alloc _) (new_cell _ _ _) (by omega) (by simp; omega) ?_; intro v' w1 hown1 hgrow1))
        go_roundw
        case rel => exact ⟨k + 1, by omega, by go_num, by rw [hs.out]; exact hown1, (hbel.alloc hsz _).grown hgrow1 (by simp; omega) (fun j hj => (hown.lt j hj).1)⟩
        case measure => simp [intOf]; omega
      | false =>
        rw [hb] at hc
        have hs := Lib.hid (nums_no hb)
        clear hb
        go_wp2_with (go_at_call 90; refine hc.mono ?_; rintro e w' ⟨rfl, rfl⟩)
        go_roundw
        case rel => exact ⟨k + 1, by omega, by go_num, by rw [hs.out]; exact hown, hbel⟩
        case measure => simp [intOf]; omega
    · obtain rfl : k = b := by omega
      go_wp2
      go_ret
      exact ⟨_, rfl, by rw [← HB.out]; exact hown, hbel⟩

theorem bit_add (s x : Nat) (hs : s < 65536) (hx : x < 16) : ∃ p r : Nat, IntKind.u64.wrap (2 ^ x) = (p : Int) ∧ bits BinOp.or IntKind.u64 (s : Int) (p : Int) = (r : Int) ∧ r = s ||| 2 ^ x ∧ r < 65536 := by
  have h1 : 2 ^ x < 2 ^ 16 := Nat.pow_lt_pow_right (by decide) hx
  have h2 : s ||| 2 ^ x < 2 ^ 16 := Nat.or_lt_two_pow (by omega) h1
  refine ⟨2 ^ x, s ||| 2 ^ x, ?_, bits_or_u64_nat s (2 ^ x) (by omega) (by omega), rfl, by omega⟩
  rw [show ((2 : Int) ^ x) = ((2 ^ x : Nat) : Int) by simp]
  exact wrapU _ (by omega)
theorem setN_lt16 {zs : List Int} (h : ∀ x ∈ zs, 0 ≤ x ∧ x < 16) : setN zs < 65536 := by
  have : setN zs < 2 ^ 16 := Nat.lt_pow_two_of_testBit _ fun j hj => by
    rw [setN_bit, List.any_eq_false]
    intro x hx
    have := h x hx
    simp; omega
  omega
theorem setOf_any (v : Value) (zs : List Int) (w : World) (hz : ∀ x ∈ zs, 0 ≤ x ∧ x < 16) (hr : Rd w v zs) :
    Calls Try.prog 73 #[v] w fun e w' => e = .returned (.int .u64 (setN zs)) ∧ w = w' := by
  have hm := hr.max
  unfold maxLen at hm
  obtain ⟨a1, c1, rfl⟩ := hr.len
  obtain ⟨n, hn⟩ : ∃ n, n = zs.length := ⟨_, rfl⟩
  have HZ : Hid (∀ k, k < n → ∃ x : Nat, zs[k]?.getD 0 = (x : Int) ∧ x < 16 ∧ setN (zs.take (k + 1)) = setN (zs.take k) ||| 2 ^ x ∧ setN (zs.take k) < 65536) := Lib.hid fun k hk => by
    have hk' : k < zs.length := by omega
    have := hz zs[k] (List.getElem_mem hk')
    refine ⟨zs[k].toNat, by simp [hk']; omega, by omega, ?_, setN_lt16 fun x hx => hz x (List.mem_of_mem_take hx)⟩
    rw [List.take_succ_eq_append_getElem hk', setN_snoc]
  rw [← hn] at hm ⊢
  have HN := Lib.hid hn
  have HR := Lib.hid hr
  clear hn hr hz
  go_enter Try.func73, Try.ntmps73
  go_wp2
  go_loop [3, 8] (fun t i => ∃ k s : Nat, k ≤ n ∧ i = .int .i64 k ∧ t = .int .u64 s ∧ Hid (s = setN (zs.take k))) (fun _ i => n - (intOf i).toNat)
  case atStart => exact ⟨0, 0, Nat.zero_le _, rfl, rfl, Lib.hid (by simp [setN])⟩
  case round =>
    obtain ⟨k, s, hk, rfl, rfl, hst⟩ := hrel
    by_cases hlt : k < n
    · obtain ⟨g1, o1, rfl, hg1, q⟩ := HR.out.at_ (by rw [← HN.out]) k (by rw [← HN.out]; exact hlt)
      obtain ⟨x, hx, hx16, hstep, hlt16⟩ := HZ.out k hlt
      obtain ⟨p, r, e1, e2, hr, hr16⟩ := bit_add s x (by rw [hst.out]; exact hlt16) hx16
      have hst' : Hid (r = setN (zs.take (k + 1))) := Lib.hid (by rw [hstep, ← hst.out]; exact hr)
      rw [hx] at q
      clear hstep hlt16 hr hx
      go_wp2
      go_round
      case rel => exact ⟨k + 1, r, by omega, by go_num, rfl, hst'⟩
      case measure => simp [intOf]; omega
    · have : k = n := by omega
      subst this
      have hf : Hid (s = setN zs) := Lib.hid (by rw [hst.out, HN.out, List.take_length])
      go_wp2
      go_ret
      exact ⟨ret_int (by rw [hf.out]), rfl⟩
theorem isTimes_any (t : Int) (w : World) : Calls Try.prog 54 #[.int .i64 t] w fun e w' => e = .returned (.bool (inB t 1 2)) ∧ w = w' := by
  by_cases h0 : 1 ≤ t
  · go_enter Try.func54, Try.ntmps54
    go_wp2
    go_ret
    exact ⟨ret_bool (by unfold inB; simp; try omega), rfl⟩
  · go_enter Try.func54, Try.ntmps54
    go_wp2
    go_ret
    exact ⟨ret_bool (by unfold inB; simp; try omega), rfl⟩
/-- What stands in 'before' at round k. -/
def befI (zs : List Int) (k : Nat) (b : Int) : Prop := (k = 0 ∧ b = -1) ∨ (∃ m, k = m + 1 ∧ b = zs[m]?.getD 0 ∧ 0 ≤ b)
theorem befI.ok {zs : List Int} {k : Nat} {b h : Int} (hb : befI zs k b) (h1 : b < zs[k]?.getD 0) (h2 : zs[k]?.getD 0 < h) : rgAt zs 0 (h - 1) k = true := by
  rcases hb with ⟨rfl, rfl⟩ | ⟨m, rfl, rfl, h3⟩
  · exact rgAt_first (inB_yes (by omega) (by omega))
  · exact rgAt_up (inB_yes (by omega) (by omega)) h1
theorem befI.next {zs : List Int} {k : Nat} {b : Int} (hb : befI zs k b) (h1 : b < zs[k]?.getD 0) : befI zs (k + 1) (zs[k]?.getD 0) :=
  .inr ⟨k, rfl, rfl, by rcases hb with ⟨rfl, rfl⟩ | ⟨m, rfl, rfl, h3⟩ <;> omega⟩
theorem befI.bad {zs : List Int} {k : Nat} {b h : Int} (hb : befI zs k b) (h1 : zs[k]?.getD 0 ≤ b ∨ h ≤ zs[k]?.getD 0) : rgAt zs 0 (h - 1) k = false := by
  rcases h1 with h1 | h1
  · rcases hb with ⟨rfl, rfl⟩ | ⟨m, rfl, rfl, h3⟩
    · exact rgAt_out (inB_no (by omega))
    · exact rgAt_flat h1
  · exact rgAt_out (inB_no (by omega))
theorem below_any (v : Value) (zs : List Int) (h : Int) (w : World) (hr : Rd w v zs) :
    Calls Try.prog 72 #[v, .int .i64 h] w fun e w' => e = .returned (.bool (risB zs 0 (h - 1))) ∧ w = w' := by
  have hm := hr.max
  unfold maxLen at hm
  obtain ⟨a1, c1, rfl⟩ := hr.len
  obtain ⟨n, hn⟩ : ∃ n, n = zs.length := ⟨_, rfl⟩
  rw [← hn] at hm ⊢
  have HN := Lib.hid hn
  have HR := Lib.hid hr
  clear hn hr
  go_enter Try.func72, Try.ntmps72
  go_wp2
  go_loop [5, 10] (fun b i => ∃ (k : Nat) (bv : Int), k ≤ n ∧ i = .int .i64 k ∧ b = .int .i64 bv ∧ Hid (befI zs k bv) ∧ Hid (∀ j, j < k → rgAt zs 0 (h - 1) j = true)) (fun _ i => n - (intOf i).toNat)
  case atStart => exact ⟨0, -1, Nat.zero_le _, rfl, rfl, Lib.hid (.inl ⟨rfl, rfl⟩), Lib.hid fun j hj => by omega⟩
  case round =>
    obtain ⟨k, bv, hk, rfl, rfl, hbf, hall⟩ := hrel
    by_cases hlt : k < n
    · obtain ⟨g1, o1, rfl, hg1, q⟩ := HR.out.at_ (by rw [← HN.out]) k (by rw [← HN.out]; exact hlt)
      by_cases h1 : zs[k]?.getD 0 ≤ bv
      · have hf := Lib.hid (risB_no k (by rw [← HN.out]; exact hlt) (hbf.out.bad (h := h) (.inl h1)))
        go_wp2
        go_ret
        exact ⟨ret_bool hf.out.symm, rfl⟩
      · by_cases h2 : h ≤ zs[k]?.getD 0
        · have hf := Lib.hid (risB_no k (by rw [← HN.out]; exact hlt) (hbf.out.bad (h := h) (.inr h2)))
          go_wp2
          go_ret
          exact ⟨ret_bool hf.out.symm, rfl⟩
        · have hbf' := Lib.hid (hbf.out.next (by omega))
          have hall' : Hid (∀ j, j < k + 1 → rgAt zs 0 (h - 1) j = true) := Lib.hid fun j hj => by
            by_cases e : j = k
            · subst e; exact hbf.out.ok (by omega) (by omega)
            · exact hall.out j (by omega)
          go_wp2
          go_round
          case rel => exact ⟨k + 1, _, by omega, by go_num, rfl, hbf', hall'⟩
          case measure => simp [intOf]; omega
    · have hf : Hid (risB zs 0 (h - 1) = true) := Lib.hid (risB_yes fun j hj => hall.out j (by have := HN.out; omega))
      go_wp2
      go_ret
      exact ⟨ret_bool hf.out.symm, rfl⟩
end Go.Proofs.Ytpmdjdlojbpcfaa
