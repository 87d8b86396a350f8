/- Chapter 5: checks of words, sums, signals for residues; the functions that answer with integers alone. -/
import Derived.Test.YtnkcmadjeofedaaDoorCk0
namespace Go.Proofs.YtnkcmadjeofedaaDoor
open Go.RowKit
set_option linter.unusedSimpArgs false
set_option linter.unusedVariables false

theorem areWithin_any (v : Value) (zs : List Int) (lo hi : Int) (w : World) (hr : Rd w v zs) :
    Calls Tryd.prog 30 #[v, .int .i64 lo, .int .i64 hi] w fun e w' => e = .returned (.bool (allIn zs lo hi)) ∧ w = w' := by
  have hm := hr.max
  unfold maxLen at hm
  obtain ⟨a1, c1, rfl⟩ := hr.len
  obtain ⟨n, hn⟩ : ∃ n, n = zs.length := ⟨_, rfl⟩
  rw [← hn] at hm ⊢
  have HN := Lib.hid hn
  have HR := Lib.hid hr
  clear hn hr
  go_enter Tryd.func30, Tryd.ntmps30
  go_wp2
  go_loop [11] (fun i => ∃ k : Nat, k ≤ n ∧ i = .int .i64 k ∧ Hid (∀ j, j < k → inB (zs[j]?.getD 0) lo hi = true)) (fun i => n - (intOf i).toNat)
  case atStart => exact ⟨0, Nat.zero_le _, rfl, Lib.hid fun j hj => by omega⟩
  case round =>
    obtain ⟨k, hk, rfl, hall⟩ := hrel
    by_cases hlt : k < n
    · obtain ⟨g1, o1, rfl, hg1, q⟩ := HR.out.at_ (by rw [← HN.out]) k (by rw [← HN.out]; exact hlt)
      by_cases hb : lo ≤ zs[k]?.getD 0 ∧ zs[k]?.getD 0 ≤ hi
      · obtain ⟨b0, b1⟩ := hb
        have hall' : Hid (∀ j, j < k + 1 → inB (zs[j]?.getD 0) lo hi = true) := Lib.hid fun j hj => by
          by_cases e : j = k
          · rw [e]; exact inB_yes b0 b1
          · exact hall.out j (by omega)
        go_wp2
        go_round
        case rel => exact ⟨k + 1, by omega, by go_num, hall'⟩
        case measure => simp [intOf]; omega
      · have hf := Lib.hid (allIn_false zs lo hi k (by rw [← HN.out]; exact hlt) (inB_no (by omega)))
        by_cases b0 : zs[k]?.getD 0 < lo
        · clear hb
          go_wp2
          go_ret
          exact ⟨ret_bool hf.out.symm, rfl⟩
        · have b1 : hi < zs[k]?.getD 0 := by omega
          clear hb
          go_wp2
          go_ret
          exact ⟨ret_bool hf.out.symm, rfl⟩
    · have hf := Lib.hid (allIn_true zs lo hi fun j hj => hall.out j (by have := HN.out; omega))
      go_wp2
      go_ret
      exact ⟨ret_bool hf.out.symm, rfl⟩

theorem isCheckedWord_any (v : Value) (zs : List Int) (w : World) (hr : Rd w v zs) :
    Calls Tryd.prog 21 #[v] w fun e w' => e = .returned (.bool (ckB 50 zs)) ∧ w = w' := by
  have hm := hr.max
  unfold maxLen at hm
  obtain ⟨a, cap, hv⟩ := hr.len
  have HR := Lib.hid hr
  clear hr
  subst hv
  by_cases h : (zs.length : Int) ≤ 50
  · have hf : Hid (ckB 50 zs = allIn zs 1 61) := Lib.hid (by simp [ckB]; intro _; omega)
    go_enter Tryd.func21, Tryd.ntmps21
    go_wp2_with (first
      | (go_at_call 30; refine (areWithin_any _ zs 1 61 _ HR.out).mono ?_; rintro e w' ⟨rfl, rfl⟩))
    go_ret
    exact ⟨ret_bool hf.out.symm, rfl⟩
  · have hf : Hid (ckB 50 zs = false) := Lib.hid (by simp [ckB]; intro h1; exfalso; omega)
    go_enter Tryd.func21, Tryd.ntmps21
    go_wp2
    go_ret
    exact ⟨ret_bool hf.out.symm, rfl⟩
theorem ckWord_any (v : Value) (zs : List Int) (m : Nat) (w : World) (hr : Rd w v zs) :
    Calls Tryd.prog 17 #[v, .int .i64 m] w fun e w' => e = .returned (.bool (ckB m zs)) ∧ w = w' := by
  have hm := hr.max
  unfold maxLen at hm
  obtain ⟨a, cap, hv⟩ := hr.len
  have HR := Lib.hid hr
  clear hr
  subst hv
  by_cases h : (zs.length : Int) ≤ (m : Int)
  · have hf : Hid (ckB m zs = allIn zs 1 61) := Lib.hid (by simp [ckB]; intro _; omega)
    go_enter Tryd.func17, Tryd.ntmps17
    go_wp2_with (first
      | (go_at_call 29; refine (l1All_any _ zs 1 61 _ HR.out).mono ?_; rintro e w' ⟨rfl, rfl⟩))
    go_ret
    exact ⟨ret_bool hf.out.symm, rfl⟩
  · have hf : Hid (ckB m zs = false) := Lib.hid (by simp [ckB]; intro h1; exfalso; omega)
    go_enter Tryd.func17, Tryd.ntmps17
    go_wp2
    go_ret
    exact ⟨ret_bool hf.out.symm, rfl⟩
theorem syndromes_any (v : Value) (zs : List Int) (w : World) (hr : Rd w v zs) (hw : ckB 50 zs = true) :
    Calls Tryd.prog 24 #[v] w fun e w' => e = .returned (.tuple #[.int .i64 (sA zs), .int .i64 (sB zs)]) ∧ w = w' := by
  obtain ⟨a, cap, hv⟩ := hr.len
  have hl := ckB_len hw
  unfold sA sB
  obtain ⟨n, hn⟩ : ∃ n, n = zs.length := ⟨_, rfl⟩
  rw [← hn] at hv hl ⊢
  have HN := Lib.hid hn
  have HR := Lib.hid hr
  have HW := Lib.hid hw
  clear hr hn hw
  subst hv
  go_enter Tryd.func24, Tryd.ntmps24
  go_wp2
  go_loop [4, 5, 10] (fun s t i => ∃ k : Nat, k ≤ n ∧ i = .int .i64 k ∧ s = .int .i64 (smT zs k) ∧ t = .int .i64 (wtT zs k)) (fun s t i => n - (intOf i).toNat)
  case atStart => exact ⟨0, Nat.zero_le _, rfl, rfl, rfl⟩
  case round =>
    obtain ⟨k, hk, rfl, rfl, rfl⟩ := hrel
    have b1 := smT_bd HW.out k (by have := HN.out; omega)
    have b2 := wtT_bd HW.out k (by have := HN.out; omega)
    by_cases hlt : k < n
    · obtain ⟨g1, o1, e1, hg1, p1⟩ := HR.out.at_ HN.out k hlt
      subst e1
      have c1 := ckB_get HW.out k (by rw [← HN.out]; exact hlt)
      have hs1 : Hid (smT zs (k + 1) = smT zs k + nth zs k) := Lib.hid rfl
      have hs2 : Hid (wtT zs (k + 1) = wtT zs k + ((k : Int) + 1) * nth zs k) := Lib.hid rfl
      have hx : zs[k]?.getD 0 = nth zs k := rfl
      rw [hx] at p1
      clear hx
      obtain ⟨x, hx⟩ : ∃ x, x = nth zs k := ⟨_, rfl⟩
      rw [← hx] at p1 c1 hs1 hs2
      clear hx
      have d := mul_bd (a := (k : Int) + 1) (A := 50) (by omega) (by omega) (show 0 ≤ x by omega) c1.2
      go_wp2
      go_round
      case rel => exact ⟨k + 1, by omega, by go_num, by rw [hs1.out], by rw [hs2.out]⟩
      case measure => simp [intOf]; omega
    · have : k = n := by omega
      subst this
      go_wp2
      go_ret2
      exact ⟨rfl, rfl⟩
theorem ckSum_any (v : Value) (zs : List Int) (w : World) (hr : Rd w v zs) (hw : ckB 50 zs = true) :
    Calls Tryd.prog 18 #[v] w fun e w' => e = .returned (.tuple #[.int .i64 (sA zs), .int .i64 (sB zs)]) ∧ w = w' := by
  obtain ⟨a, cap, hv⟩ := hr.len
  have hl := ckB_len hw
  unfold sA sB
  obtain ⟨n, hn⟩ : ∃ n, n = zs.length := ⟨_, rfl⟩
  rw [← hn] at hv hl ⊢
  have HN := Lib.hid hn
  have HR := Lib.hid hr
  have HW := Lib.hid hw
  clear hr hn hw
  subst hv
  go_enter Tryd.func18, Tryd.ntmps18
  go_wp2
  go_loop [4, 5, 10] (fun s t i => ∃ k : Nat, k ≤ n ∧ i = .int .i64 k ∧ s = .int .i64 (smT zs k) ∧ t = .int .i64 (wtT zs k)) (fun s t i => n - (intOf i).toNat)
  case atStart => exact ⟨0, Nat.zero_le _, rfl, rfl, rfl⟩
  case round =>
    obtain ⟨k, hk, rfl, rfl, rfl⟩ := hrel
    have b1 := smT_bd HW.out k (by have := HN.out; omega)
    have b2 := wtT_bd HW.out k (by have := HN.out; omega)
    by_cases hlt : k < n
    · obtain ⟨g1, o1, e1, hg1, p1⟩ := HR.out.at_ HN.out k hlt
      subst e1
      have c1 := ckB_get HW.out k (by rw [← HN.out]; exact hlt)
      have hs1 : Hid (smT zs (k + 1) = smT zs k + nth zs k) := Lib.hid rfl
      have hs2 : Hid (wtT zs (k + 1) = wtT zs k + ((k : Int) + 1) * nth zs k) := Lib.hid rfl
      have hx : zs[k]?.getD 0 = nth zs k := rfl
      rw [hx] at p1
      clear hx
      obtain ⟨x, hx⟩ : ∃ x, x = nth zs k := ⟨_, rfl⟩
      rw [← hx] at p1 c1 hs1 hs2
      clear hx
      have d := mul_bd (a := (k : Int) + 1) (A := 50) (by omega) (by omega) (show 0 ≤ x by omega) c1.2
      go_wp2
      go_round
      case rel => exact ⟨k + 1, by omega, by go_num, by rw [hs1.out], by rw [hs2.out]⟩
      case measure => simp [intOf]; omega
    · have : k = n := by omega
      subst this
      go_wp2
      go_ret2
      exact ⟨rfl, rfl⟩
theorem tm61 (n : Int) : -61 < n.tmod 61 ∧ n.tmod 61 < 61 ∧ n.tmod 61 % 61 = n % 61 := by
  rcases Int.lt_or_le n 0 with h | h
  · have e : n.tmod 61 = -((-n) % 61) := by
      have h1 : (-n).tmod 61 = (-n) % 61 := Int.tmod_eq_emod_of_nonneg (by omega)
      rw [Int.neg_tmod] at h1
      omega
    rw [e]; omega
  · rw [Int.tmod_eq_emod_of_nonneg h]; omega
theorem signalOf_any (n : Int) (w : World) : Calls Tryd.prog 26 #[.int .i64 n] w fun e w' => e = .returned (.int .i64 (sgn n)) ∧ w = w' := by
  obtain ⟨t0, t1, t2⟩ := tm61 n
  have T2 := Lib.hid t2
  clear t2
  by_cases h : n.tmod 61 ≤ 0
  · go_enter Tryd.func26, Tryd.ntmps26
    go_wp2
    go_ret
    exact ⟨ret_int (by have := T2.out; unfold sgn; split <;> omega), rfl⟩
  · go_enter Tryd.func26, Tryd.ntmps26
    go_wp2
    go_ret
    exact ⟨ret_int (by have := T2.out; unfold sgn; split <;> omega), rfl⟩
theorem ckSign_any (n : Int) (w : World) : Calls Tryd.prog 20 #[.int .i64 n] w fun e w' => e = .returned (.int .i64 (sgn n)) ∧ w = w' := by
  obtain ⟨t0, t1, t2⟩ := tm61 n
  have T2 := Lib.hid t2
  have hr : (n.tmod 61 + 61).tmod 61 = (n.tmod 61 + 61) % 61 := Int.tmod_eq_emod_of_nonneg (by omega)
  have hwr : wrap64 (n.tmod 61 + 61) = n.tmod 61 + 61 := IntWalk.wrap64_in _ (by omega)
  clear t2
  by_cases h : (n.tmod 61 + 61) % 61 = 0
  · have hz : ((n.tmod 61 + 61) % 61 == 0) = true := by simpa using h
    clear h
    go_enter Tryd.func20, Tryd.ntmps20
    go_wp2
    go_ret
    have h := eq_of_beq hz
    exact ⟨ret_int (by have := T2.out; unfold sgn; split <;> omega), rfl⟩
  · have hz : ((n.tmod 61 + 61) % 61 == 0) = false := by simpa using h
    clear h
    go_enter Tryd.func20, Tryd.ntmps20
    go_wp2
    go_ret
    have h := ne_of_beq_false hz
    exact ⟨ret_int (by have := T2.out; unfold sgn; split <;> omega), rfl⟩
end Go.Proofs.YtnkcmadjeofedaaDoor
