/- Texts read by the model: a number, the pieces of a text. -/
import Derived.Test.YtkmdionldaejjaaDoorTx3
namespace Go.Proofs.YtkmdionldaejjaaDoor
open Go.RowKit
set_option linter.unusedSimpArgs false
set_option linter.unusedVariables false

theorem byt_len (s : ByteArray) : s.data.toList.length = s.size := by simp
theorem byt_at (s : ByteArray) (k : Nat) (h : k < s.size) : s.data.toList[k]'(by simpa using h) = s[k] := by simp [ByteArray.getElem_eq_getElem_data]
theorem byt_take (s : ByteArray) (k : Nat) (h : k < s.size) : s.data.toList.take (k + 1) = s.data.toList.take k ++ [s[k]] := by
  rw [List.take_succ_eq_append_getElem (by simpa using h), byt_at s k h]
theorem rd6_bad {s : ByteArray} {k : Nat} (hk : k < s.size) (h : (s[k].toNat : Int) < 48 ∨ 57 < (s[k].toNat : Int)) : rd6 s.data.toList = -1 := by
  apply rd6_no
  have : s.data.toList.all isDg = false := by
    rw [List.all_eq_false]
    refine ⟨s[k], by rw [← byt_at s k hk]; exact List.getElem_mem _, ?_⟩
    intro h2
    have := isDg_iff.1 h2
    omega
  simp [rd6B, this]
theorem rd6_good {s : ByteArray} (h1 : 1 ≤ s.size) (h6 : s.size ≤ 6) (h48 : (s.data.toList.head? == some 48 && decide (1 < s.size)) = false) (hd : ∀ j, (hj : j < s.size) → 48 ≤ (s[j].toNat : Int) ∧ (s[j].toNat : Int) ≤ 57) : rd6 s.data.toList = valF 0 s.data.toList := by
  apply rd6_yes
  have ha : s.data.toList.all isDg = true := by
    rw [List.all_eq_true]
    intro x hx
    obtain ⟨i, hi, rfl⟩ := List.getElem_of_mem hx
    have hi' : i < s.size := by simpa using hi
    rw [byt_at s i hi']
    have := hd i hi'
    exact isDg_iff.2 (by omega)
  simp only [rd6B, byt_len, ha, h48, Bool.and_eq_true, decide_eq_true_eq, Bool.not_false]
  exact ⟨⟨⟨h1, h6⟩, trivial⟩, trivial⟩

set_option maxRecDepth 100000 in
set_option maxHeartbeats 800000 in
theorem l1Read_any (s : ByteArray) (w : World) (hs : s.size ≤ 1099511627776) :
    Calls Tryd.prog 39 #[.string s] w fun e w' => e = .returned (.int .i64 (rd6 s.data.toList)) ∧ w = w' := by
  by_cases hin : 1 ≤ s.size ∧ s.size ≤ 6
  · obtain ⟨h1, h6⟩ := hin
    have hib : inB (s.size : Int) 1 6 = true := inB_yes (by omega) (by omega)
    have h0 : 0 < s.size := h1
    have hhd : s.data.toList.head? = some s[0] := by
      rw [← byt_at s 0 h0, List.head?_eq_getElem?]; exact List.getElem?_eq_getElem _
    have hcase : (((s[0].toNat : Int) == 48) = true ∧ 1 < s.size) ∨ ((s.data.toList.head? == some 48 && decide (1 < s.size)) = false ∧ ((((s[0].toNat : Int) == 48) = true ∧ s.size = 1) ∨ ((s[0].toNat : Int) == 48) = false)) := by
      cases hz : ((s[0].toNat : Int) == 48) with
      | true =>
        by_cases h2 : 1 < s.size
        · exact .inl ⟨rfl, h2⟩
        · exact .inr ⟨by simp; intro _; omega, .inl ⟨rfl, by omega⟩⟩
      | false =>
        refine .inr ⟨?_, .inr rfl⟩
        rw [hhd]
        have hne : ¬ s[0] = 48 := fun e => by
          rw [e] at hz
          have : ((48 : UInt8).toNat : Int) = 48 := rfl
          simp at hz
        simp [hne]
    rcases hcase with ⟨hz, h2⟩ | ⟨h48, hz⟩
    · have hf : Hid (rd6 s.data.toList = -1) := Lib.hid (by
        apply rd6_no
        have e : s[0] = 48 := by
          apply UInt8.toNat_inj.1
          have := eq_of_beq hz
          have e2 : (48 : UInt8).toNat = 48 := rfl
          omega
        have h3 : (s.data.toList.head? == some 48 && decide (1 < s.data.toList.length)) = true := by rw [hhd, e, byt_len]; simp [h2]
        simp only [rd6B, h3, Bool.not_true, Bool.and_false, Bool.false_and])
      have h2' : (1 : Int) < (s.size : Int) := by omega
      clear hhd
      go_enter Tryd.func39, Tryd.ntmps39
      go_wp2_with (go_at_call 55; refine (l1In_any _ _ _ _).mono ?_; rintro e w' ⟨rfl, rfl⟩)
      go_ret
      exact ⟨ret_int hf.out.symm, rfl⟩
    · have GOOD := Lib.hid (rd6_good h1 h6 h48)
      have BAD : Hid (∀ k (hk : k < s.size), ((s[k].toNat : Int) < 48 ∨ 57 < (s[k].toNat : Int)) → rd6 s.data.toList = -1) := Lib.hid fun k hk h => rd6_bad hk h
      have STEP : Hid (∀ k (hk : k < s.size), valF 0 (s.data.toList.take (k + 1)) = valF 0 (s.data.toList.take k) * 10 + dgV s[k]) := Lib.hid fun k hk => by rw [byt_take s k hk, valF_snoc]
      have BND : Hid (∀ k, k ≤ s.size → (∀ j, (hj : j < s.size) → j < k → 48 ≤ (s[j].toNat : Int) ∧ (s[j].toNat : Int) ≤ 57) → valF 0 (s.data.toList.take k) < 1000000) := Lib.hid fun k hk hd => by
        have h := val_lt (s.data.toList.take k) (fun c hc => by
          obtain ⟨i, hi, rfl⟩ := List.getElem_of_mem hc
          have hi2 : i < k ∧ i < s.size := by simp at hi; omega
          rw [List.getElem_take, byt_at s i hi2.2]
          have := hd i hi2.2 hi2.1
          exact isDg_iff.2 (by omega)) 0
        have hl : (s.data.toList.take k).length ≤ 6 := by simp; omega
        have h2 : 10 ^ (s.data.toList.take k).length ≤ 10 ^ 6 := Nat.pow_le_pow_right (by decide) hl
        have h3 : (10 : Nat) ^ 6 = 1000000 := by decide
        have h4 : (0 + 1) * 10 ^ (s.data.toList.take k).length = 10 ^ (s.data.toList.take k).length := by omega
        omega
      have ALL : Hid (s.data.toList.take s.size = s.data.toList) := Lib.hid (by rw [← byt_len, List.take_length])
      clear hhd h48
      rcases hz with ⟨hz, hs1⟩ | hz
      all_goals
        first | (have hlt1 : ¬ (1 : Int) < (s.size : Int) := by omega) | skip
        clear hs
        go_enter Tryd.func39, Tryd.ntmps39
        go_wp2_with (go_at_call 55; refine (l1In_any _ _ _ _).mono ?_; rintro e w' ⟨rfl, rfl⟩)
        go_loop [3, 4] (fun t i => ∃ k : Nat, k ≤ s.size ∧ i = .int .i64 k ∧ t = .int .i64 (valF 0 (s.data.toList.take k) : Nat) ∧ Hid (∀ j, (hj : j < s.size) → j < k → 48 ≤ (s[j].toNat : Int) ∧ (s[j].toNat : Int) ≤ 57)) (fun t i => s.size - (intOf i).toNat)
        case atStart => exact ⟨0, Nat.zero_le _, rfl, rfl, Lib.hid fun j _ hj => by omega⟩
        case round =>
          obtain ⟨k, hk, rfl, rfl, hall⟩ := hrel
          by_cases hlt : k < s.size
          · have hv := BND.out k hk hall.out
            by_cases hg : 48 ≤ (s[k].toNat : Int) ∧ (s[k].toNat : Int) ≤ 57
            · obtain ⟨g0, g1⟩ := hg
              have hall' : Hid (∀ j, (hj : j < s.size) → j < k + 1 → 48 ≤ (s[j].toNat : Int) ∧ (s[j].toNat : Int) ≤ 57) := Lib.hid fun j hj hjk => by
                by_cases e : j = k
                · subst e; exact ⟨g0, g1⟩
                · exact hall.out j hj (by omega)
              have hst : Hid ((valF 0 (s.data.toList.take (k + 1)) : Int) = 10 * (valF 0 (s.data.toList.take k) : Int) + ((s[k].toNat : Int) - 48)) := Lib.hid (by
                rw [STEP.out k hlt]
                have : dgV s[k] = s[k].toNat - 48 := rfl
                omega)
              generalize valF 0 (s.data.toList.take k) = V at *
              go_wp2
              go_round
              case rel => exact ⟨k + 1, by omega, by go_num, by rw [hst.out], hall'⟩
              case measure => simp [intOf]; omega
            · have hf := Lib.hid (BAD.out k hlt (by omega))
              by_cases hb : (s[k].toNat : Int) < 48
              · clear hg
                go_wp2
                go_ret
                exact ⟨ret_int hf.out.symm, rfl⟩
              · have hb2 : 57 < (s[k].toNat : Int) := by omega
                clear hg
                go_wp2
                go_ret
                exact ⟨ret_int hf.out.symm, rfl⟩
          · obtain rfl : k = s.size := by omega
            have hf : Hid (rd6 s.data.toList = (valF 0 (s.data.toList.take s.size) : Nat)) := Lib.hid (by rw [GOOD.out fun j hj => hall.out j hj hj, ALL.out])
            go_wp2
            go_ret
            first | exact ⟨ret_int hf.out.symm, rfl⟩ | exact ⟨ret_int (by rw [hf.out, hs1]), rfl⟩
  · have hib : inB (s.size : Int) 1 6 = false := inB_no (by omega)
    have hf : Hid (rd6 s.data.toList = -1) := Lib.hid (by
      apply rd6_no
      have : (decide (1 ≤ s.data.toList.length) && decide (s.data.toList.length ≤ 6)) = false := by rw [byt_len]; simp; omega
      simp only [rd6B, this, Bool.false_and])
    clear hin
    go_enter Tryd.func39, Tryd.ntmps39
    go_wp2_with (go_at_call 55; refine (l1In_any _ _ _ _).mono ?_; rintro e w' ⟨rfl, rfl⟩)
    go_ret
    exact ⟨ret_int hf.out.symm, rfl⟩
end Go.Proofs.YtkmdionldaejjaaDoor
