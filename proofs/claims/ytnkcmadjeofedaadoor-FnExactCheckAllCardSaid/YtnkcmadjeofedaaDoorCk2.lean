/- Chapter 5: the functions that answer with integers and bools alone. Written by a generator of this claim's author. -/
import Derived.Test.YtnkcmadjeofedaaDoorCk1
namespace Go.Proofs.YtnkcmadjeofedaaDoor
open Go.RowKit
set_option linter.unusedSimpArgs false
set_option linter.unusedVariables false

theorem ret2 {a b : Int} {c d : Bool} (h : a = b) (h' : c = d) : Ending.returned (.tuple #[.int .i64 a, .bool c]) = .returned (.tuple #[.int .i64 b, .bool d]) := by rw [h, h']
theorem ret2b {a b : Bool} {c d : Bool} (h : a = b) (h' : c = d) : Ending.returned (.tuple #[.bool a, .bool c]) = .returned (.tuple #[.bool b, .bool d]) := by rw [h, h']
theorem ret3 {a b a' b' : Int} {c d : Bool} (h : a = b) (h1 : a' = b') (h' : c = d) : Ending.returned (.tuple #[.int .i64 a, .int .i64 a', .bool c]) = .returned (.tuple #[.int .i64 b, .int .i64 b', .bool d]) := by rw [h, h1, h']
theorem pair_bd {zs : List Int} (hw : ckB 50 zs = true) : 0 ≤ ((zs.length : Int) + 1) * sA zs ∧ ((zs.length : Int) + 1) * sA zs ≤ 3060 := by
  have a := sA_bd zs
  have l := ckB_len hw
  have := mul_bd (a := (zs.length : Int) + 1) (A := 51) (by omega) (by omega) a.1 a.2
  omega
theorem holds_i (v : Value) (zs : List Int) (w : World) (hr : Rd w v zs) (hw : ckB 50 zs = true) :
    Calls Tryd.prog 23 #[v] w fun e w' => e = .returned (.bool (hldB zs)) ∧ w = w' := by
  have hm := hr.max
  unfold maxLen at hm
  obtain ⟨a, cap, hv⟩ := hr.len
  have HR := Lib.hid hr
  clear hr
  subst hv
  by_cases h : sA zs = 0
  · have hq : (sA zs == 0) = true := by simpa using h
    have hf : Hid (hldB zs = (sB zs == 0)) := Lib.hid (by simp [hldB, hq])
    clear h
    go_enter Tryd.func23, Tryd.ntmps23
    go_wp2_with (first
      | (go_at_call 24; refine (syndromes_any _ zs _ HR.out hw).mono ?_; rintro e w' ⟨rfl, rfl⟩))
    go_ret
    exact ⟨ret_bool hf.out.symm, rfl⟩
  · have hq : (sA zs == 0) = false := by simpa using h
    have hf : Hid (hldB zs = false) := Lib.hid (by simp [hldB, hq])
    clear h
    go_enter Tryd.func23, Tryd.ntmps23
    go_wp2_with (first
      | (go_at_call 24; refine (syndromes_any _ zs _ HR.out hw).mono ?_; rintro e w' ⟨rfl, rfl⟩))
    go_ret
    exact ⟨ret_bool hf.out.symm, rfl⟩
theorem holds_s (v : Value) (zs : List Int) (w : World) (hr : Rd w v zs) (hw : ckB 50 zs = true) :
    Calls Tryd.prog 28 #[v] w fun e w' => e = .returned (.bool (hldB zs)) ∧ w = w' := by
  have hm := hr.max
  unfold maxLen at hm
  obtain ⟨a, cap, hv⟩ := hr.len
  have HR := Lib.hid hr
  clear hr
  subst hv
  by_cases h : sA zs = 0
  · have hq : (sA zs == 0) = true := by simpa using h
    have hf : Hid (hldB zs = (sB zs == 0)) := Lib.hid (by simp [hldB, hq])
    clear h
    go_enter Tryd.func28, Tryd.ntmps28
    go_wp2_with (first
      | (go_at_call 18; refine (ckSum_any _ zs _ HR.out hw).mono ?_; rintro e w' ⟨rfl, rfl⟩))
    go_ret
    exact ⟨ret_bool hf.out.symm, rfl⟩
  · have hq : (sA zs == 0) = false := by simpa using h
    have hf : Hid (hldB zs = false) := Lib.hid (by simp [hldB, hq])
    clear h
    go_enter Tryd.func28, Tryd.ntmps28
    go_wp2_with (first
      | (go_at_call 18; refine (ckSum_any _ zs _ HR.out hw).mono ?_; rintro e w' ⟨rfl, rfl⟩))
    go_ret
    exact ⟨ret_bool hf.out.symm, rfl⟩
def hasB2 (zs : List Int) (k : Int) : Bool := ckB 50 zs && inB k 0 ((zs.length : Int) - 1)
theorem hasB2_yes {zs : List Int} {k : Int} (h : hasB2 zs k = true) : ckB 50 zs = true ∧ 0 ≤ k ∧ k < zs.length := by
  simp only [hasB2, Bool.and_eq_true] at h
  have := inB_iff.1 h.2
  exact ⟨h.1, this.1, by omega⟩
end Go.Proofs.YtnkcmadjeofedaaDoor
