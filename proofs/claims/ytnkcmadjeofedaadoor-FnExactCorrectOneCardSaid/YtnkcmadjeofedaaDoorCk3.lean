/- Chapter 5: copies; slices.Grow, slices.Concat at integers; a number put into an increasing list. -/
import Derived.Test.YtnkcmadjeofedaaDoorCk2
import Derived.Test.YtnkcmadjeofedaaDoorIv
import Derived.Test.YtnkcmadjeofedaaDoorShelf
import Derived.Lib.AppendZerosOnto
import Derived.Lib.AppendZeros
import Derived.Lib.SliceRun
import Derived.Maps.AppendAt
namespace Go.Proofs.YtnkcmadjeofedaaDoor
open Go.RowKit
set_option linter.unusedSimpArgs false
set_option linter.unusedVariables false

theorem l1Own_any (v : Value) (zs : List Int) (w : World) (hz : zs.length ≤ 1099511627776) (hr : Rd w v zs) :
    Calls Tryd.prog 19 #[v] w fun e w' => ∃ v', e = .returned v' ∧ Own w' w.heap.size v' zs ∧ Below w.heap.size w w' := by
  have he := Own.empty w w.heap.size (Nat.le_refl _)
  have hb := (Below.refl w.heap.size w).alloc (Nat.le_refl _) (.cells #[] 3)
  have hr1 := hr.later hb
  obtain ⟨a, cap, hv⟩ := hr.len
  subst hv
  have HR := Lib.hid hr1
  have HE := Lib.hid he
  clear hr hr1 he
  go_enter Tryd.func19, Tryd.ntmps19
  go_wp2_with (at_builtin; refine append_ints rfl _ _ rfl w.heap.size _ [] zs _ rfl rfl HE.out HR.out (by simpa using hz) (by simp) ?_; intro v' w1 hown1 hgrow1)
  go_ret
  exact ⟨_, rfl, by simpa using hown1, hb.grown hgrow1 (by simp) (fun k hk => (HE.out.lt k hk).1)⟩

theorem clone_any (v : Value) (zs : List Int) (w : World) (hz : zs.length ≤ 1099511627776) (hr : Rd w v zs) :
    Calls Tryd.prog 22 #[v] w fun e w' => ∃ v', e = .returned v' ∧ Own w' w.heap.size v' zs ∧ Below w.heap.size w w' := by
  rcases hr with ⟨rfl, ad, cap, rfl, hn⟩ | ⟨g, off, cap, rfl, hg, hm, hc⟩
  · cases ad with
    | none =>
      refine (Tryd.slices_Clone_int_nil 0 cap w).mono ?_
      rintro e w' ⟨rfl, rfl⟩
      exact ⟨_, rfl, Own.nil _ _, Below.refl _ _⟩
    | some ad =>
      refine (Tryd.slices_Clone_int_zero ad cap w).mono ?_
      rintro e w' ⟨v', rfl, ho, -, hb⟩
      exact ⟨_, rfl, ho, hb⟩
  · refine (Tryd.slices_Clone_int g off zs.length cap zs w (Nat.le_refl _) (by omega) (fun j hj => by rw [hc j hj, List.getD_eq_getElem?_getD])).mono ?_
    rintro e w' ⟨v', rfl, ho, -, hb⟩
    rw [List.take_length] at ho
    exact ⟨_, rfl, ho, hb⟩

theorem RdC.take {w : World} {a : Option Addr} {n cap : Nat} {zs : List Int} (h : RdC w (.slice a n cap) zs) (k : Nat) (hk : k ≤ n) : RdC w (.slice a k cap) (zs.take k) := by
  obtain ⟨h, a', cap', hv, hc⟩ := h
  simp only [Value.slice.injEq] at hv
  obtain ⟨rfl, rfl, rfl⟩ := hv
  have hlen : (zs.take k).length = k := by simp; omega
  refine ⟨?_, a, cap, by rw [hlen], by omega⟩
  rcases h with ⟨rfl, a', cap', hv, hn⟩ | ⟨g, off, cap', hv, hg, hm, hcell⟩
  · obtain rfl : k = 0 := by simpa using hk
    simp only [Value.slice.injEq] at hv
    obtain ⟨rfl, -, rfl⟩ := hv
    exact .inl ⟨by simp, _, _, rfl, hn⟩
  · simp only [Value.slice.injEq] at hv
    obtain ⟨rfl, -, rfl⟩ := hv
    refine .inr ⟨g, off, cap, by rw [hlen], hg, by omega, fun i hi => ?_⟩
    rw [hlen] at hi
    rw [List.getElem?_take, if_pos hi]
    exact hcell i (by omega)
theorem RdC.drop {w : World} {g off n cap : Nat} {zs : List Int} (h : RdC w (.slice (some ⟨g, off, none⟩) n cap) zs) (k : Nat) (hk : k < n) : RdC w (.slice (some ⟨g, off + k, none⟩) (n - k) (cap - k)) (zs.drop k) := by
  obtain ⟨h, a', cap', hv, hc⟩ := h
  simp only [Value.slice.injEq] at hv
  obtain ⟨rfl, rfl, rfl⟩ := hv
  have hlen : (zs.drop k).length = zs.length - k := by simp
  refine ⟨?_, _, cap - k, by rw [hlen], by omega⟩
  rcases h with ⟨rfl, -⟩ | ⟨g', off', cap', hv, hg, hm, hcell⟩
  · simp at hk
  · simp only [Value.slice.injEq, Option.some.injEq, Addr.mk.injEq, and_true] at hv
    obtain ⟨⟨rfl, rfl⟩, -, rfl⟩ := hv
    refine .inr ⟨g, off + k, cap - k, by rw [hlen], hg, by omega, fun i hi => ?_⟩
    rw [hlen] at hi
    rw [List.getElem?_drop, Nat.add_assoc]
    exact hcell (k + i) (by omega)
theorem RdC.nil (w : World) : RdC w (.slice none 0 0) [] := ⟨.inl ⟨rfl, _, _, rfl, fun _ => rfl⟩, _, _, rfl, Nat.le_refl _⟩
theorem RdC.drewN {w : World} {v : Value} {zs : List Int} (h : RdC w v zs) (n : Nat) : RdC (w.drewN n) v zs := h.later (below_drewN (Below.refl _ _) n)
theorem RdC.some_ {w : World} {a : Option Addr} {n cap : Nat} {zs : List Int} (h : RdC w (.slice a n cap) zs) (hn : 0 < n) : ∃ g off, a = some ⟨g, off, none⟩ := by
  obtain ⟨h, a', cap', hv, hc⟩ := h
  simp only [Value.slice.injEq] at hv
  obtain ⟨rfl, rfl, rfl⟩ := hv
  rcases h with ⟨rfl, -⟩ | ⟨g', off', cap', hv, -⟩
  · simp at hn
  · simp only [Value.slice.injEq] at hv
    exact ⟨_, _, hv.1⟩
theorem RdC.drop2 {w : World} {g off n cap k : Nat} {zs : List Int} (h : RdC w (.slice (some ⟨g, off, none⟩) n cap) zs) (hk : k ≤ n) (hc : ¬ cap = k) : RdC w (.slice (some ⟨g, off + k, none⟩) (n - k) (cap - k)) (zs.drop k) := by
  by_cases e : k < n
  · exact h.drop k e
  · obtain rfl : k = n := by omega
    obtain ⟨h1, a', cap', hv, hc'⟩ := h
    simp only [Value.slice.injEq] at hv
    have hz : zs.drop k = [] := List.drop_of_length_le (by omega)
    rw [hz, Nat.sub_self]
    exact ⟨.inl ⟨rfl, _, _, rfl, fun h => by cases h⟩, _, _, rfl, Nat.zero_le _⟩

def catI (zss : Nat → List Int) (k : Nat) : List Int := (List.range k).flatMap zss
theorem catI_succ (zss : Nat → List Int) (k : Nat) : catI zss (k + 1) = catI zss k ++ zss k := by simp [catI, List.range_succ]
theorem catI_len {zss : Nat → List Int} {m k : Nat} (hk : k ≤ m) (h : ∀ j, j < m → (zss j).length ≤ 1000) : (catI zss k).length ≤ k * 1000 := by
  induction k with
  | zero => simp [catI]
  | succ k ih =>
    rw [catI_succ, List.length_append]
    have := h k (by omega)
    have := ih (by omega)
    omega

/-! ### A number put into an increasing list -/
def putK (zs : List Int) (n : Int) : Nat := zs.findIdx fun x => !decide (x < n)
theorem putK_le (zs : List Int) (n : Int) : putK zs n ≤ zs.length := List.findIdx_le_length
theorem putK_eq {zs : List Int} {n : Int} {k : Nat} (hk : k ≤ zs.length) (h : ∀ j, j < k → nth zs j < n) (h' : k < zs.length → ¬ nth zs k < n) : putK zs n = k := by
  unfold putK
  by_cases hlt : k < zs.length
  · rw [List.findIdx_eq hlt]
    refine ⟨by have := h' hlt; simpa [nth, hlt] using this, fun j hj => ?_⟩
    have := h j hj
    have hjl : j < zs.length := by omega
    simpa [nth, hjl] using this
  · obtain rfl : k = zs.length := by omega
    rw [List.findIdx_eq_length]
    intro x hx
    obtain ⟨i, hi, rfl⟩ := List.getElem_of_mem hx
    have := h i hi
    simpa [nth, hi] using this
def putB (zs : List Int) (n : Int) : Bool := decide (putK zs n < zs.length) && nth zs (putK zs n) == n
def putN (zs : List Int) (n : Int) : List Int := zs.take (putK zs n) ++ [n] ++ zs.drop (putK zs n)
def putL (zs : List Int) (n : Int) : List Int := if putB zs n then zs else putN zs n
theorem putL_has {zs : List Int} {n : Int} (h : putB zs n = true) : putL zs n = zs := by simp [putL, h]
theorem putL_not {zs : List Int} {n : Int} (h : putB zs n = false) : putL zs n = putN zs n := by simp [putL, h]
theorem putL_len (zs : List Int) (n : Int) : (putL zs n).length ≤ zs.length + 1 := by
  unfold putL putN
  split
  · omega
  · have := putK_le zs n
    simp; omega

theorem rd_nil (w : World) : Rd w (.slice none 0 0) [] := .inl ⟨rfl, none, 0, rfl, fun _ => rfl⟩
end Go.Proofs.YtnkcmadjeofedaaDoor
