/- Lists of integers read from the side; a number put into an increasing list. -/
import Derived.Test.YtpmdjdlojbpcfaaStV
import Derived.Lib.SliceRun
import Derived.Maps.AppendAt
namespace Go.Proofs.Ytpmdjdlojbpcfaa
open Go.RowKit
set_option linter.unusedSimpArgs false
set_option linter.unusedVariables false

theorem RdC.take {w : World} {a : Option Addr} {n cap : Nat} {zs : List Int} (h : RdC w (.slice a n cap) zs) (k : Nat) (hk : k ≤ n) : RdC w (.slice a k cap) (zs.take k) := by
  obtain ⟨h, a', cap', hv, hc⟩ := h
  simp only [Value.slice.injEq] at hv
  obtain ⟨rfl, rfl, rfl⟩ := hv
  have hlen : (zs.take k).length = k := by simp; omega
  refine ⟨?_, a, cap, by rw [hlen], by omega⟩
  rcases h with ⟨rfl, a', cap', hv, hn⟩ | ⟨g, off, cap', hv, hg, hm, hcell⟩
  · obtain rfl : k = 0 := by simpa using hk
    simp only [Value.slice.injEq] at hv
    obtain ⟨rfl, -, rfl⟩ := hv
    exact .inl ⟨by simp, _, _, rfl, hn⟩
  · simp only [Value.slice.injEq] at hv
    obtain ⟨rfl, -, rfl⟩ := hv
    refine .inr ⟨g, off, cap, by rw [hlen], hg, by omega, fun i hi => ?_⟩
    rw [hlen] at hi
    rw [List.getElem?_take, if_pos hi]
    exact hcell i (by omega)
theorem RdC.drop {w : World} {g off n cap : Nat} {zs : List Int} (h : RdC w (.slice (some ⟨g, off, none⟩) n cap) zs) (k : Nat) (hk : k < n) : RdC w (.slice (some ⟨g, off + k, none⟩) (n - k) (cap - k)) (zs.drop k) := by
  obtain ⟨h, a', cap', hv, hc⟩ := h
  simp only [Value.slice.injEq] at hv
  obtain ⟨rfl, rfl, rfl⟩ := hv
  have hlen : (zs.drop k).length = zs.length - k := by simp
  refine ⟨?_, _, cap - k, by rw [hlen], by omega⟩
  rcases h with ⟨rfl, -⟩ | ⟨g', off', cap', hv, hg, hm, hcell⟩
  · simp at hk
  · simp only [Value.slice.injEq, Option.some.injEq, Addr.mk.injEq, and_true] at hv
    obtain ⟨⟨rfl, rfl⟩, -, rfl⟩ := hv
    refine .inr ⟨g, off + k, cap - k, by rw [hlen], hg, by omega, fun i hi => ?_⟩
    rw [hlen] at hi
    rw [List.getElem?_drop, Nat.add_assoc]
    exact hcell (k + i) (by omega)
theorem RdC.nil (w : World) : RdC w (.slice none 0 0) [] := ⟨.inl ⟨rfl, _, _, rfl, fun _ => rfl⟩, _, _, rfl, Nat.le_refl _⟩
theorem RdC.drewN {w : World} {v : Value} {zs : List Int} (h : RdC w v zs) (n : Nat) : RdC (w.drewN n) v zs := h.later (below_drewN (Below.refl _ _) n)
theorem RdC.some_ {w : World} {a : Option Addr} {n cap : Nat} {zs : List Int} (h : RdC w (.slice a n cap) zs) (hn : 0 < n) : ∃ g off, a = some ⟨g, off, none⟩ := by
  obtain ⟨h, a', cap', hv, hc⟩ := h
  simp only [Value.slice.injEq] at hv
  obtain ⟨rfl, rfl, rfl⟩ := hv
  rcases h with ⟨rfl, -⟩ | ⟨g', off', cap', hv, -⟩
  · simp at hn
  · simp only [Value.slice.injEq] at hv
    exact ⟨_, _, hv.1⟩
theorem RdC.drop2 {w : World} {g off n cap k : Nat} {zs : List Int} (h : RdC w (.slice (some ⟨g, off, none⟩) n cap) zs) (hk : k ≤ n) (hc : ¬ cap = k) : RdC w (.slice (some ⟨g, off + k, none⟩) (n - k) (cap - k)) (zs.drop k) := by
  by_cases e : k < n
  · exact h.drop k e
  · obtain rfl : k = n := by omega
    obtain ⟨h1, a', cap', hv, hc'⟩ := h
    simp only [Value.slice.injEq] at hv
    have hz : zs.drop k = [] := List.drop_of_length_le (by omega)
    rw [hz, Nat.sub_self]
    exact ⟨.inl ⟨rfl, _, _, rfl, fun h => by cases h⟩, _, _, rfl, Nat.zero_le _⟩

/-! ### A number put into an increasing list -/
def putK (zs : List Int) (n : Int) : Nat := zs.findIdx fun x => !decide (x < n)
theorem putK_le (zs : List Int) (n : Int) : putK zs n ≤ zs.length := List.findIdx_le_length
theorem putK_eq {zs : List Int} {n : Int} {k : Nat} (hk : k ≤ zs.length) (h : ∀ j, j < k → nth zs j < n) (h' : k < zs.length → ¬ nth zs k < n) : putK zs n = k := by
  unfold putK
  by_cases hlt : k < zs.length
  · rw [List.findIdx_eq hlt]
    refine ⟨by have := h' hlt; simpa [nth, hlt] using this, fun j hj => ?_⟩
    have := h j hj
    have hjl : j < zs.length := by omega
    simpa [nth, hjl] using this
  · obtain rfl : k = zs.length := by omega
    rw [List.findIdx_eq_length]
    intro x hx
    obtain ⟨i, hi, rfl⟩ := List.getElem_of_mem hx
    have := h i hi
    simpa [nth, hi] using this
def putB (zs : List Int) (n : Int) : Bool := decide (putK zs n < zs.length) && nth zs (putK zs n) == n
def putN (zs : List Int) (n : Int) : List Int := zs.take (putK zs n) ++ [n] ++ zs.drop (putK zs n)
def putL (zs : List Int) (n : Int) : List Int := if putB zs n then zs else putN zs n
theorem putL_has {zs : List Int} {n : Int} (h : putB zs n = true) : putL zs n = zs := by simp [putL, h]
theorem putL_not {zs : List Int} {n : Int} (h : putB zs n = false) : putL zs n = putN zs n := by simp [putL, h]
theorem putL_len (zs : List Int) (n : Int) : (putL zs n).length ≤ zs.length + 1 := by
  unfold putL putN
  split
  · omega
  · have := putK_le zs n
    simp; omega

theorem rd_nil (w : World) : Rd w (.slice none 0 0) [] := .inl ⟨rfl, none, 0, rfl, fun _ => rfl⟩
set_option maxRecDepth 100000 in
set_option maxHeartbeats 1000000 in
theorem l1Put_any (v : Value) (zs : List Int) (n : Int) (w : World) (hlen : zs.length ≤ 1048576) (hr : RdC w v zs) :
    Calls Try.prog 70 #[v, .int .i64 n] w fun e w' => ∃ v', e = .returned v' ∧ ((v' = v ∧ putB zs n = true) ∨ (putB zs n = false ∧ Own w' w.heap.size v' (putN zs n))) ∧ Below w.heap.size w w' := by
  obtain ⟨a, cap, rfl, hlc⟩ := hr.2
  obtain ⟨m, hm⟩ : ∃ m, m = zs.length := ⟨_, rfl⟩
  rw [← hm] at hlc hlen ⊢
  have HN := Lib.hid hm
  have HR := Lib.hid hr
  clear hr
  rw [← hm] at HR
  clear hm
  go_enter Try.func70, Try.ntmps70
  go_wp2
  go_loopw [5] (fun i wr => ∃ k : Nat, k ≤ m ∧ i = .int .i64 k ∧ w = wr ∧ Hid (∀ j, j < k → nth zs j < n)) (fun i wr => m - (intOf i).toNat)
  case atStart => exact ⟨0, Nat.zero_le _, rfl, rfl, Lib.hid fun j hj => by omega⟩
  case round =>
    obtain ⟨k, hk, rfl, rfl, hall⟩ := hrel
    have HE := Lib.hid (Own.empty w w.heap.size (Nat.le_refl _))
    have hbe := (Below.refl w.heap.size w).alloc (Nat.le_refl _) (.cells #[] 3)
    by_cases hlt : k < m
    · obtain ⟨g, off, rfl, hg, q⟩ := HR.out.rd.at_ HN.out k hlt
      have hx : zs[k]?.getD 0 = nth zs k := rfl
      rw [hx] at q
      by_cases hlx : nth zs k < n
      · have hall' : Hid (∀ j, j < k + 1 → nth zs j < n) := Lib.hid fun j hj => by
          by_cases e : j = k
          · rw [e]; exact hlx
          · exact hall.out j (by omega)
        obtain ⟨x, hxe⟩ : ∃ x, x = nth zs k := ⟨_, rfl⟩
        rw [← hxe] at q hlx
        clear hx hxe
        go_wp2
        go_roundw
        case rel => exact ⟨k + 1, by omega, by go_num, trivial, hall'⟩
        case measure => simp [intOf]; omega
      · have hpk := putK_eq (n := n) (k := k) (by rw [← HN.out]; omega) hall.out (fun _ => hlx)
        by_cases hex : nth zs k = n
        · have HB : Hid (putB zs n = true) := Lib.hid (by simp only [putB, hpk, Bool.and_eq_true, decide_eq_true_eq, beq_iff_eq]; exact ⟨by rw [← HN.out]; exact hlt, hex⟩)
          obtain ⟨x, hxe⟩ : ∃ x, x = nth zs k := ⟨_, rfl⟩
          rw [← hxe] at q hlx hex
          have hq : (x == n) = true := by simpa using hex
          clear hx hxe hex hpk
          go_wp2
          go_ret
          exact ⟨_, rfl, .inl ⟨rfl, HB.out⟩, Below.refl _ _⟩
        · have HB : Hid (putK zs n = k ∧ putB zs n = false) := Lib.hid ⟨hpk, by simp only [putB, hpk, Bool.and_eq_false_iff, beq_eq_false_iff_ne]; exact .inr hex⟩
          have HT : Hid (∀ w', Below w.heap.size w w' → Rd w' (.slice (some ⟨g, off, none⟩) k cap) (zs.take k)) := Lib.hid fun w' h => ((HR.out.take k (by omega)).later h).rd
          have HD : Hid (∀ w', Below w.heap.size w w' → Rd w' (.slice (some ⟨g, off + k, none⟩) (m - k) (cap - k)) (zs.drop k)) := Lib.hid fun w' h => ((HR.out.drop k hlt).later h).rd
          obtain ⟨x, hxe⟩ : ∃ x, x = nth zs k := ⟨_, rfl⟩
          rw [← hxe] at q hlx hex
          have hq : (x == n) = false := by simpa using hex
          clear hx hxe hex hpk
          have hck : ¬ cap = k := by omega
          have HL1 : Hid (([] : List Int).length + (zs.take k).length ≤ 1099511627776) := Lib.hid (by simp; omega)
          have HL2 : Hid ((zs.take k).length ≤ 1099511627776) := Lib.hid (by simp; omega)
          have HL3 : Hid ((zs.take k ++ [n]).length + (zs.drop k).length ≤ 1099511627776) := Lib.hid (by have := HN.out; simp; omega)
          go_wp2_with (first
            | (at_builtin; refine append_ints rfl _ _ rfl w.heap.size _ [] (zs.take k) _ rfl rfl HE.out (HT.out _ hbe) HL1.out (by simp) ?_; intro v1 w1 ho1 hg1; have hb1 := hbe.grown hg1 (by simp) (fun i hi => (HE.out.lt i hi).1); have z1 := hb1.size; rw [List.nil_append] at ho1)
            | (at_builtin; refine append_int rfl _ _ rfl w.heap.size _ (zs.take k) n w1.heap.size rfl rfl (ho1.alloc _) (new_cell _ _ _) HL2.out (by simp; omega) ?_; intro v2 w2 ho2 hg2; have hb2 := (hb1.alloc z1 _).grown hg2 (by simp; omega) (fun i hi => (ho1.lt i hi).1); have z2 := hb2.size)
            | (at_builtin; refine append_ints rfl _ _ rfl w.heap.size _ (zs.take k ++ [n]) (zs.drop k) _ rfl rfl ho2 (HD.out _ hb2) HL3.out z2 ?_; intro v3 w3 ho3 hg3; have hb3 := hb2.grown hg3 z2 (fun i hi => (ho2.lt i hi).1)))
          go_ret
          exact ⟨_, rfl, .inr ⟨HB.out.2, by unfold putN; rw [HB.out.1]; exact ho3⟩, hb3⟩
    · obtain rfl : k = m := by omega
      have hpk := putK_eq (n := n) (k := k) (by rw [← HN.out]; omega) hall.out (fun h => by have := HN.out; omega)
      have HB : Hid (putK zs n = k ∧ putB zs n = false) := Lib.hid ⟨hpk, by simp only [putB, hpk, Bool.and_eq_false_iff]; exact .inl (by have := HN.out; simp; omega)⟩
      clear hpk
      have HDz : Hid (zs.drop k = []) := Lib.hid (by have := HN.out; simp; omega)
      have HL1 : Hid (([] : List Int).length + (zs.take k).length ≤ 1099511627776) := Lib.hid (by simp; omega)
      have HL2 : Hid ((zs.take k).length ≤ 1099511627776) := Lib.hid (by simp; omega)
      have HL3 : Hid ((zs.take k ++ [n]).length + (zs.drop k).length ≤ 1099511627776) := Lib.hid (by have := HN.out; simp; omega)
      have HT : Hid (∀ w', Below w.heap.size w w' → Rd w' (.slice a k cap) (zs.take k)) := Lib.hid fun w' h => ((HR.out.take k (by omega)).later h).rd
      cases a with
      | none =>
        have hc0 : cap = 0 := by
          rcases HR.out.1 with ⟨-, a', c', hv, hn⟩ | ⟨g, off, c', hv, -⟩
          · simp only [Value.slice.injEq] at hv; obtain ⟨rfl, -, rfl⟩ := hv; exact hn rfl
          · simp only [Value.slice.injEq] at hv; cases hv.1
        subst hc0
        obtain rfl : k = 0 := by omega
        have hz : zs = [] := List.eq_nil_of_length_eq_zero (HN.out).symm
        have hbf : Below w.heap.size w ((w.alloc (.cells #[] 3)).alloc (.cells #[.int .i64 n] 3)) := hbe.alloc (by simp) _
        have HE2 := Lib.hid (HE.out.alloc (.cells #[.int .i64 n] 3))
        have hnc : Hid (((w.alloc (.cells #[] 3)).alloc (.cells #[.int .i64 n] 3)).cell? ⟨w.heap.size + 1, 0, none⟩ = some (.int .i64 n)) := Lib.hid (by simp)
        go_wp2_with (first
          | (at_builtin; refine append_int rfl _ _ rfl w.heap.size _ [] n (w.heap.size + 1) rfl rfl HE2.out hnc.out (by decide) (by simp; omega) ?_; intro v2 w2 ho2 hg2; have hb2 := hbf.grown hg2 (by simp; omega) (fun i hi => (HE2.out.lt i hi).1); have z2 := hb2.size)
          | (at_builtin; refine append_ints rfl _ _ rfl w.heap.size _ [n] [] (.slice none 0 0) rfl rfl ho2 (rd_nil _) (by simp) z2 ?_; intro v3 w3 ho3 hg3; have hb3 := hb2.grown hg3 z2 (fun i hi => (ho2.lt i hi).1)))
        go_ret
        exact ⟨_, rfl, .inr ⟨HB.out.2, by unfold putN; rw [HB.out.1, hz]; exact ho3⟩, hb3⟩
      | some ad =>
        have HD : Hid (∀ w', Below w.heap.size w w' → ∀ a' l' c', l' = 0 → Rd w' (.slice (some a') l' c') (zs.drop k)) := Lib.hid fun w' _ a' l' c' e => .inl ⟨HDz.out, some a', c', by rw [e], fun h => by cases h⟩
        by_cases hck : cap = k
        · have hck' : k = cap := hck.symm
          clear hck
          subst hck'
          go_wp2_with (first
            | (at_builtin; refine append_ints rfl _ _ rfl w.heap.size _ [] (zs.take k) _ rfl rfl HE.out (HT.out _ hbe) HL1.out (by simp) ?_; intro v1 w1 ho1 hg1; have hb1 := hbe.grown hg1 (by simp) (fun i hi => (HE.out.lt i hi).1); have z1 := hb1.size; rw [List.nil_append] at ho1)
            | (at_builtin; refine append_int rfl _ _ rfl w.heap.size _ (zs.take k) n w1.heap.size rfl rfl (ho1.alloc _) (new_cell _ _ _) HL2.out (by simp; omega) ?_; intro v2 w2 ho2 hg2; have hb2 := (hb1.alloc z1 _).grown hg2 (by simp; omega) (fun i hi => (ho1.lt i hi).1); have z2 := hb2.size)
            | (at_builtin; refine append_ints rfl _ _ rfl w.heap.size _ (zs.take k ++ [n]) (zs.drop k) _ rfl rfl ho2 (HD.out _ hb2 _ _ _ (by simp)) HL3.out z2 ?_; intro v3 w3 ho3 hg3; have hb3 := hb2.grown hg3 z2 (fun i hi => (ho2.lt i hi).1)))
          go_ret
          exact ⟨_, rfl, .inr ⟨HB.out.2, by unfold putN; rw [HB.out.1]; exact ho3⟩, hb3⟩
        · skip
          go_wp2_with (first
            | (at_builtin; refine append_ints rfl _ _ rfl w.heap.size _ [] (zs.take k) _ rfl rfl HE.out (HT.out _ hbe) HL1.out (by simp) ?_; intro v1 w1 ho1 hg1; have hb1 := hbe.grown hg1 (by simp) (fun i hi => (HE.out.lt i hi).1); have z1 := hb1.size; rw [List.nil_append] at ho1)
            | (at_builtin; refine append_int rfl _ _ rfl w.heap.size _ (zs.take k) n w1.heap.size rfl rfl (ho1.alloc _) (new_cell _ _ _) HL2.out (by simp; omega) ?_; intro v2 w2 ho2 hg2; have hb2 := (hb1.alloc z1 _).grown hg2 (by simp; omega) (fun i hi => (ho1.lt i hi).1); have z2 := hb2.size)
            | (at_builtin; refine append_ints rfl _ _ rfl w.heap.size _ (zs.take k ++ [n]) (zs.drop k) _ rfl rfl ho2 (HD.out _ hb2 _ _ _ (by simp)) HL3.out z2 ?_; intro v3 w3 ho3 hg3; have hb3 := hb2.grown hg3 z2 (fun i hi => (ho2.lt i hi).1)))
          go_ret
          exact ⟨_, rfl, .inr ⟨HB.out.2, by unfold putN; rw [HB.out.1]; exact ho3⟩, hb3⟩
end Go.Proofs.Ytpmdjdlojbpcfaa
