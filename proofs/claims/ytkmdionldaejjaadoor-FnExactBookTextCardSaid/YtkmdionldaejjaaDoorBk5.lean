/- Chapter 2: where signals stand in a book; a phrase's check. -/
import Derived.Test.YtkmdionldaejjaaDoorBk4
namespace Go.Proofs.YtkmdionldaejjaaDoor
open Go.RowKit
set_option linter.unusedSimpArgs false
set_option linter.unusedVariables false

def sigPos (ps : List Ph) (l : List Int) : Int := if sigIdx ps l < ps.length then (sigIdx ps l : Int) else -1
theorem sigPos_yes {ps : List Ph} {l : List Int} {i : Nat} (hi : i < ps.length) (h : (phAt ps i).sig = l) (hm : ∀ j, j < i → (phAt ps j).sig ≠ l) : sigPos ps l = i := by
  have := sigIdx_of hi h hm
  unfold sigPos; rw [this, if_pos hi]
theorem sigPos_no {ps : List Ph} {l : List Int} (hm : ∀ j, j < ps.length → (phAt ps j).sig ≠ l) : sigPos ps l = -1 := by
  have := sigIdx_none hm
  unfold sigPos; rw [this, if_neg (by omega)]
theorem phAt_take {ps : List Ph} {k i : Nat} (h : i < k) : phAt (ps.take k) i = phAt ps i := by
  unfold phAt; rw [List.getElem?_take, if_pos h]
theorem RdPs.max {w : World} {v : Value} {ps : List Ph} (h : RdPs w v ps) : (ps.length : Int) ≤ 9223372036854775807 := by
  rcases h with ⟨rfl, -⟩ | ⟨g, off, cap, -, -, hl, hm, -⟩
  · simp
  · unfold maxLen at hm; omega
theorem RdPs.take {w : World} {a : Option Addr} {n cap : Nat} {ps : List Ph} (h : RdPs w (.slice a n cap) ps) (k : Nat) (hk : k ≤ n) : RdPs w (.slice a k cap) (ps.take k) := by
  obtain ⟨a', cap', hv, hlc⟩ := h.len
  simp only [Value.slice.injEq] at hv
  obtain ⟨rfl, rfl, rfl⟩ := hv
  rcases h with ⟨rfl, a', cap', hv, hn⟩ | ⟨g, off, cap', hv, hg, hl, hm, hc⟩
  · obtain rfl : k = 0 := by simpa using hk
    simp only [Value.slice.injEq] at hv
    obtain ⟨rfl, -, rfl⟩ := hv
    exact .inl ⟨by simp, _, _, rfl, hn⟩
  · simp only [Value.slice.injEq] at hv
    obtain ⟨rfl, -, rfl⟩ := hv
    have hlen : (ps.take k).length = k := by simp; omega
    refine .inr ⟨g, off, cap, by rw [hlen], hg, by omega, hm, fun i hi => ?_⟩
    rw [hlen] at hi
    rw [phAt_take hi]
    exact hc i (by omega)

theorem idx1_any (s : ByteArray) (u u2 : Value) (zs ls : List Int) (b : Nat) (w : World) (hb : b < w.heap.size) (hc : w.cell? ⟨b, 0, none⟩ = some u2) (h1 : Rd w u zs) (h2 : Rd w u2 ls) :
    Calls Tryd.prog 76 #[.agg #[.string s, u], .pointer (some ⟨b, 0, none⟩)] w fun e w' => e = .returned (.bool (sameB zs ls)) ∧ Below w.heap.size w w' := by
  have hb0 := fun o1 => (Below.refl w.heap.size w).alloc (Nat.le_refl _) o1
  have hc' : ∀ o1, (w.alloc o1).cell? ⟨b, 0, none⟩ = some u2 := fun o1 => by rw [(hb0 o1).cell (p := ⟨b, 0, none⟩) hb]; exact hc
  go_enter Tryd.func76, Tryd.ntmps76
  go_wp2_with fail
  refine (slEqual_any _ _ zs ls _ (h1.later (hb0 _)) (h2.later (hb0 _))).mono ?_
  rintro e w1 ⟨rfl, n, rfl⟩
  go_wp2
  go_ret
  exact ⟨rfl, below_drewN (hb0 _) n⟩

set_option maxHeartbeats 400000 in
theorem indexFunc_any (v u2 : Value) (ps : List Ph) (ls : List Int) (b : Nat) (w : World) (hb : b < w.heap.size) (hc : w.cell? ⟨b, 0, none⟩ = some u2) (hr : RdPs w v ps) (h2 : Rd w u2 ls) :
    Calls Tryd.prog 75 #[v, .func (.func 76) #[] #[.pointer (some ⟨b, 0, none⟩)]] w fun e w' => e = .returned (.int .i64 (sigPos ps ls)) ∧ Below w.heap.size w w' := by
  have hm := hr.max
  obtain ⟨a, cap, rfl, -⟩ := hr.len
  obtain ⟨n, hn⟩ : ∃ n, n = ps.length := ⟨_, rfl⟩
  have HN := Lib.hid hn
  have HR := Lib.hid hr
  have HC := Lib.hid hc
  rw [← hn] at hm ⊢
  clear hn hr hc
  go_enter Tryd.func75, Tryd.ntmps75
  go_wp2
  go_loopw [8] (fun i wr => ∃ k : Nat, k ≤ n ∧ i = .int .i64 k ∧ Below w.heap.size w wr ∧ Hid (∀ j, j < k → (phAt ps j).sig ≠ ls)) (fun i wr => n - (intOf i).toNat)
  case atStart => exact ⟨0, Nat.zero_le _, rfl, Below.refl _ _, Lib.hid fun j hj => by omega⟩
  case round =>
    obtain ⟨k, hk, rfl, hbl, hall⟩ := hrel
    by_cases hlt : k < n
    · obtain ⟨g, off, u, rfl, hg, hts, hc0, hc1, hru⟩ := (HR.out.below hbl (Nat.le_refl _)).at_ (by rw [← HN.out]) k (by rw [← HN.out]; exact hlt)
      have hcb : wr.cell? ⟨b, 0, none⟩ = some u2 := by rw [hbl.cell (p := ⟨b, 0, none⟩) hb]; exact HC.out
      have hbs : b < wr.heap.size := by have := hbl.size; omega
      cases hs : sameB (phAt ps k).sig ls with
      | true =>
        have hf : Hid (sigPos ps ls = k) := Lib.hid (sigPos_yes (by rw [← HN.out]; exact hlt) (sameB_iff.1 hs) hall.out)
        go_wp2_with (go_at_call 76; refine (idx1_any _ u u2 (phAt ps k).sig ls b _ hbs hcb hru.rd (h2.later hbl)).mono ?_; rintro e w1 ⟨rfl, hb'⟩)
        go_ret
        exact ⟨ret_int hf.out.symm, hbl.trans (hb'.mono hbl.size)⟩
      | false =>
        have hall' : Hid (∀ j, j < k + 1 → (phAt ps j).sig ≠ ls) := Lib.hid fun j hj => by
          by_cases e : j = k
          · subst e; intro e; rw [sameB_iff.2 e] at hs; cases hs
          · exact hall.out j (by omega)
        go_wp2_with (go_at_call 76; refine (idx1_any _ u u2 (phAt ps k).sig ls b _ hbs hcb hru.rd (h2.later hbl)).mono ?_; rintro e w1 ⟨rfl, hb'⟩)
        go_roundw
        case rel => exact ⟨k + 1, by omega, by go_num, hbl.trans (hb'.mono hbl.size), hall'⟩
        case measure => simp [intOf]; omega
    · have hf : Hid (sigPos ps ls = -1) := Lib.hid (sigPos_no fun j hj => hall.out j (by rw [← HN.out] at hj; omega))
      go_wp2
      go_ret
      exact ⟨ret_int hf.out.symm, hbl⟩

theorem indexOfSignals_any (v u2 : Value) (ps : List Ph) (ls : List Int) (w : World) (hr : RdPs w v ps) (h2 : Rd w u2 ls) :
    Calls Tryd.prog 58 #[v, u2] w fun e w' => e = .returned (.int .i64 (sigPos ps ls)) ∧ Below w.heap.size w w' := by
  have hmf : ∀ (fn : Fn) (first cap : Array Value) (w : World), (Instr.makeFunc fn first cap).run Tryd.prog w = .ok (.func fn first cap) w := fun _ _ _ _ => rfl
  have hb0 := fun o1 => (Below.refl w.heap.size w).alloc (Nat.le_refl _) o1
  obtain ⟨a2, c2, rfl⟩ := h2.len
  go_enter Tryd.func58, Tryd.ntmps58
  go_wp2_with fail
  refine (indexFunc_any _ (.slice a2 ls.length c2) ps ls w.heap.size _ (by simp) (by simp [go_sem]) (hr.later (hb0 _)) (h2.later (hb0 _))).mono ?_
  rintro e w1 ⟨rfl, hb⟩
  have hb1 := (hb0 (.cells #[.slice a2 ls.length c2] 22)).trans (hb.mono (by simp))
  go_wp2
  go_ret
  exact ⟨rfl, hb1⟩

def phB (s : ByteArray) (zs : List Int) : Bool := textB s && sigB zs
theorem phB_no {s : ByteArray} {zs : List Int} (h : textB s = false) : phB s zs = false := by simp [phB, h]
theorem phB_yes {s : ByteArray} {zs : List Int} (h : textB s = true) : phB s zs = sigB zs := by simp [phB, h]
theorem isPhrase_any (s : ByteArray) (u : Value) (zs : List Int) (w : World) (hs : s.size ≤ maxLen) (hr : Rd w u zs) :
    Calls Tryd.prog 57 #[.agg #[.string s, u]] w fun e w' => e = .returned (.bool (phB s zs)) ∧ Below w.heap.size w w' := by
  have hb0 := fun o1 => (Below.refl w.heap.size w).alloc (Nat.le_refl _) o1
  cases ht : textB s with
  | true =>
    have hf := Lib.hid (phB_yes (zs := zs) ht)
    go_enter Tryd.func57, Tryd.ntmps57
    go_wp2_with fail
    refine (implPhraseText_any _ _ hs).mono ?_
    rintro e w1 ⟨rfl, hb⟩
    have hb1 := (hb0 (.cells #[.string s, u] 58)).trans (hb.mono (by simp))
    have c1 := hb.cell (p := ⟨w.heap.size, 1, none⟩) (by simp)
    simp [go_sem] at c1
    go_wp2_with fail
    refine (arePhraseSignals_any _ zs _ (hr.later hb1)).mono ?_
    rintro e w2 ⟨rfl, rfl⟩
    go_wp2
    go_ret
    exact ⟨ret_bool hf.out.symm, hb1⟩
  | false =>
    have hf := Lib.hid (phB_no (zs := zs) ht)
    go_enter Tryd.func57, Tryd.ntmps57
    go_wp2_with fail
    refine (implPhraseText_any _ _ hs).mono ?_
    rintro e w1 ⟨rfl, hb⟩
    have hb1 := (hb0 (.cells #[.string s, u] 58)).trans (hb.mono (by simp))
    go_wp2
    go_ret
    exact ⟨ret_bool hf.out.symm, hb1⟩

set_option maxHeartbeats 400000 in
theorem bkOf_any (v u2 : Value) (ps : List Ph) (ls : List Int) (w : World) (hr : RdPs w v ps) (h2 : Rd w u2 ls) :
    Calls Tryd.prog 54 #[.agg #[v], u2] w fun e w' => e = .returned (.int .i64 (sigPos ps ls)) ∧ Below w.heap.size w w' := by
  have hm := hr.max
  obtain ⟨a, cap, rfl, -⟩ := hr.len
  obtain ⟨n, hn⟩ : ∃ n, n = ps.length := ⟨_, rfl⟩
  have HN := Lib.hid hn
  have HR := Lib.hid hr
  rw [← hn] at hm ⊢
  clear hn hr
  go_enter Tryd.func54, Tryd.ntmps54
  go_wp2
  go_loopw [10] (fun i wr => ∃ k : Nat, k ≤ n ∧ i = .int .i64 k ∧ Below w.heap.size w wr ∧ Hid (∀ j, j < k → (phAt ps j).sig ≠ ls)) (fun i wr => n - (intOf i).toNat)
  case atStart => exact ⟨0, Nat.zero_le _, rfl, (Below.refl _ _).alloc (Nat.le_refl _) _, Lib.hid fun j hj => by omega⟩
  case round =>
    obtain ⟨k, hk, rfl, hbl, hall⟩ := hrel
    by_cases hlt : k < n
    · obtain ⟨g, off, u, rfl, hg, hts, hc0, hc1, hru⟩ := (HR.out.below hbl (Nat.le_refl _)).at_ (by rw [← HN.out]) k (by rw [← HN.out]; exact hlt)
      obtain ⟨ua, uc, rfl⟩ := hru.rd.len
      have hbl2 := fun o => hbl.alloc hbl.size o
      have hru2 := fun o => hru.rd.later ((Below.refl _ wr).alloc (Nat.le_refl _) o)
      cases hs : sameB (phAt ps k).sig ls with
      | true =>
        have hf : Hid (sigPos ps ls = k) := Lib.hid (sigPos_yes (by rw [← HN.out]; exact hlt) (sameB_iff.1 hs) hall.out)
        go_wp2_with (go_at_call 72; refine (l1Same_any _ u2 (phAt ps k).sig ls _ (hru2 _) (h2.later (hbl2 _))).mono ?_; rintro e w1 ⟨rfl, n1, rfl⟩)
        go_ret
        exact ⟨ret_int hf.out.symm, below_drewN (hbl2 _) n1⟩
      | false =>
        have hall' : Hid (∀ j, j < k + 1 → (phAt ps j).sig ≠ ls) := Lib.hid fun j hj => by
          by_cases e : j = k
          · subst e; intro e; rw [sameB_iff.2 e] at hs; cases hs
          · exact hall.out j (by omega)
        go_wp2_with (go_at_call 72; refine (l1Same_any _ u2 (phAt ps k).sig ls _ (hru2 _) (h2.later (hbl2 _))).mono ?_; rintro e w1 ⟨rfl, n1, rfl⟩)
        go_roundw
        case rel => exact ⟨k + 1, by omega, by go_num, below_drewN (hbl2 _) n1, hall'⟩
        case measure => simp [intOf]; omega
    · have hf : Hid (sigPos ps ls = -1) := Lib.hid (sigPos_no fun j hj => hall.out j (by rw [← HN.out] at hj; omega))
      go_wp2
      go_ret
      exact ⟨ret_int hf.out.symm, hbl⟩
end Go.Proofs.YtkmdionldaejjaaDoor
