/- Chapter 6: the box that a net lies in; has it a tower? the number of a link. -/
import Derived.Test.YteickcpmicifgaaNe3
import Derived.Test.YteickcpmicifgaaNe4
import Derived.Test.YteickcpmicifgaaNe5
namespace Go.Proofs.Yteickcpmicifgaa
open Go.RowKit Go.Sort
set_option linter.unusedSimpArgs false
set_option linter.unusedVariables false

/-- W follows w; the net that was handed over lies in w's first new block. -/
structure NB (w W : World) (a0 : Option Addr) (n p0 : Nat) (a1 : Option Addr) (m p1 : Nat) (ts ls : List T3) : Prop where
  below : Below w.heap.size w W
  lt : w.heap.size < W.heap.size
  b0 : W.cell? ⟨w.heap.size, 0, none⟩ = some (.slice a0 n p0)
  b1 : W.cell? ⟨w.heap.size, 1, none⟩ = some (.slice a1 m p1)
  rd : RdN W (.slice a0 n p0) (.slice a1 m p1) ts ls
theorem NB.start {w : World} {a0 a1 : Option Addr} {n p0 m p1 : Nat} {ts ls : List T3} (h : RdN w (.slice a0 n p0) (.slice a1 m p1) ts ls) (t : TypeId) : NB w (w.alloc (.cells #[.slice a0 n p0, .slice a1 m p1] t)) a0 n p0 a1 m p1 ts ls :=
  have hb := (Below.refl w.heap.size w).alloc (Nat.le_refl _) (.cells #[.slice a0 n p0, .slice a1 m p1] t)
  ⟨hb, by simp, by simp [go_sem], by simp [go_sem], h.later hb⟩
theorem NB.next {w W W' : World} {a0 a1 : Option Addr} {n p0 m p1 : Nat} {ts ls : List T3} (h : NB w W a0 n p0 a1 m p1 ts ls) (hb : Below W.heap.size W W') : NB w W' a0 n p0 a1 m p1 ts ls :=
  ⟨h.below.trans (hb.mono h.below.size), Nat.lt_of_lt_of_le h.lt hb.size, by rw [hb.cell (p := ⟨w.heap.size, 0, none⟩) h.lt]; exact h.b0, by rw [hb.cell (p := ⟨w.heap.size, 1, none⟩) h.lt]; exact h.b1, h.rd.later hb⟩
theorem NB.alloc {w W : World} {a0 a1 : Option Addr} {n p0 m p1 : Nat} {ts ls : List T3} (h : NB w W a0 n p0 a1 m p1 ts ls) (o : Obj) : NB w (W.alloc o) a0 n p0 a1 m p1 ts ls := h.next ((Below.refl _ _).alloc (Nat.le_refl _) o)
theorem NB.drew {w W : World} {a0 a1 : Option Addr} {n p0 m p1 : Nat} {ts ls : List T3} (h : NB w W a0 n p0 a1 m p1 ts ls) : NB w W.drew a0 n p0 a1 m p1 ts ls := h.next (Below.refl _ _).drew

theorem neGood_b {b : Bool} (c0 c1 : Value) (ts ls : List T3) (w : World) (hr : RdN w c0 c1 ts ls) (hb : netB ts ls = b) :
    Calls Try.prog 44 #[.agg #[c0, c1]] w fun e w' => e = .returned (.bool b) ∧ Below w.heap.size w w' := by subst hb; exact neGood_any _ _ _ _ _ hr
theorem isNet_b {b : Bool} (c0 c1 : Value) (ts ls : List T3) (w : World) (hr : RdN w c0 c1 ts ls) (hb : netB ts ls = b) :
    Calls Try.prog 16 #[.agg #[c0, c1]] w fun e w' => e = .returned (.bool b) ∧ Below w.heap.size w w' := by subst hb; exact isNet_any _ _ _ _ _ hr

theorem specIsNet_any (c0 c1 : Value) (ts ls : List T3) (w : World) (hr : RdN w c0 c1 ts ls) :
    Calls Try.prog 14 #[.agg #[c0, c1]] w fun e w' => e = .returned (.bool (netB ts ls)) ∧ Below w.heap.size w w' := by
  obtain ⟨a0, p0, rfl, -⟩ := hr.1.len
  obtain ⟨a1, p1, rfl, -⟩ := hr.2.len
  have N0 := NB.start hr 31
  have h0 := N0.b0
  have h1 := N0.b1
  go_enter Try.func14, Try.ntmps14
  go_wp2_with fail
  refine (neGood_any _ _ ts ls _ N0.rd).mono ?_
  rintro e w1 ⟨rfl, hb1⟩
  have N1 := N0.next hb1
  go_wp2
  go_ret
  exact ⟨rfl, N1.below⟩

theorem neHas_b {b : Bool} (c0 c1 : Value) (ts ls : List T3) (i : Int) (w : World) (hr : RdN w c0 c1 ts ls) (hb : hasB ts ls i = b) :
    Calls Try.prog 52 #[.agg #[c0, c1], .int .i64 i] w fun e w' => e = .returned (.bool b) ∧ Below w.heap.size w w' := by
  have hm0 : (ts.length : Int) ≤ 9223372036854775807 := by have := hr.1.max; unfold maxLen at this; omega
  obtain ⟨a0, p0, rfl, -⟩ := hr.1.len
  obtain ⟨a1, p1, rfl, -⟩ := hr.2.len
  obtain ⟨n, hn⟩ : ∃ n, n = ts.length := ⟨_, rfl⟩
  rw [← hn] at hm0 hr ⊢
  have HN := Lib.hid hn
  clear hn
  have N0 := NB.start hr 31
  have h0 := N0.b0
  have h1 := N0.b1
  unfold hasB at hb
  rw [← HN.out] at hb
  cases hg : netB ts ls with
  | false =>
    rw [hg] at hb
    have HG := Lib.hid hg
    have HB := Lib.hid hb
    clear hg hb
    go_enter Try.func52, Try.ntmps52
    go_wp2_with fail
    refine (neGood_b _ _ ts ls _ N0.rd HG.out).mono ?_
    rintro e w1 ⟨rfl, hb1⟩
    have N1 := N0.next hb1
    go_wp2
    go_ret
    exact ⟨ret_bool HB.out, N1.below⟩
  | true =>
    rw [hg] at hb
    have HG := Lib.hid hg
    have HB := Lib.hid (show inB i 0 ((n : Int) - 1) = b from by simpa using hb)
    clear hg hb
    go_enter Try.func52, Try.ntmps52
    go_wp2_with fail
    refine (neGood_b _ _ ts ls _ N0.rd HG.out).mono ?_
    rintro e w1 ⟨rfl, hb1⟩
    have N1 := N0.next hb1
    have k0 := N1.b0
    go_wp2_with fail
    refine (l1In_b _ _ _ _ HB.out).mono ?_
    rintro e w2 ⟨rfl, rfl⟩
    go_wp2
    go_ret
    exact ⟨rfl, N1.below⟩

theorem isTowerOf_b {b : Bool} (c0 c1 : Value) (ts ls : List T3) (i : Int) (w : World) (hr : RdN w c0 c1 ts ls) (hb : inB i 0 ((ts.length : Int) - 1) = b) :
    Calls Try.prog 54 #[.agg #[c0, c1], .int .i64 i] w fun e w' => e = .returned (.bool b) ∧ Below w.heap.size w w' := by
  obtain ⟨a0, p0, rfl, -⟩ := hr.1.len
  obtain ⟨a1, p1, rfl, -⟩ := hr.2.len
  obtain ⟨n, hn⟩ : ∃ n, n = ts.length := ⟨_, rfl⟩
  rw [← hn] at hr hb ⊢
  clear hn
  have N0 := NB.start hr 31
  have h0 := N0.b0
  have h1 := N0.b1
  subst hb
  by_cases g0 : 0 ≤ i
  · by_cases g1 : i < (n : Int)
    · go_enter Try.func54, Try.ntmps54
      go_wp2
      go_ret
      exact ⟨ret_bool (by rw [inB_yes (by omega) (by omega)]), N0.below⟩
    · go_enter Try.func54, Try.ntmps54
      go_wp2
      go_ret
      exact ⟨ret_bool (by rw [inB_no (by omega)]; try simp <;> omega), N0.below⟩
  · go_enter Try.func54, Try.ntmps54
    go_wp2
    go_ret
    exact ⟨ret_bool (by rw [inB_no (by omega)]; try simp <;> omega), N0.below⟩

set_option maxHeartbeats 1000000 in
theorem neLink_any (c0 c1 : Value) (ts ls : List T3) (a b : Int) (w : World) (hr : RdN w c0 c1 ts ls) :
    Calls Try.prog 53 #[.agg #[c0, c1], .int .i64 a, .int .i64 b] w fun e w' => e = .returned (.int .i64 (lkZ ls a b)) ∧ Below w.heap.size w w' := by
  have hm1 : (ls.length : Int) ≤ 9223372036854775807 := by have := hr.2.max; unfold maxLen at this; omega
  obtain ⟨a0, p0, rfl, -⟩ := hr.1.len
  obtain ⟨a1, p1, rfl, -⟩ := hr.2.len
  obtain ⟨m, hm⟩ : ∃ m, m = ls.length := ⟨_, rfl⟩
  rw [← hm] at hm1 hr ⊢
  have HM := Lib.hid hm
  clear hm
  have N0 := NB.start hr 31
  have h0 := N0.b0
  have h1 := N0.b1
  have HR := Lib.hid hr
  clear hr
  go_enter Try.func53, Try.ntmps53
  go_wp2
  go_loopw [12] (fun i wr => ∃ k : Nat, k ≤ m ∧ i = .int .i64 k ∧ Below w.heap.size w wr ∧ Hid (∀ j, j < k → lkB a b (rAt ls j) = false)) (fun i wr => m - (intOf i).toNat)
  case atStart => exact ⟨0, Nat.zero_le _, rfl, N0.below, Lib.hid fun j hj => by omega⟩
  case round =>
    obtain ⟨k, hk, rfl, hbl, hall⟩ := hrel
    clear N0 h0 h1
    by_cases hlt : k < m
    · obtain ⟨g, off, rfl, hg, q0, q1, q2⟩ := (HR.out.below hbl (Nat.le_refl _)).2.at3 HM.out k hlt
      have hb2 := hbl.alloc hbl.size (.cells #[.int .i64 (rAt ls k).x0, .int .i64 (rAt ls k).x1, .int .i64 (rAt ls k).x2] 53)
      have hyes : Hid (lkB a b (rAt ls k) = true → lkZ ls a b = k) := Lib.hid fun h => lkZ_at (by rw [← HM.out]; exact hlt) h hall.out
      have hno : Hid (lkB a b (rAt ls k) = false → ∀ j, j < k + 1 → lkB a b (rAt ls j) = false) := Lib.hid fun h j hj => by
        by_cases e : j = k
        · rw [e]; exact h
        · exact hall.out j (by omega)
      have key : ∀ c, (c = true ↔ ((rAt ls k).x0 = a ∧ (rAt ls k).x1 = b) ∨ ((rAt ls k).x0 = b ∧ (rAt ls k).x1 = a)) → Hid (lkB a b (rAt ls k) = c) := fun c hc => Lib.hid (by rw [Bool.eq_iff_iff, lkB_iff]; exact hc.symm)
      generalize (rAt ls k).x0 = u at *
      generalize (rAt ls k).x1 = v at *
      by_cases e0 : u = a ∧ v = b
      · have hf := key true (by simp [e0])
        obtain ⟨e1, e2⟩ := e0
        have d1 : (u == a) = true := by simpa using e1
        have d2 : (v == b) = true := by simpa using e2
        clear e1 e2 key
        have hZ := Lib.hid (hyes.out hf.out)
        go_wp2
        go_ret
        exact ⟨ret_int hZ.out.symm, hb2⟩
      · have d0 : (u == a) = false ∨ ((u == a) = true ∧ (v == b) = false) := by
          by_cases e1 : u = a
          · exact .inr ⟨by simpa using e1, by simp; exact fun h => e0 ⟨e1, h⟩⟩
          · exact .inl (by simpa using e1)
        by_cases e3 : u = b ∧ v = a
        · have hf := key true (by simp [e3])
          obtain ⟨e1, e2⟩ := e3
          have d3 : (u == b) = true := by simpa using e1
          have d4 : (v == a) = true := by simpa using e2
          clear e1 e2 e0 key
          have hZ := Lib.hid (hyes.out hf.out)
          rcases d0 with d0 | ⟨d0, d1⟩
          all_goals
            go_wp2
            go_ret
            exact ⟨ret_int hZ.out.symm, hb2⟩
        · have d3 : (u == b) = false ∨ ((u == b) = true ∧ (v == a) = false) := by
            by_cases e1 : u = b
            · exact .inr ⟨by simpa using e1, by simp; exact fun h => e3 ⟨e1, h⟩⟩
            · exact .inl (by simpa using e1)
          have hf := key false (by simp; exact ⟨fun h1 h2 => e0 ⟨h1, h2⟩, fun h1 h2 => e3 ⟨h1, h2⟩⟩)
          clear e0 e3 key
          have hN := Lib.hid (hno.out hf.out)
          rcases d0 with d0 | ⟨d0, d1⟩ <;> rcases d3 with d3 | ⟨d3, d4⟩
          all_goals
            go_wp2
            go_roundw
            case rel => exact ⟨k + 1, by omega, by go_num, hb2, hN⟩
            case measure => simp [intOf]; omega
    · obtain rfl : k = m := by omega
      have hZ : Hid (lkZ ls a b = -1) := Lib.hid (lkZ_none fun j hj => hall.out j (by rw [HM.out]; exact hj))
      go_wp2
      go_ret
      exact ⟨ret_int hZ.out.symm, hbl⟩
end Go.Proofs.Yteickcpmicifgaa
