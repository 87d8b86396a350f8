/- Chapter 6: neighbours of both sides. Written by a generator of this claim's author. -/
import Derived.Test.YteickcpmicifgaaNe9
namespace Go.Proofs.Yteickcpmicifgaa
open Go.RowKit Go.Sort
set_option linter.unusedSimpArgs false
set_option linter.unusedVariables false

/-- The result of NeighboursOf. -/
def nbL (ts ls : List T3) (i : Int) : List Int := if hasB ts ls i then nbrs ls i ts.length else []
theorem nbL_yes {ts ls : List T3} {i : Int} (h : hasB ts ls i = true) : nbL ts ls i = nbrs ls i ts.length := by simp [nbL, h]
theorem nbL_no {ts ls : List T3} {i : Int} (h : hasB ts ls i = false) : nbL ts ls i = [] := by simp [nbL, h]
theorem nbL_len (ts ls : List T3) (i : Int) : (nbL ts ls i).length ≤ 16 := by
  unfold nbL
  split
  · rename_i h
    have := (hasB_ok h).1.t16
    have := nbrs_len ls i ts.length
    omega
  · simp
theorem NB.size {w W : World} {a0 a1 : Option Addr} {n p0 m p1 : Nat} {ts ls : List T3} (h : NB w W a0 n p0 a1 m p1 ts ls) : w.heap.size + 1 ≤ W.heap.size := h.lt
/-- The call's own row is appended to: what the box holds stays. -/
theorem NB.app {w W W' : World} {a0 a1 : Option Addr} {n p0 m p1 : Nat} {ts ls : List T3} {v : Value} {zs : List Int} (h : NB w W a0 n p0 a1 m p1 ts ls) (h0 : RdN w (.slice a0 n p0) (.slice a1 m p1) ts ls) (ho : Own W (w.heap.size + 1) v zs) (hg : W.grownBy W' v.ownBlock) : NB w W' a0 n p0 a1 m p1 ts ls :=
  h.grown h0 hg fun k hk => (ho.lt k hk).1

set_option maxHeartbeats 1000000 in
theorem neNext_any (c0 c1 : Value) (ts ls : List T3) (i : Int) (w : World) (hr : RdN w c0 c1 ts ls) (hn16 : ts.length ≤ 16) :
    Calls Try.prog 56 #[.agg #[c0, c1], .int .i64 i] w fun e w' => ∃ v', e = .returned v' ∧ Own w' w.heap.size v' (nbrs ls i ts.length) ∧ Below w.heap.size w w' := by
  have hm0 : (ts.length : Int) ≤ 9223372036854775807 := by have := hr.1.max; unfold maxLen at this; omega
  have hm1 : (ls.length : Int) ≤ 9223372036854775807 := by have := hr.2.max; unfold maxLen at this; omega
  obtain ⟨a0, p0, rfl, hp0⟩ := hr.1.len
  obtain ⟨a1, p1, rfl, hp1⟩ := hr.2.len
  obtain ⟨n, hn⟩ : ∃ n, n = ts.length := ⟨_, rfl⟩
  obtain ⟨m, hm⟩ : ∃ m, m = ls.length := ⟨_, rfl⟩
  rw [← hn] at hm0 hr hp0
  rw [← hm] at hm1 hr hp1
  rw [← hn, ← hm]
  have HN := Lib.hid hn
  have HM := Lib.hid hm
  clear hn hm
  have N0 := NB.start hr 31
  have h0 := N0.b0
  have h1 := N0.b1
  have HR := Lib.hid hr
  clear hr
  rw [← HN.out] at hn16
  go_enter Try.func56, Try.ntmps56
  go_wp2
  go_loopw [5, 10] (fun o t wr => ∃ k : Nat, k ≤ n ∧ t = .int .i64 k ∧ Own wr (w.heap.size + 1) o (nbrs ls i k) ∧ NB w wr a0 n p0 a1 m p1 ts ls) (fun o t wr => n - (intOf t).toNat)
  case atStart => exact ⟨0, Nat.zero_le _, rfl, Own.nil _ _, N0⟩
  case round =>
    clear h0 h1 N0
    obtain ⟨k, hk, rfl, hown, NK⟩ := hrel
    have h0 := NK.b0
    have h1 := NK.b1
    by_cases hlt : k < n
    · have HL := Lib.hid (neLink_any _ _ ts ls i (k : Int) _ NK.rd)
      have hkl := nbrs_len ls i k
      have HY := Lib.hid (nbrs_succ_yes (ls := ls) (i := i) (n := k))
      have HNO := Lib.hid (nbrs_succ_no (ls := ls) (i := i) (n := k))
      obtain ⟨z, hz⟩ : ∃ z, lkZ ls i (k : Int) = z := ⟨_, rfl⟩
      rw [hz] at HY HNO
      have HZ := Lib.hid hz
      clear hz
      by_cases hge : 0 ≤ z
      · have E1 := Lib.hid (HY.out hge)
        go_wp2_with fail
        refine (HL.out).mono ?_
        rintro e w1 ⟨rfl, hb1⟩
        rw [HZ.out]
        have ho1 := hown.later hb1
        have NL := NK.next hb1
        have hsz := NL.size
        go_wp2_with (at_builtin; refine append_int rfl _ _ rfl (w.heap.size + 1) _ (nbrs ls i k) (k : Int) w1.heap.size rfl rfl (ho1.alloc _) (new_cell _ _ _) (by omega) (by simp; omega) ?_; intro v2 w2 ho2 hg2)
        go_roundw
        case rel => exact ⟨k + 1, by omega, by go_num, by rw [E1.out]; exact ho2, (NL.alloc _).app HR.out (ho1.alloc _) hg2⟩
        case measure => simp [intOf]; omega
      · have E1 := Lib.hid (HNO.out (by omega))
        go_wp2_with fail
        refine (HL.out).mono ?_
        rintro e w1 ⟨rfl, hb1⟩
        rw [HZ.out]
        have ho1 := hown.later hb1
        have NL := NK.next hb1
        go_wp2
        go_roundw
        case rel => exact ⟨k + 1, by omega, by go_num, by rw [E1.out]; exact ho1, NL⟩
        case measure => simp [intOf]; omega
    · obtain rfl : k = n := by omega
      go_wp2
      go_ret
      exact ⟨_, rfl, hown.base (by omega), NK.below⟩

set_option maxRecDepth 100000 in
set_option maxHeartbeats 1000000 in
theorem specNeighboursOf_any (c0 c1 : Value) (ts ls : List T3) (i : Int) (w : World) (hr : RdN w c0 c1 ts ls) :
    Calls Try.prog 20 #[.agg #[c0, c1], .int .i64 i] w fun e w' => ∃ v', e = .returned (.tuple #[v', .bool (hasB ts ls i)]) ∧ OwnI w' w.heap.size w'.heap.size v' (nbL ts ls i) ∧ Below w.heap.size w w' := by
  have hm0 : (ts.length : Int) ≤ 9223372036854775807 := by have := hr.1.max; unfold maxLen at this; omega
  have hm1 : (ls.length : Int) ≤ 9223372036854775807 := by have := hr.2.max; unfold maxLen at this; omega
  obtain ⟨a0, p0, rfl, hp0⟩ := hr.1.len
  obtain ⟨a1, p1, rfl, hp1⟩ := hr.2.len
  obtain ⟨n, hn⟩ : ∃ n, n = ts.length := ⟨_, rfl⟩
  obtain ⟨m, hm⟩ : ∃ m, m = ls.length := ⟨_, rfl⟩
  rw [← hn] at hm0 hr hp0
  rw [← hm] at hm1 hr hp1
  rw [← hn, ← hm]
  have HN := Lib.hid hn
  have HM := Lib.hid hm
  clear hn hm
  have N0 := NB.start hr 31
  have h0 := N0.b0
  have h1 := N0.b1
  have HR := Lib.hid hr
  clear hr
  cases c0 : hasB ts ls i with
  | false =>
    have H0 := Lib.hid c0
    have HF := Lib.hid (nbL_no c0)
    clear c0
    go_enter Try.func20, Try.ntmps20
    go_wp2_with fail
    refine (neHas_b _ _ ts ls _ _ N0.rd H0.out).mono ?_
    rintro e w1 ⟨rfl, hb1⟩
    have N1 := N0.next hb1
    have h0 := N1.b0
    have h1 := N1.b1
    go_wp2
    go_ret2
    exact ⟨_, rfl, by rw [HF.out]; exact OwnI.nil _ _ _, N1.below⟩
  | true =>
    have H0 := Lib.hid c0
    have HF := Lib.hid (nbL_yes c0)
    clear c0
    go_enter Try.func20, Try.ntmps20
    go_wp2_with fail
    refine (neHas_b _ _ ts ls _ _ N0.rd H0.out).mono ?_
    rintro e w1 ⟨rfl, hb1⟩
    have N1 := N0.next hb1
    have h0 := N1.b0
    have h1 := N1.b1
    have HNX := Lib.hid (neNext_any _ _ ts ls i _ N1.rd (hasB_ok H0.out).1.t16)
    go_wp2_with fail
    refine (HNX.out).mono ?_
    rintro e w2 ⟨v', rfl, ho, hb2⟩
    have N2 := N1.next hb2
    go_wp2
    go_ret2
    exact ⟨v', rfl, by rw [HF.out]; exact (ho.base N1.below.size).iv, N2.below⟩

set_option maxRecDepth 100000 in
set_option maxHeartbeats 1000000 in
theorem implNeighboursOf_any (c0 c1 : Value) (ts ls : List T3) (i : Int) (w : World) (hr : RdN w c0 c1 ts ls) :
    Calls Try.prog 21 #[.agg #[c0, c1], .int .i64 i] w fun e w' => ∃ v', e = .returned (.tuple #[v', .bool (hasB ts ls i)]) ∧ OwnI w' w.heap.size w'.heap.size v' (nbL ts ls i) ∧ Below w.heap.size w w' := by
  have hm0 : (ts.length : Int) ≤ 9223372036854775807 := by have := hr.1.max; unfold maxLen at this; omega
  have hm1 : (ls.length : Int) ≤ 9223372036854775807 := by have := hr.2.max; unfold maxLen at this; omega
  obtain ⟨a0, p0, rfl, hp0⟩ := hr.1.len
  obtain ⟨a1, p1, rfl, hp1⟩ := hr.2.len
  obtain ⟨n, hn⟩ : ∃ n, n = ts.length := ⟨_, rfl⟩
  obtain ⟨m, hm⟩ : ∃ m, m = ls.length := ⟨_, rfl⟩
  rw [← hn] at hm0 hr hp0
  rw [← hm] at hm1 hr hp1
  rw [← hn, ← hm]
  have HN := Lib.hid hn
  have HM := Lib.hid hm
  clear hn hm
  have N0 := NB.start hr 31
  have h0 := N0.b0
  have h1 := N0.b1
  have HR := Lib.hid hr
  clear hr
  cases c0 : netB ts ls with
  | false =>
    have H0 := Lib.hid c0
    have HC := Lib.hid (hasB_no0 (a := i) c0)
    have HF := Lib.hid (nbL_no (hasB_no0 (a := i) c0))
    clear c0
    go_enter Try.func21, Try.ntmps21
    go_wp2_with fail
    refine (isNet_b _ _ ts ls _ N0.rd H0.out).mono ?_
    rintro e w1 ⟨rfl, hb1⟩
    have N1 := N0.next hb1
    have h0 := N1.b0
    have h1 := N1.b1
    go_wp2
    go_ret2
    exact ⟨_, by rw [HC.out]; rfl, by rw [HF.out]; exact OwnI.nil _ _ _, N1.below⟩
  | true =>
    have H0 := Lib.hid c0
    clear c0
    cases c1 : inB i 0 ((n : Int) - 1) with
    | false =>
      have H1 := Lib.hid c1
      have HC := Lib.hid (hasB_no1 (ls := ls) (a := i) (by rw [← HN.out]; exact c1))
      have HF := Lib.hid (nbL_no HC.out)
      clear c1
      go_enter Try.func21, Try.ntmps21
      go_wp2_with fail
      refine (isNet_b _ _ ts ls _ N0.rd H0.out).mono ?_
      rintro e w1 ⟨rfl, hb1⟩
      have N1 := N0.next hb1
      have h0 := N1.b0
      have h1 := N1.b1
      go_wp2_with fail
      refine (isTowerOf_b (b := false) _ _ ts ls _ _ N1.rd (by rw [← HN.out]; exact H1.out)).mono ?_
      rintro e w2 ⟨rfl, hb2⟩
      have N2 := N1.next hb2
      have h0 := N2.b0
      have h1 := N2.b1
      go_wp2
      go_ret2
      exact ⟨_, by rw [HC.out]; rfl, by rw [HF.out]; exact OwnI.nil _ _ _, N2.below⟩
    | true =>
      have H1 := Lib.hid c1
      have HC := Lib.hid (hasB_ys (ls := ls) H0.out (by rw [← HN.out]; exact c1))
      have HF := Lib.hid (nbL_yes HC.out)
      clear c1
      go_enter Try.func21, Try.ntmps21
      go_wp2_with fail
      refine (isNet_b _ _ ts ls _ N0.rd H0.out).mono ?_
      rintro e w1 ⟨rfl, hb1⟩
      have N1 := N0.next hb1
      have h0 := N1.b0
      have h1 := N1.b1
      go_wp2_with fail
      refine (isTowerOf_b (b := true) _ _ ts ls _ _ N1.rd (by rw [← HN.out]; exact H1.out)).mono ?_
      rintro e w2 ⟨rfl, hb2⟩
      have N2 := N1.next hb2
      have h0 := N2.b0
      have h1 := N2.b1
      have HOK := Lib.hid (netB_iff.1 H0.out)
      have hm40 : m ≤ 40 := by have := HOK.out.l40; rw [HM.out]; exact this
      go_wp2
      go_loopw [6, 21] (fun o t wr => ∃ k : Nat, k ≤ m ∧ t = .int .i64 k ∧ Own wr (w.heap.size + 1) o (othersTo ls i k) ∧ NB w wr a0 n p0 a1 m p1 ts ls) (fun o t wr => m - (intOf t).toNat)
      case atStart => exact ⟨0, Nat.zero_le _, rfl, Own.nil _ _, N2⟩
      case round =>
        clear h0 h1 N0 N1 N2 hb1 hb2
        obtain ⟨k, hk, rfl, hown, NK⟩ := hrel
        have h0 := NK.b0
        have h1 := NK.b1
        by_cases hlt : k < m
        · obtain ⟨g, off, rfl, hg, q0, q1, q2⟩ := NK.rd.2.at3 HM.out k hlt
          have hkl := othersTo_len ls i k
          have hl := (HOK.out.lnk k (by rw [← HM.out]; exact hlt)).2.1
          have HS := Lib.hid (fun z => othersTo_some (ls := ls) (i := i) (k := k) (z := z) (by rw [← HM.out]; exact hlt))
          have HE := Lib.hid (othersTo_none (ls := ls) (i := i) (k := k) (by rw [← HM.out]; exact hlt))
          have HOF : Hid (otherOf i (rAt ls k) = if i = (rAt ls k).x0 then some (rAt ls k).x1 else if i = (rAt ls k).x1 then some (rAt ls k).x0 else none) := Lib.hid rfl
          generalize (rAt ls k).x0 = x0 at *
          generalize (rAt ls k).x1 = x1 at *
          generalize (rAt ls k).x2 = x2 at *
          have NA := NK.alloc (.cells #[.int .i64 x0, .int .i64 x1, .int .i64 x2] 53)
          have hsz := NK.size
          have ho1 := hown.alloc (.cells #[.int .i64 x0, .int .i64 x1, .int .i64 x2] 53)
          by_cases e0 : i = x0
          · have d0 : (i == x0) = true := by simpa using e0
            have E1 := Lib.hid (HS.out x1 (by rw [HOF.out, if_pos e0]))
            clear e0
            go_wp2_with (at_builtin; refine append_int rfl _ _ rfl (w.heap.size + 1) _ (othersTo ls i k) x1 (wr.heap.size + 1) rfl rfl (ho1.alloc _) (by simp [go_sem]) (by omega) (by simp; omega) ?_; intro v2 w2 ho2 hg2)
            go_roundw
            case rel => exact ⟨k + 1, by omega, by go_num, by rw [E1.out]; exact ho2, (NA.alloc _).app HR.out (ho1.alloc _) hg2⟩
            case measure => simp [intOf]; omega
          · have d0 : (i == x0) = false := by simpa using e0
            by_cases e1 : i = x1
            · have d1 : (i == x1) = true := by simpa using e1
              have E1 := Lib.hid (HS.out x0 (by rw [HOF.out, if_neg e0, if_pos e1]))
              clear e0 e1
              go_wp2_with (at_builtin; refine append_int rfl _ _ rfl (w.heap.size + 1) _ (othersTo ls i k) x0 (wr.heap.size + 1) rfl rfl (ho1.alloc _) (by simp [go_sem]) (by omega) (by simp; omega) ?_; intro v2 w2 ho2 hg2)
              go_roundw
              case rel => exact ⟨k + 1, by omega, by go_num, by rw [E1.out]; exact ho2, (NA.alloc _).app HR.out (ho1.alloc _) hg2⟩
              case measure => simp [intOf]; omega
            · have d1 : (i == x1) = false := by simpa using e1
              have E1 := Lib.hid (HE.out (by rw [HOF.out, if_neg e0, if_neg e1]))
              clear e0 e1
              go_wp2
              go_roundw
              case rel => exact ⟨k + 1, by omega, by go_num, by rw [E1.out]; exact ho1, NA⟩
              case measure => simp [intOf]; omega
        · obtain rfl : k = m := by omega
          have HQ := Lib.hid (others_eq HOK.out i)
          go_wp2
          go_ret2
          exact ⟨_, by rw [HC.out]; rfl, by rw [HF.out, ← HQ.out, ← HM.out]; exact (hown.base (by omega)).iv, NK.below⟩

end Go.Proofs.Yteickcpmicifgaa
