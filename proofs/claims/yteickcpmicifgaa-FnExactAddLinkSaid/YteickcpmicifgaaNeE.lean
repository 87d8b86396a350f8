/- Chapter 6: ReachFrom and IsJoined of both sides. Written by a generator of this claim's author. -/
import Derived.Test.YteickcpmicifgaaNeD
namespace Go.Proofs.Yteickcpmicifgaa
open Go.RowKit Go.Sort
set_option linter.unusedSimpArgs false
set_option linter.unusedVariables false

theorem NetOk.edge {ts ls : List T3} (h : NetOk ts ls) {p : Nat → Bool} {a b : Nat} (he : lnkE ls p a b) : a < ts.length ∧ b < ts.length := by
  obtain ⟨j, hj, -, hl⟩ := he
  have := h.lnk j hj
  have := lkB_iff.1 hl
  omega
/-- The result of ReachFrom. -/
noncomputable def rfL (ts ls : List T3) (i : Int) : List Int := if hasB ts ls i then rcL (lnkE ls (fun _ => true)) i.toNat ts.length else []
theorem rfL_yes {ts ls : List T3} {i : Int} (h : hasB ts ls i = true) : rfL ts ls i = rcL (lnkE ls (fun _ => true)) i.toNat ts.length := by simp [rfL, h]
theorem rfL_no {ts ls : List T3} {i : Int} (h : hasB ts ls i = false) : rfL ts ls i = [] := by simp [rfL, h]
theorem rfL_len (ts ls : List T3) (i : Int) : (rfL ts ls i).length ≤ 16 := by
  unfold rfL
  split
  · rename_i h
    have := (hasB_ok h).1.t16
    have := rcL_len (lnkE ls (fun _ => true)) i.toNat ts.length
    omega
  · simp

set_option maxRecDepth 100000 in
set_option maxHeartbeats 1000000 in
theorem specReachFrom_any (c0 c1 : Value) (ts ls : List T3) (i : Int) (w : World) (hr : RdN w c0 c1 ts ls) :
    Calls Try.prog 26 #[.agg #[c0, c1], .int .i64 i] w fun e w' => ∃ v', e = .returned (.tuple #[v', .bool (hasB ts ls i)]) ∧ OwnI w' w.heap.size w'.heap.size v' (rfL ts ls i) ∧ Below w.heap.size w w' := by
  have hm0 : (ts.length : Int) ≤ 9223372036854775807 := by have := hr.1.max; unfold maxLen at this; omega
  have hm1 : (ls.length : Int) ≤ 9223372036854775807 := by have := hr.2.max; unfold maxLen at this; omega
  obtain ⟨a0, p0, rfl, hp0⟩ := hr.1.len
  obtain ⟨a1, p1, rfl, hp1⟩ := hr.2.len
  obtain ⟨n, hn⟩ : ∃ n, n = ts.length := ⟨_, rfl⟩
  obtain ⟨m, hm⟩ : ∃ m, m = ls.length := ⟨_, rfl⟩
  rw [← hn] at hm0 hr hp0
  rw [← hm] at hm1 hr hp1
  rw [← hn, ← hm]
  have HN := Lib.hid hn
  have HM := Lib.hid hm
  clear hn hm
  have N0 := NB.start hr 31
  have h0 := N0.b0
  have h1 := N0.b1
  have HR := Lib.hid hr
  clear hr
  cases c0 : hasB ts ls i with
  | false =>
    have H0 := Lib.hid c0
    have HF := Lib.hid (rfL_no c0)
    clear c0
    go_enter Try.func26, Try.ntmps26
    go_wp2_with fail
    refine (neHas_b _ _ ts ls _ _ N0.rd H0.out).mono ?_
    rintro e w1 ⟨rfl, hb1⟩
    have N1 := N0.next hb1
    have h0 := N1.b0
    have h1 := N1.b1
    go_wp2
    go_ret2
    exact ⟨_, rfl, by rw [HF.out]; exact OwnI.nil _ _ _, N1.below⟩
  | true =>
    have H0 := Lib.hid c0
    have HF := Lib.hid (rfL_yes c0)
    clear c0
    go_enter Try.func26, Try.ntmps26
    go_wp2_with fail
    refine (neHas_b _ _ ts ls _ _ N0.rd H0.out).mono ?_
    rintro e w1 ⟨rfl, hb1⟩
    have N1 := N0.next hb1
    have h0 := N1.b0
    have h1 := N1.b1
    obtain ⟨hok, k, hk, hkn⟩ := hasB_ok H0.out
    have HEQ : Hid (rfL ts ls i = rcL (lnkE ls (fun _ => true)) k ts.length) := Lib.hid (by rw [HF.out, hk]; rfl)
    have HNX := Lib.hid (neReach_any _ _ ts ls k _ N1.rd hok.t16 hkn (fun a b h => (hok.edge h).2))
    have HC := Lib.hid H0.out
    subst hk
    clear hok
    go_wp2_with fail
    refine (HNX.out).mono ?_
    rintro e w2 ⟨v', rfl, ho, hb2⟩
    have N2 := N1.next hb2
    go_wp2
    go_ret2
    exact ⟨v', rfl, by rw [HEQ.out]; exact (ho.base N1.below.size).iv, N2.below⟩

set_option maxRecDepth 100000 in
set_option maxHeartbeats 1000000 in
theorem implReachFrom_any (c0 c1 : Value) (ts ls : List T3) (i : Int) (w : World) (hr : RdN w c0 c1 ts ls) :
    Calls Try.prog 27 #[.agg #[c0, c1], .int .i64 i] w fun e w' => ∃ v', e = .returned (.tuple #[v', .bool (hasB ts ls i)]) ∧ OwnI w' w.heap.size w'.heap.size v' (rfL ts ls i) ∧ Below w.heap.size w w' := by
  have hm0 : (ts.length : Int) ≤ 9223372036854775807 := by have := hr.1.max; unfold maxLen at this; omega
  have hm1 : (ls.length : Int) ≤ 9223372036854775807 := by have := hr.2.max; unfold maxLen at this; omega
  obtain ⟨a0, p0, rfl, hp0⟩ := hr.1.len
  obtain ⟨a1, p1, rfl, hp1⟩ := hr.2.len
  obtain ⟨n, hn⟩ : ∃ n, n = ts.length := ⟨_, rfl⟩
  obtain ⟨m, hm⟩ : ∃ m, m = ls.length := ⟨_, rfl⟩
  rw [← hn] at hm0 hr hp0
  rw [← hm] at hm1 hr hp1
  rw [← hn, ← hm]
  have HN := Lib.hid hn
  have HM := Lib.hid hm
  clear hn hm
  have N0 := NB.start hr 31
  have h0 := N0.b0
  have h1 := N0.b1
  have HR := Lib.hid hr
  clear hr
  cases c0 : netB ts ls with
  | false =>
    have H0 := Lib.hid c0
    have HC := Lib.hid (hasB_no0 (a := i) c0)
    have HF := Lib.hid (rfL_no (hasB_no0 (a := i) c0))
    clear c0
    go_enter Try.func27, Try.ntmps27
    go_wp2_with fail
    refine (isNet_b _ _ ts ls _ N0.rd H0.out).mono ?_
    rintro e w1 ⟨rfl, hb1⟩
    have N1 := N0.next hb1
    have h0 := N1.b0
    have h1 := N1.b1
    go_wp2
    go_ret2
    exact ⟨_, by rw [HC.out]; rfl, by rw [HF.out]; exact OwnI.nil _ _ _, N1.below⟩
  | true =>
    have H0 := Lib.hid c0
    clear c0
    cases c1 : inB i 0 ((n : Int) - 1) with
    | false =>
      have H1 := Lib.hid c1
      have HC := Lib.hid (hasB_no1 (ls := ls) (a := i) (by rw [← HN.out]; exact c1))
      have HF := Lib.hid (rfL_no HC.out)
      clear c1
      go_enter Try.func27, Try.ntmps27
      go_wp2_with fail
      refine (isNet_b _ _ ts ls _ N0.rd H0.out).mono ?_
      rintro e w1 ⟨rfl, hb1⟩
      have N1 := N0.next hb1
      have h0 := N1.b0
      have h1 := N1.b1
      go_wp2_with fail
      refine (isTowerOf_b (b := false) _ _ ts ls _ _ N1.rd (by rw [← HN.out]; exact H1.out)).mono ?_
      rintro e w2 ⟨rfl, hb2⟩
      have N2 := N1.next hb2
      have h0 := N2.b0
      have h1 := N2.b1
      go_wp2
      go_ret2
      exact ⟨_, by rw [HC.out]; rfl, by rw [HF.out]; exact OwnI.nil _ _ _, N2.below⟩
    | true =>
      have H1 := Lib.hid c1
      have HC := Lib.hid (hasB_ys (ls := ls) H0.out (by rw [← HN.out]; exact c1))
      have HF := Lib.hid (rfL_yes HC.out)
      clear c1
      go_enter Try.func27, Try.ntmps27
      go_wp2_with fail
      refine (isNet_b _ _ ts ls _ N0.rd H0.out).mono ?_
      rintro e w1 ⟨rfl, hb1⟩
      have N1 := N0.next hb1
      have h0 := N1.b0
      have h1 := N1.b1
      go_wp2_with fail
      refine (isTowerOf_b (b := true) _ _ ts ls _ _ N1.rd (by rw [← HN.out]; exact H1.out)).mono ?_
      rintro e w2 ⟨rfl, hb2⟩
      have N2 := N1.next hb2
      have h0 := N2.b0
      have h1 := N2.b1
      obtain ⟨hok, k, hk, hkn⟩ := hasB_ok HC.out
      have HEQ : Hid (rfL ts ls i = rcL (lnkE ls (fun _ => true)) k ts.length) := Lib.hid (by rw [HF.out, hk]; rfl)
      have HNX := Lib.hid (reachedAll_any _ _ ts ls k _ N2.rd hok hkn)
      subst hk
      clear hok
      go_wp2_with fail
      refine (HNX.out).mono ?_
      rintro e w3 ⟨v', rfl, ho, hb3⟩
      have N3 := N2.next hb3
      go_wp2
      go_ret2
      exact ⟨v', by rw [HC.out]; rfl, by rw [HEQ.out]; exact (ho.base N2.below.size).iv, N3.below⟩

noncomputable def jnB (ts ls : List T3) : Bool := netB ts ls && decide ((rcL (lnkE ls (fun _ => true)) 0 ts.length).length = ts.length)
theorem hasB_zero {ts ls : List T3} (h : netB ts ls = true) : hasB ts ls 0 = true := hasB_yes (k := 0) h (by have := (netB_iff.1 h).one; omega)
theorem hasB_zero_eq (ts ls : List T3) : hasB ts ls 0 = netB ts ls := by
  cases h : netB ts ls with
  | true => exact hasB_zero h
  | false => exact hasB_no0 h

set_option maxRecDepth 100000 in
set_option maxHeartbeats 1000000 in
theorem specIsJoined_any (c0 c1 : Value) (ts ls : List T3) (w : World) (hr : RdN w c0 c1 ts ls) :
    Calls Try.prog 28 #[.agg #[c0, c1]] w fun e w' => e = .returned (.tuple #[.bool (jnB ts ls), .bool (netB ts ls)]) ∧ Below w.heap.size w w' := by
  have hm0 : (ts.length : Int) ≤ 9223372036854775807 := by have := hr.1.max; unfold maxLen at this; omega
  have hm1 : (ls.length : Int) ≤ 9223372036854775807 := by have := hr.2.max; unfold maxLen at this; omega
  obtain ⟨a0, p0, rfl, hp0⟩ := hr.1.len
  obtain ⟨a1, p1, rfl, hp1⟩ := hr.2.len
  obtain ⟨n, hn⟩ : ∃ n, n = ts.length := ⟨_, rfl⟩
  obtain ⟨m, hm⟩ : ∃ m, m = ls.length := ⟨_, rfl⟩
  rw [← hn] at hm0 hr hp0
  rw [← hm] at hm1 hr hp1
  rw [← hn, ← hm]
  have HN := Lib.hid hn
  have HM := Lib.hid hm
  clear hn hm
  have N0 := NB.start hr 31
  have h0 := N0.b0
  have h1 := N0.b1
  have HR := Lib.hid hr
  clear hr
  cases c0 : netB ts ls with
  | false =>
    have H0 := Lib.hid c0
    have HF : Hid (jnB ts ls = false) := Lib.hid (by unfold jnB; rw [c0]; rfl)
    clear c0
    go_enter Try.func28, Try.ntmps28
    go_wp2_with fail
    refine (neGood_b _ _ ts ls _ N0.rd H0.out).mono ?_
    rintro e w1 ⟨rfl, hb1⟩
    have N1 := N0.next hb1
    have h0 := N1.b0
    have h1 := N1.b1
    go_wp2
    go_ret2
    exact ⟨by rw [HF.out]; rfl, N1.below⟩
  | true =>
    have H0 := Lib.hid c0
    have HOK := Lib.hid (netB_iff.1 c0)
    obtain ⟨r, hr0⟩ : ∃ r, (rcL (lnkE ls (fun _ => true)) 0 ts.length).length = r := ⟨_, rfl⟩
    have hrn : r ≤ 16 := by have := rcL_len (lnkE ls (fun _ => true)) 0 ts.length; have := HOK.out.t16; omega
    have HF : Hid (jnB ts ls = decide (r = n)) := Lib.hid (by unfold jnB; rw [c0, hr0, HN.out]; rfl)
    have HL := Lib.hid hr0
    clear c0 hr0
    go_enter Try.func28, Try.ntmps28
    go_wp2_with fail
    refine (neGood_b _ _ ts ls _ N0.rd H0.out).mono ?_
    rintro e w1 ⟨rfl, hb1⟩
    have N1 := N0.next hb1
    have h0 := N1.b0
    have h1 := N1.b1
    have ND := N1.drew
    have hnx := neReach_any _ _ ts ls 0 _ ND.rd HOK.out.t16 HOK.out.one (fun a b h => (HOK.out.edge h).2)
    rw [show ((0 : Nat) : Int) = 0 from rfl] at hnx
    have HNX := Lib.hid hnx
    clear hnx
    have K1 : Hid (∀ w2 : World, Below w1.drew.heap.size w1.drew w2 → w2.cell? ⟨w.heap.size, 0, none⟩ = some (.slice a0 n p0) ∧ w2.cell? ⟨w.heap.size, 1, none⟩ = some (.slice a1 m p1)) := Lib.hid fun w2 hb => ⟨(ND.next hb).b0, (ND.next hb).b1⟩
    go_wp2_with fail
    go_region_held3 (fun w' => w'.cell? ⟨w.heap.size, 0, none⟩ = some (.slice a0 n p0) ∧ w'.cell? ⟨w.heap.size, 1, none⟩ = some (.slice a1 m p1))
      (first | go_keep | exact K1.out _ hb2)
      (first | (go_at_call 59; (with_reducible refine (HNX.out).mono ?_); rintro e w2 ⟨v1, rfl, ho1, hb2⟩; obtain ⟨ad1, cap1, hv1⟩ := ho1.rd.len; rw [HL.out] at hv1; subst hv1))
    have N2 := ND.next hb2
    by_cases he : r = n
    · have HE := Lib.hid he
      have hd : ((r : Int) == (n : Int)) = true := by rw [beq_iff_eq]; omega
      clear he
      go_wp2
      go_ret2
      exact ⟨by rw [HF.out]; simp [HE.out], N2.below⟩
    · have HE := Lib.hid he
      have hd : ((r : Int) == (n : Int)) = false := by simp; omega
      clear he
      go_wp2
      go_ret2
      exact ⟨by rw [HF.out]; simp [HE.out] <;> (have := HE.out; omega), N2.below⟩

set_option maxRecDepth 100000 in
set_option maxHeartbeats 1000000 in
theorem implIsJoined_any (c0 c1 : Value) (ts ls : List T3) (w : World) (hr : RdN w c0 c1 ts ls) :
    Calls Try.prog 29 #[.agg #[c0, c1]] w fun e w' => e = .returned (.tuple #[.bool (jnB ts ls), .bool (netB ts ls)]) ∧ Below w.heap.size w w' := by
  have hm0 : (ts.length : Int) ≤ 9223372036854775807 := by have := hr.1.max; unfold maxLen at this; omega
  have hm1 : (ls.length : Int) ≤ 9223372036854775807 := by have := hr.2.max; unfold maxLen at this; omega
  obtain ⟨a0, p0, rfl, hp0⟩ := hr.1.len
  obtain ⟨a1, p1, rfl, hp1⟩ := hr.2.len
  obtain ⟨n, hn⟩ : ∃ n, n = ts.length := ⟨_, rfl⟩
  obtain ⟨m, hm⟩ : ∃ m, m = ls.length := ⟨_, rfl⟩
  rw [← hn] at hm0 hr hp0
  rw [← hm] at hm1 hr hp1
  rw [← hn, ← hm]
  have HN := Lib.hid hn
  have HM := Lib.hid hm
  clear hn hm
  have N0 := NB.start hr 31
  have h0 := N0.b0
  have h1 := N0.b1
  have HR := Lib.hid hr
  clear hr
  have HRF := Lib.hid (implReachFrom_any _ _ ts ls 0 _ N0.rd)
  have HZ := Lib.hid (hasB_zero_eq ts ls)
  cases c0 : netB ts ls with
  | false =>
    have HF : Hid (jnB ts ls = false) := Lib.hid (by unfold jnB; rw [c0]; rfl)
    have H0 := Lib.hid (HZ.out.trans c0)
    clear c0
    go_enter Try.func29, Try.ntmps29
    go_wp2_with fail
    refine (HRF.out).mono ?_
    rintro e w1 ⟨v', rfl, ho, hb1⟩
    obtain ⟨ad1, cap1, rfl⟩ := ho.rd.len
    rw [H0.out]
    have N1 := N0.next hb1
    go_wp2
    go_ret2
    exact ⟨by rw [HF.out]; rfl, N1.below⟩
  | true =>
    have H0 := Lib.hid (HZ.out.trans c0)
    have HOK := Lib.hid (netB_iff.1 c0)
    have HRL := Lib.hid (rfL_yes (hasB_zero c0))
    obtain ⟨r, hr0⟩ : ∃ r, (rfL ts ls 0).length = r := ⟨_, rfl⟩
    have hrn : r ≤ 16 := by have := rfL_len ts ls 0; omega
    have HF : Hid (jnB ts ls = decide (r = n)) := Lib.hid (by unfold jnB; rw [c0, ← hr0, HN.out, HRL.out]; rfl)
    have HL := Lib.hid hr0
    clear c0 hr0
    go_enter Try.func29, Try.ntmps29
    go_wp2_with fail
    refine (HRF.out).mono ?_
    rintro e w1 ⟨v', rfl, ho, hb1⟩
    obtain ⟨ad1, cap1, hv1⟩ := ho.rd.len
    rw [HL.out] at hv1
    subst hv1
    rw [H0.out]
    have N1 := N0.next hb1
    have h0 := N1.b0
    have h1 := N1.b1
    by_cases he : r = n
    · have HE := Lib.hid he
      have hd : ((r : Int) == (n : Int)) = true := by rw [beq_iff_eq]; omega
      clear he
      go_wp2
      go_ret2
      exact ⟨by rw [HF.out]; simp [HE.out], N1.below⟩
    · have HE := Lib.hid he
      have hd : ((r : Int) == (n : Int)) = false := by simp; omega
      clear he
      go_wp2
      go_ret2
      exact ⟨by rw [HF.out]; simp [HE.out] <;> (have := HE.out; omega), N1.below⟩

end Go.Proofs.Yteickcpmicifgaa
