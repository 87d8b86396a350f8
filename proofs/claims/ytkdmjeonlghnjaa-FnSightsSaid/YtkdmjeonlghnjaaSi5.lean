/- Chapter 7: the box of a sight; the answers SeesAt, SightBounds, BlockedBy of both sides. Written by a generator of this claim's author. -/
import Derived.Test.YtkdmjeonlghnjaaSi4
namespace Go.Proofs.Ytkdmjeonlghnjaa
open Go.RowKit Go.Sort
set_option linter.unusedSimpArgs false
set_option linter.unusedVariables false

/-- A sight lies in block w.heap.size; its Grounds read as ts. -/
structure SB (w W : World) (D A B : Int) (a : Option Addr) (n p : Nat) (ts : List T2) : Prop where
  below : Below w.heap.size w W
  lt : w.heap.size < W.heap.size
  q0 : W.cell? ⟨w.heap.size, 0, none⟩ = some (.int .i64 D)
  q1 : W.cell? ⟨w.heap.size, 1, none⟩ = some (.int .i64 A)
  q2 : W.cell? ⟨w.heap.size, 2, none⟩ = some (.int .i64 B)
  q3 : W.cell? ⟨w.heap.size, 3, none⟩ = some (.slice a n p)
  rd : RdR c2 2 W (.slice a n p) ts
section
variable {w W W' : World} {D A B : Int} {a : Option Addr} {n p : Nat} {ts : List T2}
theorem SB.start (h : RdR c2 2 w (.slice a n p) ts) (t : TypeId) : SB w (w.alloc (.cells #[.int .i64 D, .int .i64 A, .int .i64 B, .slice a n p] t)) D A B a n p ts :=
  have hb := (Below.refl w.heap.size w).alloc (Nat.le_refl _) (.cells #[.int .i64 D, .int .i64 A, .int .i64 B, .slice a n p] t)
  ⟨hb, by simp, by simp [go_sem], by simp [go_sem], by simp [go_sem], by simp [go_sem], h.later hb⟩
theorem SB.nextB (h : SB w W D A B a n p ts) {C : Nat} (hb : Below C W W') (hC : w.heap.size < C) (hr : RdR c2 2 W' (.slice a n p) ts) : SB w W' D A B a n p ts :=
  ⟨h.below.trans (hb.mono (Nat.le_of_lt hC)), Nat.lt_of_lt_of_le h.lt hb.size, by rw [hb.cell (p := ⟨w.heap.size, 0, none⟩) hC]; exact h.q0, by rw [hb.cell (p := ⟨w.heap.size, 1, none⟩) hC]; exact h.q1, by rw [hb.cell (p := ⟨w.heap.size, 2, none⟩) hC]; exact h.q2, by rw [hb.cell (p := ⟨w.heap.size, 3, none⟩) hC]; exact h.q3, hr⟩
theorem SB.next (h : SB w W D A B a n p ts) (hb : Below W.heap.size W W') : SB w W' D A B a n p ts := h.nextB hb h.lt (h.rd.later hb)
theorem SB.alloc (h : SB w W D A B a n p ts) (o : Obj) : SB w (W.alloc o) D A B a n p ts := h.next ((Below.refl _ _).alloc (Nat.le_refl _) o)
theorem SB.drew (h : SB w W D A B a n p ts) : SB w W.drew D A B a n p ts := h.next (Below.refl _ _).drew
theorem SB.app {v : Value} {zs : List Int} (h : SB w W D A B a n p ts) (h0 : RdR c2 2 w (.slice a n p) ts) (ho : Own W (w.heap.size + 1) v zs) (hg : W.grownBy W' v.ownBlock) : SB w W' D A B a n p ts := by
  have hb : Below (w.heap.size + 1) W W' := (Below.refl _ _).grown hg h.lt (fun k hk => (ho.lt k hk).1)
  exact h.nextB hb (by omega) (h0.below (h.below.trans (hb.mono (by omega))) (Nat.le_refl _))
end
theorem isSight_b {b : Bool} (D A B : Int) (c : Value) (ts : List T2) (w : World) (hr : RdR c2 2 w c ts) (hb : sightB D A B ts = b) :
    Calls Try.prog 32 #[.agg #[.int .i64 D, .int .i64 A, .int .i64 B, c]] w fun e w' => e = .returned (.bool b) ∧ Below w.heap.size w w' := by subst hb; exact isSight_any _ _ _ _ _ _ hr
theorem siGood_b {b : Bool} (D A B : Int) (c : Value) (ts : List T2) (w : World) (hr : RdR c2 2 w c ts) (hb : sightB D A B ts = b) :
    Calls Try.prog 64 #[.agg #[.int .i64 D, .int .i64 A, .int .i64 B, c]] w fun e w' => e = .returned (.bool b) ∧ Below w.heap.size w w' := by subst hb; exact siGood_any _ _ _ _ _ _ hr
theorem askB_no1 {D A B n : Int} {ts : List T2} (h : sightB D A B ts = false) : askB D A B n ts = false := by unfold askB; rw [h]; rfl
theorem askB_no2 {D A B n : Int} {ts : List T2} (h : inB n 0 3 = false) : askB D A B n ts = false := by unfold askB; rw [h]; simp
theorem askB_yes {D A B n : Int} {ts : List T2} (h : sightB D A B ts = true) (h2 : inB n 0 3 = true) : askB D A B n ts = true := by unfold askB; rw [h, h2]; rfl
/-- The result of BlockedBy. -/
def bkR (D A B n : Int) (ts : List T2) : List Int := if askB D A B n ts then blkL D A B n ts else []
theorem bkR_yes {D A B n : Int} {ts : List T2} (h : askB D A B n ts = true) : bkR D A B n ts = blkL D A B n ts := by simp [bkR, h]
theorem bkR_no {D A B n : Int} {ts : List T2} (h : askB D A B n ts = false) : bkR D A B n ts = [] := by simp [bkR, h]
theorem bkR_len (D A B n : Int) (ts : List T2) : (bkR D A B n ts).length ≤ 20 := by
  unfold bkR
  split
  · rename_i h
    exact Nat.le_trans (blkT_len D A B n ts ts.length) (SiBn.ask h).l
  · simp
set_option maxRecDepth 100000 in
set_option maxHeartbeats 1000000 in
theorem siBlocked_any (D A B n : Int) (c : Value) (ts : List T2) (w : World) (h : SiBn D A B n ts) (hr : RdR c2 2 w c ts) :
    Calls Try.prog 58 #[.agg #[.int .i64 D, .int .i64 A, .int .i64 B, c], .int .i64 n] w fun e w' => ∃ v', e = .returned v' ∧ OwnI w' w.heap.size w'.heap.size v' (blkL D A B n ts) ∧ Below w.heap.size w w' := by
  have hm : (ts.length : Int) ≤ 9223372036854775807 := by have := hr.max; unfold maxLen at this; omega
  obtain ⟨a, p, rfl, -⟩ := hr.len
  obtain ⟨N, hn⟩ : ∃ N, N = ts.length := ⟨_, rfl⟩
  rw [← hn] at hm hr
  rw [← hn]
  have HN := Lib.hid hn
  clear hn
  have S0 := SB.start (D := D) (A := A) (B := B) hr 25
  have q0 := S0.q0
  have q1 := S0.q1
  have q2 := S0.q2
  have q3 := S0.q3
  have HR := Lib.hid hr
  have HB := Lib.hid h
  have hl := h.l
  rw [← HN.out] at hl
  clear hr h
  go_enter Try.func58, Try.ntmps58
  go_wp2
  go_loopw [5, 11] (fun o t wr => ∃ k : Nat, k ≤ N ∧ t = .int .i64 k ∧ Own wr (w.heap.size + 1) o (blkT D A B n ts k) ∧ SB w wr D A B a N p ts) (fun o t wr => N - (intOf t).toNat)
  case atStart => exact ⟨0, Nat.zero_le _, rfl, Own.nil _ _, S0⟩
  case round =>
    clear q0 q1 q2 q3 S0
    obtain ⟨k, hk, rfl, hown, SK⟩ := hrel
    have hlt0 := SK.lt
    have q0 := SK.q0
    have q1 := SK.q1
    have q2 := SK.q2
    have q3 := SK.q3
    by_cases hlt : k < N
    · obtain ⟨g, off, rfl, hg, x0, x1⟩ := SK.rd.at2 HN.out k hlt
      have HC := Lib.hid (HB.out.at_ (i := k) (by rw [← HN.out]; exact hlt))
      have hkl := blkT_len D A B n ts k
      have SA := SK.alloc (.cells #[.int .i64 (rAt ts k).x0, .int .i64 (rAt ts k).x1] 72)
      have hoA := hown.alloc (.cells #[.int .i64 (rAt ts k).x0, .int .i64 (rAt ts k).x1] 72)
      by_cases hs : ovr D A B n (rAt ts k) < 0
      · have E1 := Lib.hid (blkT_yes hs)
        obtain ⟨z, hz⟩ : ∃ z, ovr D A B n ⟨(rAt ts k).x0, (rAt ts k).x1⟩ = z := ⟨_, rfl⟩
        have hzn : z < 0 := by rw [← hz]; exact hs
        have HZ := Lib.hid hz
        clear hz hs
        go_wp2_with fail
        refine (siOver_any D A B n (rAt ts k).x0 (rAt ts k).x1 _ _ HC.out).mono ?_
        rintro e w1 ⟨rfl, hb1⟩
        rw [HZ.out]
        have ho1 := hoA.later hb1
        have S1 := SA.next hb1
        have hsz := S1.lt
        go_wp2_with (at_builtin; refine append_int rfl _ _ rfl (w.heap.size + 1) _ (blkT D A B n ts k) (k : Int) w1.heap.size rfl rfl (ho1.alloc _) (new_cell _ _ _) (by omega) (by simp; omega) ?_; intro v2 w2 ho2 hg2)
        go_roundw
        case rel => exact ⟨k + 1, by omega, by go_num, by rw [E1.out]; exact ho2, (S1.alloc _).app HR.out (ho1.alloc _) hg2⟩
        case measure => simp [intOf]; omega
      · have E1 := Lib.hid (blkT_no hs)
        obtain ⟨z, hz⟩ : ∃ z, ovr D A B n ⟨(rAt ts k).x0, (rAt ts k).x1⟩ = z := ⟨_, rfl⟩
        have hzn : ¬ z < 0 := by rw [← hz]; exact hs
        have HZ := Lib.hid hz
        clear hz hs
        go_wp2_with fail
        refine (siOver_any D A B n (rAt ts k).x0 (rAt ts k).x1 _ _ HC.out).mono ?_
        rintro e w1 ⟨rfl, hb1⟩
        rw [HZ.out]
        have ho1 := hoA.later hb1
        have S1 := SA.next hb1
        go_wp2
        go_roundw
        case rel => exact ⟨k + 1, by omega, by go_num, by rw [E1.out]; exact ho1, S1⟩
        case measure => simp [intOf]; omega
    · obtain rfl : k = N := by omega
      go_wp2
      go_ret
      exact ⟨_, rfl, by rw [show blkL D A B n ts = blkT D A B n ts k by unfold blkL; rw [← HN.out]]; exact ⟨hown.base (by omega), fun j hj => (hown.lt j hj).2⟩, SK.below⟩

theorem siSees_any (D A B n : Int) (c : Value) (ts : List T2) (w : World) (h : SiBn D A B n ts) (hr : RdR c2 2 w c ts) :
    Calls Try.prog 56 #[.agg #[.int .i64 D, .int .i64 A, .int .i64 B, c], .int .i64 n] w fun e w' => e = .returned (.bool (seesB D A B n ts)) ∧ Below w.heap.size w w' := by
  have hm : (ts.length : Int) ≤ 9223372036854775807 := by have := hr.max; unfold maxLen at this; omega
  obtain ⟨a, p, rfl, -⟩ := hr.len
  obtain ⟨N, hn⟩ : ∃ N, N = ts.length := ⟨_, rfl⟩
  rw [← hn] at hm hr
  rw [← hn]
  have HN := Lib.hid hn
  clear hn
  have S0 := SB.start (D := D) (A := A) (B := B) hr 25
  have q0 := S0.q0
  have q1 := S0.q1
  have q2 := S0.q2
  have q3 := S0.q3
  go_enter Try.func56, Try.ntmps56
  go_wp2_with fail
  refine (siBlocked_any D A B n _ ts _ h S0.rd).mono ?_
  rintro e w1 ⟨v, rfl, ho, hb1⟩
  have S1 := S0.next hb1
  have HS := Lib.hid (seesB_blk D A B n ts)
  have hbl := blkT_len D A B n ts ts.length
  have hl := h.l
  obtain ⟨av, cv, rfl, -⟩ := ho.rd.len
  obtain ⟨m, hm'⟩ : ∃ m, m = (blkL D A B n ts).length := ⟨_, rfl⟩
  have hml : m ≤ 20 := by rw [hm']; unfold blkL; omega
  have HM := Lib.hid hm'
  rw [← hm']
  clear ho hm' hbl
  go_wp2
  go_ret
  exact ⟨ret_bool (by first | (rw [HS.out, ← HM.out]; done) | (rw [HS.out, ← HM.out]; exact decide_eq_decide.2 (by omega))), S1.below⟩

set_option maxRecDepth 100000 in
set_option maxHeartbeats 1000000 in
theorem specSeesAt_any (D A B n : Int) (c : Value) (ts : List T2) (w : World) (hr : RdR c2 2 w c ts) :
    Calls Try.prog 17 #[.agg #[.int .i64 D, .int .i64 A, .int .i64 B, c], .int .i64 n] w fun e w' => e = .returned (.tuple #[.bool (askB D A B n ts && seesB D A B n ts), .bool (askB D A B n ts)]) ∧ Below w.heap.size w w' := by
  have hm : (ts.length : Int) ≤ 9223372036854775807 := by have := hr.max; unfold maxLen at this; omega
  obtain ⟨a, p, rfl, -⟩ := hr.len
  obtain ⟨N, hn⟩ : ∃ N, N = ts.length := ⟨_, rfl⟩
  rw [← hn] at hm hr
  rw [← hn]
  have HN := Lib.hid hn
  clear hn
  have S0 := SB.start (D := D) (A := A) (B := B) hr 25
  have q0 := S0.q0
  have q1 := S0.q1
  have q2 := S0.q2
  have q3 := S0.q3
  cases hq : askB D A B n ts with
  | false =>
    have HQ := Lib.hid hq
    clear hq
    go_enter Try.func17, Try.ntmps17
    go_wp2_with fail
    refine (siAsked_b D A B n _ ts _ S0.rd HQ.out).mono ?_
    rintro e w1 ⟨rfl, hb1⟩
    have S1 := S0.next hb1
    go_wp2
    go_ret2
    exact ⟨by first | rfl | (rw [HQ.out] <;> rfl), S1.below⟩
  | true =>
    have HQ := Lib.hid hq
    have HB := Lib.hid (SiBn.ask hq)
    clear hq
    go_enter Try.func17, Try.ntmps17
    go_wp2_with fail
    refine (siAsked_b D A B n _ ts _ S0.rd HQ.out).mono ?_
    rintro e w1 ⟨rfl, hb1⟩
    have S1 := S0.next hb1
    have q0 := S1.q0
    have q1 := S1.q1
    have q2 := S1.q2
    have q3 := S1.q3
    go_wp2_with fail
    refine (siSees_any D A B n _ ts _ HB.out S1.rd).mono ?_
    rintro e w2 ⟨rfl, hb2⟩
    have S2 := S1.next hb2
    go_wp2
    go_ret2
    exact ⟨by first | rfl | (rw [HQ.out] <;> rfl), S2.below⟩

set_option maxRecDepth 100000 in
set_option maxHeartbeats 1000000 in
theorem implSeesAt_any (D A B n : Int) (c : Value) (ts : List T2) (w : World) (hr : RdR c2 2 w c ts) :
    Calls Try.prog 16 #[.agg #[.int .i64 D, .int .i64 A, .int .i64 B, c], .int .i64 n] w fun e w' => e = .returned (.tuple #[.bool (askB D A B n ts && seesB D A B n ts), .bool (askB D A B n ts)]) ∧ Below w.heap.size w w' := by
  have hm : (ts.length : Int) ≤ 9223372036854775807 := by have := hr.max; unfold maxLen at this; omega
  obtain ⟨a, p, rfl, -⟩ := hr.len
  obtain ⟨N, hn⟩ : ∃ N, N = ts.length := ⟨_, rfl⟩
  rw [← hn] at hm hr
  rw [← hn]
  have HN := Lib.hid hn
  clear hn
  have S0 := SB.start (D := D) (A := A) (B := B) hr 25
  have q0 := S0.q0
  have q1 := S0.q1
  have q2 := S0.q2
  have q3 := S0.q3
  cases hq : sightB D A B ts with
  | false =>
    have HQ := Lib.hid (askB_no1 (n := n) hq)
    have HS := Lib.hid hq
    clear hq
    go_enter Try.func16, Try.ntmps16
    go_wp2_with fail
    refine (isSight_b D A B _ ts _ S0.rd HS.out).mono ?_
    rintro e w1 ⟨rfl, hb1⟩
    have S1 := S0.next hb1
    go_wp2
    go_ret2
    exact ⟨by first | rfl | (rw [HQ.out] <;> rfl), S1.below⟩
  | true =>
    have HS := Lib.hid hq
    clear hq
    cases hq : inB n 0 3 with
    | false =>
      have HQ := Lib.hid (askB_no2 (D := D) (A := A) (B := B) (ts := ts) hq)
      have HI := Lib.hid hq
      clear hq
      go_enter Try.func16, Try.ntmps16
      go_wp2_with fail
      refine (isSight_b D A B _ ts _ S0.rd HS.out).mono ?_
      rintro e w1 ⟨rfl, hb1⟩
      have S1 := S0.next hb1
      have q0 := S1.q0
      have q1 := S1.q1
      have q2 := S1.q2
      have q3 := S1.q3
      go_wp2_with fail
      refine (isRefraction_b n _ HI.out).mono ?_
      rintro e w' ⟨rfl, rfl⟩
      go_wp2
      go_ret2
      exact ⟨by first | rfl | (rw [HQ.out] <;> rfl), S1.below⟩
    | true =>
      have HQ := Lib.hid (askB_yes HS.out hq)
      have HB := Lib.hid (SiBn.ask HQ.out)
      have HI := Lib.hid hq
      clear hq
      go_enter Try.func16, Try.ntmps16
      go_wp2_with fail
      refine (isSight_b D A B _ ts _ S0.rd HS.out).mono ?_
      rintro e w1 ⟨rfl, hb1⟩
      have S1 := S0.next hb1
      have q0 := S1.q0
      have q1 := S1.q1
      have q2 := S1.q2
      have q3 := S1.q3
      go_wp2_with fail
      refine (isRefraction_b n _ HI.out).mono ?_
      rintro e w' ⟨rfl, rfl⟩
      go_wp2_with fail
      refine (isClear_any D A B n _ ts _ HB.out S1.rd).mono ?_
      rintro e w2 ⟨rfl, hb2⟩
      have S2 := S1.next hb2
      go_wp2
      go_ret2
      exact ⟨by first | rfl | (rw [HQ.out] <;> rfl), S2.below⟩

set_option maxRecDepth 100000 in
set_option maxHeartbeats 1000000 in
theorem specBlockedBy_any (D A B n : Int) (c : Value) (ts : List T2) (w : World) (hr : RdR c2 2 w c ts) :
    Calls Try.prog 19 #[.agg #[.int .i64 D, .int .i64 A, .int .i64 B, c], .int .i64 n] w fun e w' => ∃ v', e = .returned (.tuple #[v', .bool (askB D A B n ts)]) ∧ OwnI w' w.heap.size w'.heap.size v' (bkR D A B n ts) ∧ Below w.heap.size w w' := by
  have hm : (ts.length : Int) ≤ 9223372036854775807 := by have := hr.max; unfold maxLen at this; omega
  obtain ⟨a, p, rfl, -⟩ := hr.len
  obtain ⟨N, hn⟩ : ∃ N, N = ts.length := ⟨_, rfl⟩
  rw [← hn] at hm hr
  rw [← hn]
  have HN := Lib.hid hn
  clear hn
  have S0 := SB.start (D := D) (A := A) (B := B) hr 25
  have q0 := S0.q0
  have q1 := S0.q1
  have q2 := S0.q2
  have q3 := S0.q3
  cases hq : askB D A B n ts with
  | false =>
    have HQ := Lib.hid hq
    clear hq
    go_enter Try.func19, Try.ntmps19
    go_wp2_with fail
    refine (siAsked_b D A B n _ ts _ S0.rd HQ.out).mono ?_
    rintro e w1 ⟨rfl, hb1⟩
    have S1 := S0.next hb1
    have HF := Lib.hid (bkR_no HQ.out)
    go_wp2
    go_ret2
    exact ⟨_, by first | rfl | (rw [HQ.out] <;> rfl), by rw [HF.out]; exact OwnI.nil _ _ _, S1.below⟩
  | true =>
    have HQ := Lib.hid hq
    have HB := Lib.hid (SiBn.ask hq)
    clear hq
    go_enter Try.func19, Try.ntmps19
    go_wp2_with fail
    refine (siAsked_b D A B n _ ts _ S0.rd HQ.out).mono ?_
    rintro e w1 ⟨rfl, hb1⟩
    have S1 := S0.next hb1
    have q0 := S1.q0
    have q1 := S1.q1
    have q2 := S1.q2
    have q3 := S1.q3
    have HF := Lib.hid (bkR_yes HQ.out)
    go_wp2_with fail
    refine (siBlocked_any D A B n _ ts _ HB.out S1.rd).mono ?_
    rintro e w2 ⟨v, rfl, ho, hb2⟩
    have S2 := S1.next hb2
    have hlo := S1.lt
    go_wp2
    go_ret2
    exact ⟨_, by first | rfl | (rw [HQ.out] <;> rfl), by rw [HF.out]; exact ho.wide (by omega) (Nat.le_refl _), S2.below⟩

set_option maxRecDepth 100000 in
set_option maxHeartbeats 1000000 in
theorem implBlockedBy_any (D A B n : Int) (c : Value) (ts : List T2) (w : World) (hr : RdR c2 2 w c ts) :
    Calls Try.prog 18 #[.agg #[.int .i64 D, .int .i64 A, .int .i64 B, c], .int .i64 n] w fun e w' => ∃ v', e = .returned (.tuple #[v', .bool (askB D A B n ts)]) ∧ OwnI w' w.heap.size w'.heap.size v' (bkR D A B n ts) ∧ Below w.heap.size w w' := by
  have hm : (ts.length : Int) ≤ 9223372036854775807 := by have := hr.max; unfold maxLen at this; omega
  obtain ⟨a, p, rfl, -⟩ := hr.len
  obtain ⟨N, hn⟩ : ∃ N, N = ts.length := ⟨_, rfl⟩
  rw [← hn] at hm hr
  rw [← hn]
  have HN := Lib.hid hn
  clear hn
  have S0 := SB.start (D := D) (A := A) (B := B) hr 25
  have q0 := S0.q0
  have q1 := S0.q1
  have q2 := S0.q2
  have q3 := S0.q3
  cases hq : sightB D A B ts with
  | false =>
    have HQ := Lib.hid (askB_no1 (n := n) hq)
    have HS := Lib.hid hq
    clear hq
    go_enter Try.func18, Try.ntmps18
    go_wp2_with fail
    refine (isSight_b D A B _ ts _ S0.rd HS.out).mono ?_
    rintro e w1 ⟨rfl, hb1⟩
    have S1 := S0.next hb1
    have HF := Lib.hid (bkR_no HQ.out)
    go_wp2
    go_ret2
    exact ⟨_, by first | rfl | (rw [HQ.out] <;> rfl), by rw [HF.out]; exact OwnI.nil _ _ _, S1.below⟩
  | true =>
    have HS := Lib.hid hq
    clear hq
    cases hq : inB n 0 3 with
    | false =>
      have HQ := Lib.hid (askB_no2 (D := D) (A := A) (B := B) (ts := ts) hq)
      have HI := Lib.hid hq
      clear hq
      go_enter Try.func18, Try.ntmps18
      go_wp2_with fail
      refine (isSight_b D A B _ ts _ S0.rd HS.out).mono ?_
      rintro e w1 ⟨rfl, hb1⟩
      have S1 := S0.next hb1
      have q0 := S1.q0
      have q1 := S1.q1
      have q2 := S1.q2
      have q3 := S1.q3
      go_wp2_with fail
      refine (isRefraction_b n _ HI.out).mono ?_
      rintro e w' ⟨rfl, rfl⟩
      have HF := Lib.hid (bkR_no HQ.out)
      go_wp2
      go_ret2
      exact ⟨_, by first | rfl | (rw [HQ.out] <;> rfl), by rw [HF.out]; exact OwnI.nil _ _ _, S1.below⟩
    | true =>
      have HQ := Lib.hid (askB_yes HS.out hq)
      have HB := Lib.hid (SiBn.ask HQ.out)
      have HI := Lib.hid hq
      clear hq
      go_enter Try.func18, Try.ntmps18
      go_wp2_with fail
      refine (isSight_b D A B _ ts _ S0.rd HS.out).mono ?_
      rintro e w1 ⟨rfl, hb1⟩
      have S1 := S0.next hb1
      have q0 := S1.q0
      have q1 := S1.q1
      have q2 := S1.q2
      have q3 := S1.q3
      go_wp2_with fail
      refine (isRefraction_b n _ HI.out).mono ?_
      rintro e w' ⟨rfl, rfl⟩
      have HF := Lib.hid (bkR_yes HQ.out)
      have HR := Lib.hid hr
      clear hr
      have hl := HB.out.l
      rw [← HN.out] at hl
      go_wp2
      go_loopw [6, 20] (fun o t wr => ∃ k : Nat, k ≤ N ∧ t = .int .i64 k ∧ Own wr (w.heap.size + 1) o (blkT D A B n ts k) ∧ SB w wr D A B a N p ts) (fun o t wr => N - (intOf t).toNat)
      case atStart => exact ⟨0, Nat.zero_le _, rfl, Own.nil _ _, S1⟩
      case round =>
        clear q0 q1 q2 q3 S0 S1 hb1
        obtain ⟨k, hk, rfl, hown, SK⟩ := hrel
        have hlt0 := SK.lt
        have q0 := SK.q0
        have q1 := SK.q1
        have q2 := SK.q2
        have q3 := SK.q3
        by_cases hlt : k < N
        · obtain ⟨g, off, rfl, hg, x0, x1⟩ := SK.rd.at2 HN.out k hlt
          have HC := Lib.hid (HB.out.at_ (i := k) (by rw [← HN.out]; exact hlt))
          have hkl := blkT_len D A B n ts k
          have SA := SK.alloc (.cells #[.int .i64 (rAt ts k).x0, .int .i64 (rAt ts k).x1] 72)
          have hoA := hown.alloc (.cells #[.int .i64 (rAt ts k).x0, .int .i64 (rAt ts k).x1] 72)
          by_cases hs : ovr D A B n (rAt ts k) < 0
          · have E1 := Lib.hid (blkT_yes hs)
            obtain ⟨z, hz⟩ : ∃ z, ovr D A B n ⟨(rAt ts k).x0, (rAt ts k).x1⟩ = z := ⟨_, rfl⟩
            have hzn : z < 0 := by rw [← hz]; exact hs
            have HZ := Lib.hid hz
            clear hz hs
            go_wp2_with fail
            refine (roomAbove_any D A B n (rAt ts k).x0 (rAt ts k).x1 _ _ HC.out).mono ?_
            rintro e w1 ⟨rfl, hb1⟩
            rw [HZ.out]
            have ho1 := hoA.later hb1
            have S1 := SA.next hb1
            have hsz := S1.lt
            go_wp2_with (at_builtin; refine append_int rfl _ _ rfl (w.heap.size + 1) _ (blkT D A B n ts k) (k : Int) w1.heap.size rfl rfl (ho1.alloc _) (new_cell _ _ _) (by omega) (by simp; omega) ?_; intro v2 w2 ho2 hg2)
            go_roundw
            case rel => exact ⟨k + 1, by omega, by go_num, by rw [E1.out]; exact ho2, (S1.alloc _).app HR.out (ho1.alloc _) hg2⟩
            case measure => simp [intOf]; omega
          · have E1 := Lib.hid (blkT_no hs)
            obtain ⟨z, hz⟩ : ∃ z, ovr D A B n ⟨(rAt ts k).x0, (rAt ts k).x1⟩ = z := ⟨_, rfl⟩
            have hzn : ¬ z < 0 := by rw [← hz]; exact hs
            have HZ := Lib.hid hz
            clear hz hs
            go_wp2_with fail
            refine (roomAbove_any D A B n (rAt ts k).x0 (rAt ts k).x1 _ _ HC.out).mono ?_
            rintro e w1 ⟨rfl, hb1⟩
            rw [HZ.out]
            have ho1 := hoA.later hb1
            have S1 := SA.next hb1
            go_wp2
            go_roundw
            case rel => exact ⟨k + 1, by omega, by go_num, by rw [E1.out]; exact ho1, S1⟩
            case measure => simp [intOf]; omega
        · obtain rfl : k = N := by omega
          go_wp2
          go_ret2
          exact ⟨_, by first | rfl | (rw [HQ.out] <;> rfl), by rw [HF.out, show blkL D A B n ts = blkT D A B n ts k by unfold blkL; rw [← HN.out]]; exact ⟨hown.base (by omega), fun j hj => (hown.lt j hj).2⟩, SK.below⟩

theorem siSees_g (D A B n : Int) (c : Value) (ts : List T2) (w : World) (h : SiBn D A B n ts) (hr : RdR c2 2 w c ts) : ∀ d os, Calls Try.prog 56 #[.agg #[.int .i64 D, .int .i64 A, .int .i64 B, c], .int .i64 n] (grow (redrawn w d) os) fun e w'' => e = .returned (.bool (seesB D A B n ts)) ∧ ∃ p : Regrown, w'' = grow (redrawn w p.d) p.os :=
  fun d os => Calls.regrown_of (siSees_any D A B n c ts _ h (hr.later (below_regrown w d os)))
set_option maxRecDepth 100000 in
set_option maxHeartbeats 1000000 in
theorem specSightBounds_any (D A B : Int) (c : Value) (ts : List T2) (w : World) (hr : RdR c2 2 w c ts) :
    Calls Try.prog 24 #[.agg #[.int .i64 D, .int .i64 A, .int .i64 B, c]] w fun e w' => e = .returned (.tuple #[.bool (sightB D A B ts && seesB D A B 0 ts), .bool (sightB D A B ts && seesB D A B 3 ts), .bool (sightB D A B ts)]) ∧ Below w.heap.size w w' := by
  have hm : (ts.length : Int) ≤ 9223372036854775807 := by have := hr.max; unfold maxLen at this; omega
  obtain ⟨a, p, rfl, -⟩ := hr.len
  obtain ⟨N, hn⟩ : ∃ N, N = ts.length := ⟨_, rfl⟩
  rw [← hn] at hm hr
  rw [← hn]
  have HN := Lib.hid hn
  clear hn
  have S0 := SB.start (D := D) (A := A) (B := B) hr 25
  have q0 := S0.q0
  have q1 := S0.q1
  have q2 := S0.q2
  have q3 := S0.q3
  cases hq : sightB D A B ts with
  | false =>
    have HQ := Lib.hid hq
    clear hq
    go_enter Try.func24, Try.ntmps24
    go_wp2_with fail
    refine (siGood_b D A B _ ts _ S0.rd HQ.out).mono ?_
    rintro e w1 ⟨rfl, hb1⟩
    have S1 := S0.next hb1
    go_wp2
    go_ret3
    exact ⟨by first | rfl | (rw [HQ.out] <;> rfl), S1.below⟩
  | true =>
    have HQ := Lib.hid hq
    have HB0 := SiBn.of (n := 0) hq (by decide) (by decide)
    have HB3 := SiBn.of (n := 3) hq (by decide) (by decide)
    clear hq
    go_enter Try.func24, Try.ntmps24
    go_wp2_with fail
    refine (siGood_b D A B _ ts _ S0.rd HQ.out).mono ?_
    rintro e w1 ⟨rfl, hb1⟩
    have S1 := S0.next hb1
    have K0 := cell_regrown S1.q0
    have K1 := cell_regrown S1.q1
    have K2 := cell_regrown S1.q2
    have K3 := cell_regrown S1.q3
    have C0 := siSees_g D A B 0 _ ts _ HB0 S1.rd
    have C1 := siSees_g D A B 3 _ ts _ HB3 S1.rd
    have hB := S1.below
    clear q0 q1 q2 q3 S0 S1 HB0 HB3
    go_wp2_with fail
    refine wp_region_quiet_below (by kernel_rfl) (by kernel_rfl) ?_
    repeat (go_big_quiet_step (first | (with_reducible exact C0 _ _) | (with_reducible exact C1 _ _)))
    refine wpQuiet_nil ?_
    intro _ hw'
    obtain ⟨⟨dq, osq⟩, hw''⟩ := hw'
    subst hw''
    have hb3 := hB.trans ((below_regrown w1 dq osq).mono hB.size)
    go_wp2
    go_ret3
    exact ⟨by first | rfl | (rw [HQ.out] <;> rfl), hb3⟩

theorem isClear_g (D A B n : Int) (c : Value) (ts : List T2) (w : World) (h : SiBn D A B n ts) (hr : RdR c2 2 w c ts) : ∀ d os, Calls Try.prog 54 #[.agg #[.int .i64 D, .int .i64 A, .int .i64 B, c], .int .i64 n] (grow (redrawn w d) os) fun e w'' => e = .returned (.bool (seesB D A B n ts)) ∧ ∃ p : Regrown, w'' = grow (redrawn w p.d) p.os :=
  fun d os => Calls.regrown_of (isClear_any D A B n c ts _ h (hr.later (below_regrown w d os)))
set_option maxRecDepth 100000 in
set_option maxHeartbeats 1000000 in
theorem implSightBounds_any (D A B : Int) (c : Value) (ts : List T2) (w : World) (hr : RdR c2 2 w c ts) :
    Calls Try.prog 23 #[.agg #[.int .i64 D, .int .i64 A, .int .i64 B, c]] w fun e w' => e = .returned (.tuple #[.bool (sightB D A B ts && seesB D A B 0 ts), .bool (sightB D A B ts && seesB D A B 3 ts), .bool (sightB D A B ts)]) ∧ Below w.heap.size w w' := by
  have hm : (ts.length : Int) ≤ 9223372036854775807 := by have := hr.max; unfold maxLen at this; omega
  obtain ⟨a, p, rfl, -⟩ := hr.len
  obtain ⟨N, hn⟩ : ∃ N, N = ts.length := ⟨_, rfl⟩
  rw [← hn] at hm hr
  rw [← hn]
  have HN := Lib.hid hn
  clear hn
  have S0 := SB.start (D := D) (A := A) (B := B) hr 25
  have q0 := S0.q0
  have q1 := S0.q1
  have q2 := S0.q2
  have q3 := S0.q3
  cases hq : sightB D A B ts with
  | false =>
    have HQ := Lib.hid hq
    clear hq
    go_enter Try.func23, Try.ntmps23
    go_wp2_with fail
    refine (isSight_b D A B _ ts _ S0.rd HQ.out).mono ?_
    rintro e w1 ⟨rfl, hb1⟩
    have S1 := S0.next hb1
    go_wp2
    go_ret3
    exact ⟨by first | rfl | (rw [HQ.out] <;> rfl), S1.below⟩
  | true =>
    have HQ := Lib.hid hq
    have HB0 := SiBn.of (n := 0) hq (by decide) (by decide)
    have HB3 := SiBn.of (n := 3) hq (by decide) (by decide)
    clear hq
    go_enter Try.func23, Try.ntmps23
    go_wp2_with fail
    refine (isSight_b D A B _ ts _ S0.rd HQ.out).mono ?_
    rintro e w1 ⟨rfl, hb1⟩
    have S1 := S0.next hb1
    have K0 := cell_regrown S1.q0
    have K1 := cell_regrown S1.q1
    have K2 := cell_regrown S1.q2
    have K3 := cell_regrown S1.q3
    have C0 := isClear_g D A B 0 _ ts _ HB0 S1.rd
    have C1 := isClear_g D A B 3 _ ts _ HB3 S1.rd
    have hB := S1.below
    clear q0 q1 q2 q3 S0 S1 HB0 HB3
    go_wp2_with fail
    refine wp_region_quiet_below (by kernel_rfl) (by kernel_rfl) ?_
    repeat (go_big_quiet_step (first | (with_reducible exact C0 _ _) | (with_reducible exact C1 _ _)))
    refine wpQuiet_nil ?_
    intro _ hw'
    obtain ⟨⟨dq, osq⟩, hw''⟩ := hw'
    subst hw''
    have hb3 := hB.trans ((below_regrown w1 dq osq).mono hB.size)
    go_wp2
    go_ret3
    exact ⟨by first | rfl | (rw [HQ.out] <;> rfl), hb3⟩
end Go.Proofs.Ytkdmjeonlghnjaa
