/- Texts of nets: by the model. Written by a generator of this claim's author. -/
import Derived.Test.YtfmmkiijohnbfaaDoorNt1
import Derived.Test.YtfmmkiijohnbfaaDoorNe6
namespace Go.Proofs.YtfmmkiijohnbfaaDoor
open Go.RowKit
set_option linter.unusedSimpArgs false
set_option linter.unusedVariables false

theorem tw_const : (⟨#[116, 111, 119, 101, 114, 32]⟩ : ByteArray) = twW ++ ⟨#[32]⟩ := by decide
theorem lk_const : (⟨#[108, 105, 110, 107, 32]⟩ : ByteArray) = lkW ++ ⟨#[32]⟩ := by decide
theorem neT_tow2 {ts ls : List T3} {k : Nat} (hk : k < ts.length) : neT ts ls (k + 1) = neT ts ls k ++ (⟨#[116, 111, 119, 101, 114, 32]⟩ ++ num3 (rAt ts k) ++ ⟨#[10]⟩) := by rw [neT_tow hk, tw_const]
theorem neT_lnk2 {ts ls : List T3} {n k : Nat} (hn : n = ts.length) : neT ts ls (n + k + 1) = neT ts ls (n + k) ++ (⟨#[108, 105, 110, 107, 32]⟩ ++ num3 (rAt ls k) ++ ⟨#[10]⟩) := by rw [neT_lnk hn, lk_const]
set_option maxRecDepth 100000 in
set_option maxHeartbeats 1600000 in
theorem neText_any (c0 c1 : Value) (ts ls : List T3) (w : World) (hr : RdN w c0 c1 ts ls) (hnet : netB ts ls = true) :
    Calls Tryd.prog 17 #[.agg #[c0, c1]] w fun e w' => e = .returned (.string (neT ts ls (ts.length + ls.length))) ∧ Below w.heap.size w w' := by
  have hsz : ∀ k, k ≤ ts.length + ls.length → (neT ts ls k).size ≤ 2000 := fun k hk => by
    have := neT_size hnet k hk
    have := (netB_iff.1 hnet).t16
    have := (netB_iff.1 hnet).l40
    omega
  have hsm : (∀ k, k < ts.length → smB (rAt ts k)) ∧ ∀ k, k < ls.length → smB (rAt ls k) := by
    constructor
    · intro k hk
      have := nd_small hnet (k := k) (by omega)
      unfold ndX at this; rw [if_pos hk] at this; exact this
    · intro k hk
      have := nd_small hnet (k := ts.length + k) (by omega)
      unfold ndX at this; rw [if_neg (by omega), show ts.length + k - ts.length = k by omega] at this; exact this
  have hl16 := (netB_iff.1 hnet).t16
  have hl40 := (netB_iff.1 hnet).l40
  obtain ⟨a0, p0, rfl, hc0⟩ := hr.1.len
  obtain ⟨a1, p1, rfl, hc1⟩ := hr.2.len
  obtain ⟨n, hn⟩ : ∃ n, n = ts.length := ⟨_, rfl⟩
  obtain ⟨m, hm⟩ : ∃ m, m = ls.length := ⟨_, rfl⟩
  have HN := Lib.hid hn
  have HM := Lib.hid hm
  have HSM := Lib.hid hsm
  have HSZ := Lib.hid hsz
  rw [← hn] at hc0 hr hl16
  rw [← hm] at hc1 hr hl40
  rw [← hn, ← hm]
  have N0 := NB.start hr 32
  clear hn hm hr hsz hsm hnet
  have h0 := N0.b0
  have h1 := N0.b1
  go_enter Tryd.func17, Tryd.ntmps17
  go_wp2_with fail
  go_loopw [3, 11] (fun s i wr => ∃ k : Nat, k ≤ n ∧ i = .int .i64 k ∧ s = .string (neT ts ls (k)) ∧ NB w wr a0 n p0 a1 m p1 ts ls) (fun s i wr => n - (intOf i).toNat)
  case atStart => exact ⟨0, Nat.zero_le _, rfl, rfl, N0⟩
  case round =>
    obtain ⟨k, hk, rfl, rfl, hN⟩ := hrel
    have h0 := hN.b0
    have h1 := hN.b1
    have hs0 := HSZ.out (k) (by rw [← HN.out, ← HM.out]; omega)
    by_cases hlt : k < n
    · obtain ⟨g, off, rfl, hg, q0, q1, q2⟩ := hN.rd.1.at3 (by first | exact HN.out | exact HM.out) k hlt
      have hx := HSM.out.1 k (by first | (rw [← HN.out]; exact hlt) | (rw [← HM.out]; exact hlt))
      have hst := Lib.hid (neT_tow2 (ts := ts) (ls := ls) (k := k) (by rw [← HN.out]; exact hlt))
      generalize neT ts ls (k) = S0 at *
      generalize rAt ts k = x at *
      have hns := num3_size hx
      have e1 : (⟨#[116, 111, 119, 101, 114, 32]⟩ : ByteArray).size = 6 := rfl
      have e2 : (⟨#[10]⟩ : ByteArray).size = 1 := rfl
      obtain ⟨LL, hLL⟩ : ∃ LL, LL = num3 x := ⟨_, rfl⟩
      have hq1 : ¬ 9223372036854775807 < (⟨#[116, 111, 119, 101, 114, 32]⟩ : ByteArray).size + LL.size := by rw [hLL]; omega
      have hq2 : ¬ 9223372036854775807 < (⟨#[116, 111, 119, 101, 114, 32]⟩ ++ LL : ByteArray).size + (⟨#[10]⟩ : ByteArray).size := by rw [ByteArray.size_append, hLL]; omega
      have hq3 : ¬ 9223372036854775807 < S0.size + (⟨#[116, 111, 119, 101, 114, 32]⟩ ++ LL ++ ⟨#[10]⟩ : ByteArray).size := by rw [ByteArray.size_append, ByteArray.size_append, hLL]; omega
      have hq1' : ¬ 9223372036854775807 < 6 + LL.size := by rw [hLL]; omega
      have hq2' : ¬ 9223372036854775807 < 6 + LL.size + 1 := by rw [hLL]; omega
      have hq3' : ¬ 9223372036854775807 < S0.size + (6 + LL.size + 1) := by rw [hLL]; omega
      have HLL := Lib.hid hLL
      have NX := hN.alloc (.cells #[.int .i64 x.x0, .int .i64 x.x1, .int .i64 x.x2] 69)
      have NY := NX.alloc (.cells #[.int .i64 x.x0, .int .i64 x.x1, .int .i64 x.x2] 3)
      have hR3 := Lib.hid (Rd_three (wr.alloc (.cells #[.int .i64 x.x0, .int .i64 x.x1, .int .i64 x.x2] 69)) x (wr.heap.size + 1) (by simp))
      have HC : Hid (∀ v, Rd ((wr.alloc (.cells #[.int .i64 x.x0, .int .i64 x.x1, .int .i64 x.x2] 69)).alloc (.cells #[.int .i64 x.x0, .int .i64 x.x1, .int .i64 x.x2] 3)) v (l3 x) → Calls Tryd.prog 38 #[v] ((wr.alloc (.cells #[.int .i64 x.x0, .int .i64 x.x1, .int .i64 x.x2] 69)).alloc (.cells #[.int .i64 x.x0, .int .i64 x.x1, .int .i64 x.x2] 3)) fun e w' => e = .returned (.string LL) ∧ Below ((wr.alloc (.cells #[.int .i64 x.x0, .int .i64 x.x1, .int .i64 x.x2] 69)).alloc (.cells #[.int .i64 x.x0, .int .i64 x.x1, .int .i64 x.x2] 3)).heap.size ((wr.alloc (.cells #[.int .i64 x.x0, .int .i64 x.x1, .int .i64 x.x2] 69)).alloc (.cells #[.int .i64 x.x0, .int .i64 x.x1, .int .i64 x.x2] 3)) w') := Lib.hid fun v h => by rw [HLL.out]; exact sgLine_three x hx _ v h
      rw [← hLL] at hst
      clear hLL hq1 hq2 hq3 e1 e2 hx hns
      go_wp2_with fail
      refine (HC.out _ hR3.out).mono ?_
      rintro e w1 ⟨rfl, hb1⟩
      have NZ := NY.next hb1
      go_wp2
      go_roundw
      case rel => exact ⟨k + 1, by omega, by go_num, by first | exact congrArg Value.string hst.out.symm | (rw [hst.out]), NZ⟩
      case measure => simp [intOf]; omega
    · obtain rfl : n = k := by omega
      have N1 := hN
      go_wp2_with fail
      go_loopw [3, 31] (fun s i wr => ∃ k : Nat, k ≤ m ∧ i = .int .i64 k ∧ s = .string (neT ts ls (n + k)) ∧ NB w wr a0 n p0 a1 m p1 ts ls) (fun s i wr => m - (intOf i).toNat)
      case atStart => exact ⟨0, Nat.zero_le _, rfl, rfl, hN⟩
      case round =>
        obtain ⟨k, hk, rfl, rfl, hN⟩ := hrel
        have h0 := hN.b0
        have h1 := hN.b1
        have hs0 := HSZ.out (n + k) (by rw [← HN.out, ← HM.out]; omega)
        by_cases hlt : k < m
        · obtain ⟨g, off, rfl, hg, q0, q1, q2⟩ := hN.rd.2.at3 (by first | exact HN.out | exact HM.out) k hlt
          have hx := HSM.out.2 k (by first | (rw [← HN.out]; exact hlt) | (rw [← HM.out]; exact hlt))
          have hst := Lib.hid (neT_lnk2 (ts := ts) (ls := ls) (k := k) HN.out)
          generalize neT ts ls (n + k) = S0 at *
          generalize rAt ls k = x at *
          have hns := num3_size hx
          have e1 : (⟨#[108, 105, 110, 107, 32]⟩ : ByteArray).size = 5 := rfl
          have e2 : (⟨#[10]⟩ : ByteArray).size = 1 := rfl
          obtain ⟨LL, hLL⟩ : ∃ LL, LL = num3 x := ⟨_, rfl⟩
          have hq1 : ¬ 9223372036854775807 < (⟨#[108, 105, 110, 107, 32]⟩ : ByteArray).size + LL.size := by rw [hLL]; omega
          have hq2 : ¬ 9223372036854775807 < (⟨#[108, 105, 110, 107, 32]⟩ ++ LL : ByteArray).size + (⟨#[10]⟩ : ByteArray).size := by rw [ByteArray.size_append, hLL]; omega
          have hq3 : ¬ 9223372036854775807 < S0.size + (⟨#[108, 105, 110, 107, 32]⟩ ++ LL ++ ⟨#[10]⟩ : ByteArray).size := by rw [ByteArray.size_append, ByteArray.size_append, hLL]; omega
          have hq1' : ¬ 9223372036854775807 < 5 + LL.size := by rw [hLL]; omega
          have hq2' : ¬ 9223372036854775807 < 5 + LL.size + 1 := by rw [hLL]; omega
          have hq3' : ¬ 9223372036854775807 < S0.size + (5 + LL.size + 1) := by rw [hLL]; omega
          have HLL := Lib.hid hLL
          have NX := hN.alloc (.cells #[.int .i64 x.x0, .int .i64 x.x1, .int .i64 x.x2] 71)
          have NY := NX.alloc (.cells #[.int .i64 x.x0, .int .i64 x.x1, .int .i64 x.x2] 3)
          have hR3 := Lib.hid (Rd_three (wr.alloc (.cells #[.int .i64 x.x0, .int .i64 x.x1, .int .i64 x.x2] 71)) x (wr.heap.size + 1) (by simp))
          have HC : Hid (∀ v, Rd ((wr.alloc (.cells #[.int .i64 x.x0, .int .i64 x.x1, .int .i64 x.x2] 71)).alloc (.cells #[.int .i64 x.x0, .int .i64 x.x1, .int .i64 x.x2] 3)) v (l3 x) → Calls Tryd.prog 38 #[v] ((wr.alloc (.cells #[.int .i64 x.x0, .int .i64 x.x1, .int .i64 x.x2] 71)).alloc (.cells #[.int .i64 x.x0, .int .i64 x.x1, .int .i64 x.x2] 3)) fun e w' => e = .returned (.string LL) ∧ Below ((wr.alloc (.cells #[.int .i64 x.x0, .int .i64 x.x1, .int .i64 x.x2] 71)).alloc (.cells #[.int .i64 x.x0, .int .i64 x.x1, .int .i64 x.x2] 3)).heap.size ((wr.alloc (.cells #[.int .i64 x.x0, .int .i64 x.x1, .int .i64 x.x2] 71)).alloc (.cells #[.int .i64 x.x0, .int .i64 x.x1, .int .i64 x.x2] 3)) w') := Lib.hid fun v h => by rw [HLL.out]; exact sgLine_three x hx _ v h
          rw [← hLL] at hst
          clear hLL hq1 hq2 hq3 e1 e2 hx hns
          go_wp2_with fail
          refine (HC.out _ hR3.out).mono ?_
          rintro e w1 ⟨rfl, hb1⟩
          have NZ := NY.next hb1
          go_wp2
          go_roundw
          case rel => exact ⟨k + 1, by omega, by go_num, by first | exact congrArg Value.string hst.out.symm | (rw [hst.out]), NZ⟩
          case measure => simp [intOf]; omega
        · obtain rfl : m = k := by omega
          go_wp2
          go_ret
          exact ⟨rfl, hN.below⟩

set_option maxRecDepth 100000 in
theorem specNetText_any (c0 c1 : Value) (ts ls : List T3) (w : World) (hr : RdN w c0 c1 ts ls) :
    Calls Tryd.prog 6 #[.agg #[c0, c1]] w fun e w' => e = .returned (.tuple #[.string (ntB ts ls), .bool (netB ts ls)]) ∧ Below w.heap.size w w' := by
  obtain ⟨a0, p0, rfl, hc0⟩ := hr.1.len
  obtain ⟨a1, p1, rfl, hc1⟩ := hr.2.len
  have N0 := NB.start hr 32
  have h0 := N0.b0
  have h1 := N0.b1
  clear hr
  go_enter Tryd.func6, Tryd.ntmps6
  go_wp2_with fail
  refine (neGood_any _ _ ts ls _ N0.rd).mono ?_
  rintro e w1 ⟨rfl, hb1⟩
  have N1 := N0.next hb1
  have h0 := N1.b0
  have h1 := N1.b1
  cases h : netB ts ls with
  | false =>
    go_wp2
    go_ret2
    exact ⟨by rw [ntB_no h, h]; rfl, N1.below⟩
  | true =>
    go_wp2_with fail
    refine (neText_any _ _ ts ls _ N1.rd h).mono ?_
    rintro e w2 ⟨rfl, hb2⟩
    have N2 := N1.next hb2
    go_wp2
    go_ret2
    exact ⟨by rw [ntB_yes h, h]; rfl, N2.below⟩
end Go.Proofs.YtfmmkiijohnbfaaDoor
