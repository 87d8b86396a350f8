/- Chapter 8: sets of sites one behind the other; covers counted by both sides. -/
import Derived.Test.YtpmdjdlojbpcfaaStW
namespace Go.Proofs.Ytpmdjdlojbpcfaa
open Go.RowKit
set_option linter.unusedSimpArgs false
set_option linter.unusedVariables false

theorem shl_i64 (m : Nat) (h : m ≤ 12) : wrap64 (2 ^ m) = ((2 ^ m : Nat) : Int) := by
  have h2 := two12 h
  rw [show ((2 : Int) ^ m) = ((2 ^ m : Nat) : Int) by simp]
  generalize 2 ^ m = x at *
  unfold wrap64
  omega
theorem stSet_any (s : Nat) (w : World) (hs : s < 4096) :
    Calls Try.prog 61 #[.int .i64 s] w fun e w' => ∃ v, e = .returned v ∧ Own w' w.heap.size v (nums s 12) ∧ Below w.heap.size w w' := by
  go_enter Try.func61, Try.ntmps61
  go_wp2
  go_loopw [3, 4] (fun v i wr => ∃ k : Nat, k ≤ 12 ∧ i = .int .i64 k ∧ Own wr w.heap.size v (nums s k) ∧ Below w.heap.size w wr) (fun _ i _ => 12 - (intOf i).toNat)
  case atStart => exact ⟨0, by omega, rfl, Own.nil _ _, Below.refl _ _⟩
  case round =>
    obtain ⟨k, hk, rfl, hown, hbel⟩ := hrel
    have hlen := nums_len s k
    obtain ⟨d, hd⟩ : ∃ d, d = s / 2 ^ k := ⟨_, rfl⟩
    have e1 : (s : Int) / 2 ^ k = (d : Int) := by rw [shr_bit, hd]
    have hds : d ≤ s := by rw [hd]; exact Nat.div_le_self _ _
    by_cases h0 : d = 0
    · have hlt : s < 2 ^ k := by
        rw [h0] at hd
        exact (Nat.div_eq_zero_iff_lt (Nat.two_pow_pos k)).1 hd.symm
      have HE : Hid (nums s k = nums s 12) := Lib.hid (nums_top hlt hk).symm
      have hpos : ¬ (0 : Int) < d := by omega
      clear hd h0 hlt
      go_wp2
      go_ret
      exact ⟨_, rfl, by rw [← HE.out]; exact hown, hbel⟩
    · have hpos : (0 : Int) < d := by omega
      have hk12 : k < 12 := by
        refine Nat.lt_of_not_le fun h12 => h0 ?_
        rw [hd]
        exact (Nat.div_eq_zero_iff_lt (Nat.two_pow_pos k)).2 (Nat.lt_of_lt_of_le hs (by have := Nat.pow_le_pow_right (n := 2) (by decide) h12; simpa using this))
      have hbit := bit_of s k
      rw [← hd] at hbit
      have e2 : bits BinOp.and IntKind.i64 (d : Int) 1 = ((d &&& 1 : Nat) : Int) := and_i64 d 1 (by omega) (by omega)
      rw [Nat.and_one_is_mod] at e2
      cases hb : s.testBit k with
      | true =>
        have hs := Lib.hid (nums_yes hb)
        rw [hb] at hbit
        have e3 : d % 2 = 1 := by simpa using hbit
        rw [e3] at e2
        have e4 : bits BinOp.and IntKind.i64 (d : Int) 1 = 1 := e2
        have hsz := hbel.size
        clear hb hbit e3 e2 hd h0
        go_wp2_with (at_builtin; refine append_int rfl _ _ rfl w.heap.size _ (nums s k) (k : Int) wr.heap.size rfl rfl (hown.alloc _) (new_cell _ _ _) (by omega) (by simp; omega) ?_; intro v' w1 hown1 hgrow1)
        go_roundw
        case rel => exact ⟨k + 1, by omega, by go_num, by rw [hs.out]; exact hown1, (hbel.alloc hsz _).grown hgrow1 (by simp; omega) (fun j hj => (hown.lt j hj).1)⟩
        case measure => simp [intOf]; omega
      | false =>
        have hs := Lib.hid (nums_no hb)
        rw [hb] at hbit
        have e3 : d % 2 = 0 := by have : ¬ d % 2 = 1 := by simpa using hbit
                                  omega
        rw [e3] at e2
        have e4 : bits BinOp.and IntKind.i64 (d : Int) 1 = 0 := e2
        clear hb hbit e3 e2 hd h0
        go_wp2
        go_roundw
        case rel => exact ⟨k + 1, by omega, by go_num, by rw [hs.out]; exact hown, hbel⟩
        case measure => simp [intOf]; omega
theorem stSet_m (s m : Nat) (w : World) (hm : m ≤ 12) (hs : s < 2 ^ m) :
    Calls Try.prog 61 #[.int .i64 s] w fun e w' => ∃ v, e = .returned v ∧ Own w' w.heap.size v (nums s m) ∧ Below w.heap.size w w' :=
  (stSet_any s w (Nat.lt_of_lt_of_le hs (two12 hm))).mono fun e w' ⟨v, he, ho, hb⟩ => ⟨v, he, by rw [← nums_top hs hm]; exact ho, hb⟩

/-- How many of the first q sets have k sites and cover. -/
def ccP (L : List (List Int)) (n m k s : Nat) : Bool := (nums s m).length == k && covB L n (nums s m) 1
def ccT (L : List (List Int)) (n m k q : Nat) : Nat := (List.range q).countP (ccP L n m k)
theorem ccT_yes {L : List (List Int)} {n m k q : Nat} (h : ccP L n m k q = true) : ccT L n m k (q + 1) = ccT L n m k q + 1 := by
  unfold ccT; rw [List.range_succ, List.countP_append]; simp [List.countP_cons, h]
theorem ccT_no {L : List (List Int)} {n m k q : Nat} (h : ccP L n m k q = false) : ccT L n m k (q + 1) = ccT L n m k q := by
  unfold ccT; rw [List.range_succ, List.countP_append]; simp [List.countP_cons, h]
theorem ccT_le (L : List (List Int)) (n m k q : Nat) : ccT L n m k q ≤ q := Nat.le_trans List.countP_le_length (by simp)
def ccA (L : List (List Int)) (n k : Int) : Bool := stB L n && inB k 0 12
def ccV (L : List (List Int)) (n k : Int) : Int := if ccA L n k then ccT L n.toNat L.length k.toNat (2 ^ L.length) else 0
theorem cc_no {L : List (List Int)} {n k : Int} (h : ccA L n k = false) : ccV L n k = 0 := by simp [ccV, h]
theorem cc_yes {L : List (List Int)} {n k : Int} (h : ccA L n k = true) : ccV L n k = ccT L n.toNat L.length k.toNat (2 ^ L.length) := by simp [ccV, h]

set_option maxRecDepth 100000 in
set_option maxHeartbeats 2000000 in
theorem specCountCovers_any (v : Value) (L : List (List Int)) (n k : Int) (w : World) (hr : RdJ w v L) :
    Calls Try.prog 42 #[v, .int .i64 n, .int .i64 k] w fun e w' => e = .returned (.tuple #[.int .i64 (ccV L n k), .bool (ccA L n k)]) ∧ Below w.heap.size w w' := by
  have C0 := Lib.hid (stGood_any v L n w hr)
  have C1 := Lib.hid (l1In_any k 0 12 w)
  cases hs : stB L n with
  | false =>
    have hf : Hid (ccA L n k = false) := Lib.hid (by simp [ccA, hs])
    rw [hs] at C0
    clear hs hr
    go_enter Try.func42, Try.ntmps42
    go_wp2_with fail
    refine C0.out.mono ?_
    rintro e w1 ⟨rfl, rfl⟩
    go_wp2
    go_ret2
    exact ⟨ret2i (cc_no hf.out).symm hf.out.symm, Below.refl _ _⟩
  | true =>
    rw [hs] at C0
    cases hk : inB k 0 12 with
    | false =>
      have hf : Hid (ccA L n k = false) := Lib.hid (by simp [ccA, hk])
      rw [hk] at C1
      clear hs hk hr
      go_enter Try.func42, Try.ntmps42
      go_wp2_with fail
      refine C0.out.mono ?_
      rintro e w1 ⟨rfl, rfl⟩
      go_wp2_with fail
      refine C1.out.mono ?_
      rintro e w1 ⟨rfl, rfl⟩
      go_wp2
      go_ret2
      exact ⟨ret2i (cc_no hf.out).symm hf.out.symm, Below.refl _ _⟩
    | true =>
      have hf : Hid (ccA L n k = true) := Lib.hid (by simp [ccA, hk, hs])
      rw [hk] at C1
      have hv := cc_yes hf.out
      obtain ⟨ok, hne⟩ := stB_iff.1 hs
      obtain ⟨N, hN⟩ : ∃ N, n.toNat = N := ⟨_, rfl⟩
      obtain ⟨K, hK⟩ : ∃ K, k.toNat = K := ⟨_, rfl⟩
      have hke : k = (K : Int) := by have := inB_iff.1 hk; omega
      rw [hN] at ok hne hv
      rw [hK] at hv
      subst hne hke
      have OK := Lib.hid ok
      have HR := Lib.hid hr
      have hm2 := ok.m2
      obtain ⟨a, cap, rfl, -⟩ := hr.len
      obtain ⟨m, hme⟩ : ∃ m, m = L.length := ⟨_, rfl⟩
      have e1 := shl_i64 m (by omega)
      rw [← hme] at hv hm2 C0 HR ⊢
      have HM := Lib.hid hme
      have HV := Lib.hid hv
      have hE := two12 hm2
      obtain ⟨E, hEe⟩ : ∃ E, E = 2 ^ m := ⟨_, rfl⟩
      rw [← hEe] at e1 hE HV
      have HE := Lib.hid hEe
      clear hs hk hr hN hK hv ok hme hEe
      go_enter Try.func42, Try.ntmps42
      go_wp2_with fail
      refine C0.out.mono ?_
      rintro e w1 ⟨rfl, rfl⟩
      go_wp2_with fail
      refine C1.out.mono ?_
      rintro e w1 ⟨rfl, rfl⟩
      go_wp2
      go_loopw [8, 9] (fun t i wr => ∃ q c : Nat, q ≤ E ∧ i = .int .i64 q ∧ t = .int .i64 c ∧ Hid (c = ccT L N m K q) ∧ Below w.heap.size w wr) (fun _ i _ => E - (intOf i).toNat)
      case atStart => exact ⟨0, 0, Nat.zero_le _, rfl, rfl, Lib.hid (by simp [ccT]), Below.refl _ _⟩
      case round =>
        obtain ⟨q, c, hq, rfl, rfl, hc, hb⟩ := hrel
        have hcq : c ≤ q := by rw [hc.out]; exact ccT_le _ _ _ _ _
        by_cases hlt : q < E
        · go_wp2_with fail
          refine (stSet_m q m _ hm2 (by rw [← HE.out]; exact hlt)).mono ?_
          rintro e w2 ⟨v2, rfl, ho2, hb2⟩
          have hB2 := hb.trans (hb2.mono hb.size)
          have C3 := Lib.hid (stCovers_any _ v2 L N (nums q m) 1 w2 OK.out (by rw [← HM.out]; exact nums_ris q m) (HR.out.below hB2 (Nat.le_refl _)) ho2.rd)
          obtain ⟨a2, c2, rfl⟩ := ho2.rd.len
          have hl2 := nums_len q m
          by_cases hlk : (nums q m).length = K
          · cases hcv : covB L N (nums q m) 1 with
            | true =>
              have hc' : Hid (c + 1 = ccT L N m K (q + 1)) := Lib.hid (by rw [ccT_yes (by simp [ccP, hlk, hcv]), hc.out])
              rw [hcv] at C3
              have hbe : (((nums q m).length : Int) == (K : Int)) = true := by simp [hlk]
              clear ho2 hcv hlk
              generalize (nums q m).length = y at *
              go_wp2_with fail
              refine C3.out.mono ?_
              rintro e w3 ⟨rfl, hb3⟩
              go_wp2
              go_roundw
              case rel => exact ⟨q + 1, c + 1, by omega, by go_num, by go_num, hc', hB2.trans (hb3.mono hB2.size)⟩
              case measure => simp [intOf]; omega
            | false =>
              have hc' : Hid (c = ccT L N m K (q + 1)) := Lib.hid (by rw [ccT_no (by simp [ccP, hcv]), hc.out])
              rw [hcv] at C3
              have hbe : (((nums q m).length : Int) == (K : Int)) = true := by simp [hlk]
              clear ho2 hcv hlk
              generalize (nums q m).length = y at *
              go_wp2_with fail
              refine C3.out.mono ?_
              rintro e w3 ⟨rfl, hb3⟩
              go_wp2
              go_roundw
              case rel => exact ⟨q + 1, c, by omega, by go_num, rfl, hc', hB2.trans (hb3.mono hB2.size)⟩
              case measure => simp [intOf]; omega
          · have hc' : Hid (c = ccT L N m K (q + 1)) := Lib.hid (by rw [ccT_no (by simp [ccP, hlk]), hc.out])
            have hbe : (((nums q m).length : Int) == (K : Int)) = false := by rw [beq_eq_false_iff_ne]; omega
            clear ho2 hlk C3
            generalize (nums q m).length = y at *
            go_wp2
            go_roundw
            case rel => exact ⟨q + 1, c, by omega, by go_num, rfl, hc', hB2⟩
            case measure => simp [intOf]; omega
        · obtain rfl : q = E := by omega
          have hf' : Hid ((c : Int) = ccV L (N : Int) (K : Int)) := Lib.hid (by rw [HV.out, ← hc.out])
          go_wp2
          go_ret2
          exact ⟨ret2i hf'.out hf.out.symm, hb⟩

theorem covered1_any (u : Value) (L : List (List Int)) (n s : Nat) (w : World) (ok : StOk L n) (hs : s < 65536) (hr : RdV w u L) :
    Calls Try.prog 58 #[.agg #[.int .u64 ((2 ^ n - 1 : Nat) : Int), u], .int .u64 s, .int .i64 1] w fun e w' => e = .returned (.bool (covB L n (nums s L.length) 1)) ∧ Below w.heap.size w w' :=
  isCovered_any u L n s 1 w ok hs (.inl rfl) hr
theorem pop_len {s m : Nat} (hm : m ≤ 12) (hs : s < 2 ^ m) : popN s 16 = (nums s m).length := by unfold popN; rw [nums_top hs (by omega)]
theorem wrapE (m : Nat) (hm : m ≤ 12) : IntKind.u64.wrap (((2 ^ m - 1 : Nat) : Int) + 1) = ((2 ^ m : Nat) : Int) := by
  have h2 := two12 hm
  have h0 := Nat.two_pow_pos m
  generalize 2 ^ m = x at *
  rw [show ((x - 1 : Nat) : Int) + 1 = ((x : Nat) : Int) by omega]
  exact wrapU _ (by omega)
set_option maxRecDepth 100000 in
set_option maxHeartbeats 2000000 in
theorem implCountCovers_any (v : Value) (L : List (List Int)) (n k : Int) (w : World) (hr : RdJ w v L) :
    Calls Try.prog 41 #[v, .int .i64 n, .int .i64 k] w fun e w' => e = .returned (.tuple #[.int .i64 (ccV L n k), .bool (ccA L n k)]) ∧ Below w.heap.size w w' := by
  have C0 := Lib.hid (implAreSites_any v L n w hr)
  cases hs : stB L n with
  | false =>
    have hf : Hid (ccA L n k = false) := Lib.hid (by simp [ccA, hs])
    rw [hs] at C0
    clear hs hr
    go_enter Try.func41, Try.ntmps41
    go_wp2_with fail
    refine C0.out.mono ?_
    rintro e w1 ⟨rfl, hb1⟩
    go_wp2
    go_ret2
    exact ⟨ret2i (cc_no hf.out).symm hf.out.symm, hb1⟩
  | true =>
    rw [hs] at C0
    by_cases hk0 : k < 0
    · have hf : Hid (ccA L n k = false) := Lib.hid (by simp [ccA, inB_no (n := k) (lo := 0) (hi := 12) (by omega)])
      clear hs hr
      go_enter Try.func41, Try.ntmps41
      go_wp2_with fail
      refine C0.out.mono ?_
      rintro e w1 ⟨rfl, hb1⟩
      go_wp2
      go_ret2
      exact ⟨ret2i (cc_no hf.out).symm hf.out.symm, hb1⟩
    · by_cases hk1 : 12 < k
      · have hf : Hid (ccA L n k = false) := Lib.hid (by simp [ccA, inB_no (n := k) (lo := 0) (hi := 12) (by omega)])
        clear hs hr
        go_enter Try.func41, Try.ntmps41
        go_wp2_with fail
        refine C0.out.mono ?_
        rintro e w1 ⟨rfl, hb1⟩
        go_wp2
        go_ret2
        exact ⟨ret2i (cc_no hf.out).symm hf.out.symm, hb1⟩
      · have hf : Hid (ccA L n k = true) := Lib.hid (by simp [ccA, hs, inB_yes (n := k) (lo := 0) (hi := 12) (by omega) (by omega)])
        have hv := cc_yes hf.out
        obtain ⟨ok, hne⟩ := stB_iff.1 hs
        obtain ⟨N, hN⟩ : ∃ N, n.toNat = N := ⟨_, rfl⟩
        obtain ⟨K, hK⟩ : ∃ K, k.toNat = K := ⟨_, rfl⟩
        have hke : k = (K : Int) := by omega
        rw [hN] at ok hne hv
        rw [hK] at hv
        subst hne hke
        have OK := Lib.hid ok
        have HR := Lib.hid hr
        have hm2 := ok.m2
        obtain ⟨a, cap, rfl, -⟩ := hr.len
        obtain ⟨m, hme⟩ : ∃ m, m = L.length := ⟨_, rfl⟩
        have e1 := wrapE m (by omega)
        rw [← hme] at hv hm2 C0 HR ⊢
        have HA := fun W => Lib.hid (allBelow_any m W (by omega))
        have HM := Lib.hid hme
        have HV := Lib.hid hv
        have hE := two12 hm2
        obtain ⟨E1, hE1e⟩ : ∃ E1, E1 = 2 ^ m - 1 := ⟨_, rfl⟩
        rw [← hE1e] at e1
        simp only [← hE1e] at HA
        obtain ⟨E, hEe⟩ : ∃ E, E = 2 ^ m := ⟨_, rfl⟩
        rw [← hEe] at e1 hE HV
        have HE := Lib.hid hEe
        clear hs hr hN hK hv ok hme hEe hE1e
        go_enter Try.func41, Try.ntmps41
        go_wp2_with fail
        refine C0.out.mono ?_
        rintro e w1 ⟨rfl, hb1⟩
        go_wp2_with fail
        refine (outlookOf_any _ L N _ OK.out (HR.out.later hb1)).mono ?_
        rintro e w2 ⟨uv, rfl, hv, hb2⟩
        have hB2 := hb1.trans (hb2.mono hb1.size)
        obtain ⟨au, cu, rfl⟩ := hv.len
        have hbx := Var2.new w2 (.int .u64 ((2 ^ N - 1 : Nat) : Int)) (.slice au L.length cu) 65
        have hal := (Below.refl w2.heap.size w2).alloc (Nat.le_refl _) (.cells #[.int .u64 ((2 ^ N - 1 : Nat) : Int), .slice au L.length cu] 65)
        have HRV := Lib.hid (hv.later hal)
        have hB3 := hB2.trans (hal.mono hB2.size)
        have hSL : Hid (∀ (s : Nat) W, s < 65536 → RdV W (.slice au L.length cu) L → Calls Try.prog 58 #[.agg #[.int .u64 ((2 ^ N - 1 : Nat) : Int), .slice au L.length cu], .int .u64 s, .int .i64 1] W fun e w' => e = .returned (.bool (covB L N (nums s L.length) 1)) ∧ Below W.heap.size W w') := Lib.hid fun s W hs h => covered1_any _ L N s W OK.out hs h
        clear hv hal
        rw [← HM.out] at hbx HRV hB3 hSL ⊢
        generalize 2 ^ N - 1 = P1 at *
        go_wp2_with (go_at_call 69; refine (HA _).out.mono ?_; rintro e w' ⟨rfl, rfl⟩)
        generalize w2.alloc (.cells #[.int .u64 P1, .slice au m cu] 65) = w3 at *
        go_loopw [9, 30] (fun t i wr => ∃ q c : Nat, q ≤ E ∧ i = .int .u64 q ∧ t = .int .i64 c ∧ Hid (c = ccT L N m K q) ∧ Below w3.heap.size w3 wr) (fun _ i _ => E - (intOf i).toNat)
        case atStart => exact ⟨0, 0, Nat.zero_le _, rfl, rfl, Lib.hid (by simp [ccT]), Below.refl _ _⟩
        case round =>
          obtain ⟨q, c, hq, rfl, rfl, hc, hb⟩ := hrel
          have hcq : c ≤ q := by rw [hc.out]; exact ccT_le _ _ _ _ _
          have hbxr := hbx.next hb
          have x0 := hbxr.c0
          have x1 := hbxr.c1
          by_cases hlt : q < E
          · have hpl := pop_len hm2 (by rw [← HE.out]; exact hlt)
            have C2 := fun W => Lib.hid (size_any q W (by omega))
            rw [hpl] at C2
            have hl2 := nums_len q m
            by_cases hlk : (nums q m).length = K
            · have C3 := Lib.hid (hSL.out q wr (by omega) (HRV.out.later hb))
              have hbe : (((nums q m).length : Int) == (K : Int)) = true := by simp [hlk]
              cases hcv : covB L N (nums q m) 1 with
              | true =>
                have hc' : Hid (c + 1 = ccT L N m K (q + 1)) := Lib.hid (by rw [ccT_yes (by simp [ccP, hlk, hcv]), hc.out])
                rw [hcv] at C3
                clear hcv hlk hpl
                generalize (nums q m).length = y at *
                go_wp2_with fail
                refine (C2 _).out.mono ?_
                rintro e w' ⟨rfl, rfl⟩
                go_wp2_with fail
                refine C3.out.mono ?_
                rintro e w4 ⟨rfl, hb4⟩
                go_wp2
                go_roundw
                case rel => exact ⟨q + 1, c + 1, by omega, by go_num, by go_num, hc', hb.trans (hb4.mono hb.size)⟩
                case measure => simp [intOf]; omega
              | false =>
                have hc' : Hid (c = ccT L N m K (q + 1)) := Lib.hid (by rw [ccT_no (by simp [ccP, hcv]), hc.out])
                rw [hcv] at C3
                clear hcv hlk hpl
                generalize (nums q m).length = y at *
                go_wp2_with fail
                refine (C2 _).out.mono ?_
                rintro e w' ⟨rfl, rfl⟩
                go_wp2_with fail
                refine C3.out.mono ?_
                rintro e w4 ⟨rfl, hb4⟩
                go_wp2
                go_roundw
                case rel => exact ⟨q + 1, c, by omega, by go_num, rfl, hc', hb.trans (hb4.mono hb.size)⟩
                case measure => simp [intOf]; omega
            · have hc' : Hid (c = ccT L N m K (q + 1)) := Lib.hid (by rw [ccT_no (by simp [ccP, hlk]), hc.out])
              have hbe : (((nums q m).length : Int) == (K : Int)) = false := by rw [beq_eq_false_iff_ne]; omega
              clear hlk hpl
              generalize (nums q m).length = y at *
              go_wp2_with fail
              refine (C2 _).out.mono ?_
              rintro e w' ⟨rfl, rfl⟩
              go_wp2
              go_roundw
              case rel => exact ⟨q + 1, c, by omega, by go_num, rfl, hc', hb⟩
              case measure => simp [intOf]; omega
          · obtain rfl : q = E := by omega
            have hf' : Hid ((c : Int) = ccV L (N : Int) (K : Int)) := Lib.hid (by rw [HV.out, ← hc.out])
            have hB4 := hB3.trans (hb.mono hB3.size)
            go_wp2
            go_ret2
            exact ⟨ret2i hf'.out hf.out.symm, hB4⟩
end Go.Proofs.Ytpmdjdlojbpcfaa
