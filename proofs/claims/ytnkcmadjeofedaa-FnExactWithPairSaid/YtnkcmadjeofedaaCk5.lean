/- Chapter 5: signals that differ in one shutter. -/
import Derived.Test.YtnkcmadjeofedaaCk4
namespace Go.Proofs.Ytnkcmadjeofedaa
open Go.RowKit
set_option linter.unusedSimpArgs false
set_option linter.unusedVariables false

theorem all64 {P : Int → Prop} (h : ∀ k : Fin 64, P (k.val : Int)) (a : Int) (h0 : 0 ≤ a) (h1 : a ≤ 63) : P a := by
  have := h ⟨a.toNat, by omega⟩
  simpa [Int.toNat_of_nonneg h0] using this

/-- Is shutter i closed in n? -/
def clB (n i : Int) : Bool := n / 2 ^ i.toNat % 2 == 1
def shutTo (n : Int) (k : Nat) : List Int := ((List.range k).map fun i : Nat => (i : Int)).filter fun i => clB n i
def shut (n : Int) : List Int := shutTo n 6
theorem shutTo_yes (n : Int) (k : Nat) (h : clB n k = true) : shutTo n (k + 1) = shutTo n k ++ [(k : Int)] := by
  simp [shutTo, List.range_succ, h]
theorem shutTo_no (n : Int) (k : Nat) (h : clB n k = false) : shutTo n (k + 1) = shutTo n k := by
  simp [shutTo, List.range_succ, h]
theorem shutTo_len (n : Int) (k : Nat) : (shutTo n k).length ≤ k := by
  unfold shutTo; exact Nat.le_trans (List.length_filter_le _ _) (by simp)
theorem shut_len (n : Int) : (shut n).length ≤ 6 := shutTo_len n 6
def dist (a b : Int) : Int := (shut (bits BinOp.xor IntKind.i64 a b)).length
theorem xor_range (a b : Int) (a0 : 0 ≤ a) (a1 : a ≤ 63) (b0 : 0 ≤ b) (b1 : b ≤ 63) : 0 ≤ bits BinOp.xor IntKind.i64 a b ∧ bits BinOp.xor IntKind.i64 a b ≤ 63 :=
  all64 (P := fun a => 0 ≤ bits BinOp.xor IntKind.i64 a b ∧ bits BinOp.xor IntKind.i64 a b ≤ 63)
    (fun k => all64 (P := fun b => 0 ≤ bits BinOp.xor IntKind.i64 (k.val : Int) b ∧ bits BinOp.xor IntKind.i64 (k.val : Int) b ≤ 63) (by revert k; decide +kernel) b b0 b1) a a0 a1
theorem dist_bd (a b : Int) : 0 ≤ dist a b ∧ dist a b ≤ 6 := by
  have := shut_len (bits BinOp.xor IntKind.i64 a b); unfold dist; omega
theorem and_one (E : Int) (h0 : 0 ≤ E) (h1 : E ≤ 63) : bits BinOp.and IntKind.i64 E 1 = E % 2 :=
  all64 (P := fun E => bits BinOp.and IntKind.i64 E 1 = E % 2) (by decide +kernel) E h0 h1
theorem div_range (n i : Int) (h0 : 0 ≤ n) (h1 : n ≤ 63) : 0 ≤ n / 2 ^ i.toNat ∧ n / 2 ^ i.toNat ≤ 63 := by
  have hp : (0 : Int) < 2 ^ i.toNat := Int.pow_pos (by decide)
  exact ⟨Int.ediv_nonneg h0 (Int.le_of_lt hp), Int.le_trans (Int.ediv_le_self _ h0) h1⟩

theorem ones_any (n : Int) (w : World) (h0 : 0 ≤ n) (h1 : n ≤ 63) :
    Calls Try.prog 51 #[.int .u64 n] w fun e w' => e = .returned (.int .i64 (shut n).length) ∧ w = w' := by
  go_enter Try.func51, Try.ntmps51
  go_wp2
  go_ret
  refine ⟨ret_int ?_, rfl⟩
  rename_i h
  clear h
  revert n
  apply all64
  decide +kernel
theorem countChanged_any (a b : Int) (w : World) (a0 : 0 ≤ a) (a1 : a ≤ 63) (b0 : 0 ≤ b) (b1 : b ≤ 63) :
    Calls Try.prog 47 #[.int .i64 a, .int .i64 b] w fun e w' => e = .returned (.int .i64 (dist a b)) ∧ w = w' := by
  have x0 := (xor_range a b a0 a1 b0 b1).1
  have x1 := (xor_range a b a0 a1 b0 b1).2
  go_enter Try.func47, Try.ntmps47
  go_wp2_with (go_at_call 51; refine (ones_any _ _ (by omega) (by omega)).mono ?_; rintro e w' ⟨rfl, rfl⟩)
  go_ret
  exact ⟨rfl, rfl⟩


/-- A signal with one shutter changed. -/
def shX (x : Int) (i : Nat) : Int := bits BinOp.xor IntKind.i64 x (wrap64 (2 ^ i))
def wTo (x : Int) : Nat → List Int
  | 0 => []
  | i + 1 => if inB (shX x i) 1 61 then putL (wTo x i) (shX x i) else wTo x i
theorem wTo_yes {x : Int} {i : Nat} (h : inB (shX x i) 1 61 = true) : wTo x (i + 1) = putL (wTo x i) (shX x i) := by simp [wTo, h]
theorem wTo_no {x : Int} {i : Nat} (h : inB (shX x i) 1 61 = false) : wTo x (i + 1) = wTo x i := by simp [wTo, h]
theorem wTo_len (x : Int) (i : Nat) : (wTo x i).length ≤ i := by
  induction i with
  | zero => simp [wTo]
  | succ i ih =>
    unfold wTo
    split
    · have := putL_len (wTo x i) (shX x i); omega
    · omega
def wrTo (x : Int) (j : Nat) : List Int := ((List.range j).map fun i : Nat => (i : Int) + 1).filter fun n => dist n x == 1
theorem wrTo_yes {x : Int} {j : Nat} (h : (dist ((j : Int) + 1) x == 1) = true) : wrTo x (j + 1) = wrTo x j ++ [(j : Int) + 1] := by
  simp [wrTo, List.range_succ, h]
theorem wrTo_no {x : Int} {j : Nat} (h : (dist ((j : Int) + 1) x == 1) = false) : wrTo x (j + 1) = wrTo x j := by
  simp [wrTo, List.range_succ, h]
theorem wrTo_len (x : Int) (j : Nat) : (wrTo x j).length ≤ j := Nat.le_trans (List.length_filter_le _ _) (by simp)
theorem wr_eq (x : Int) (h0 : 0 ≤ x) (h1 : x ≤ 63) : wTo x 6 = wrTo x 61 := all64 (P := fun x => wTo x 6 = wrTo x 61) (by decide +kernel) x h0 h1
def wsL (zs : List Int) (k : Int) : List Int := if hasB2 zs k then wTo (nth zs k.toNat) 6 else []
theorem wsL_yes {zs : List Int} {k : Int} (h : hasB2 zs k = true) : wsL zs k = wTo (nth zs k.toNat) 6 := by simp [wsL, h]
theorem wsL_no {zs : List Int} {k : Int} (h : hasB2 zs k = false) : wsL zs k = [] := by simp [wsL, h]
theorem wsL_len (zs : List Int) (k : Int) : (wsL zs k).length ≤ 6 := by
  unfold wsL
  split
  · exact wTo_len _ _
  · simp
theorem l1Put_own (B : Nat) (v : Value) (zs : List Int) (n : Int) (w : World) (hlen : zs.length ≤ 1048576) (hB : B ≤ w.heap.size) (ho : Own w B v zs) :
    Calls Try.prog 46 #[v, .int .i64 n] w fun e w' => ∃ v', e = .returned v' ∧ Own w' B v' (putL zs n) ∧ Below w.heap.size w w' := by
  refine (l1Put_any v zs n w hlen ho.rdc).mono ?_
  rintro e w1 ⟨v1, rfl, h, hb⟩
  rcases h with ⟨rfl, h⟩ | ⟨h, ho'⟩
  · exact ⟨_, rfl, by rw [putL_has h]; exact ho.later hb, hb⟩
  · exact ⟨_, rfl, by rw [putL_not h]; exact ho'.base hB, hb⟩

set_option maxRecDepth 100000 in
set_option maxHeartbeats 1000000 in
theorem specWrong_any (v : Value) (zs : List Int) (k : Int) (w : World) (hr : Rd w v zs) :
    Calls Try.prog 29 #[v, .int .i64 k] w fun e w' => ∃ v', e = .returned (.tuple #[v', .bool (hasB2 zs k)]) ∧ OwnI w' w.heap.size w'.heap.size v' (wsL zs k) ∧ Below w.heap.size w w' := by
  have hm := hr.max
  unfold maxLen at hm
  obtain ⟨a, cap, hv⟩ := hr.len
  have HR := Lib.hid hr
  clear hr
  subst hv
  cases hc : hasB2 zs k with
  | false =>
    go_enter Try.func29, Try.ntmps29
    go_wp2_with (first
      | (go_at_call 40; refine (ckHas_any _ zs _ _ HR.out).mono ?_; rintro e w' ⟨rfl, rfl⟩))
    go_ret2
    exact ⟨_, rfl, by rw [wsL_no hc]; exact (Own.nil _ _).iv, Below.refl _ _⟩
  | true =>
    obtain ⟨hw, k0, k1⟩ := hasB2_yes hc
    obtain ⟨K, rfl⟩ : ∃ K : Nat, k = (K : Int) := ⟨k.toNat, by omega⟩
    have hK : K < zs.length := by omega
    obtain ⟨gz, oz, ea, hgz, qK⟩ := HR.out.at_ rfl K hK
    subst ea
    have hz := ckB_get hw K hK
    have eK : ((K : Int)).toNat = K := by simp
    have hfin := wsL_yes hc
    rw [eK] at hfin
    obtain ⟨x, hx⟩ : ∃ x, x = nth zs K := ⟨_, rfl⟩
    have hxx : zs[K]?.getD 0 = x := hx.symm
    rw [hxx] at qK
    rw [← hx] at hz hfin
    have HF := Lib.hid hfin
    have hib := inB_yes k0 (show (K : Int) ≤ (zs.length : Int) - 1 by omega)
    clear hx hxx hfin eK
    have hxr : ∀ i : Nat, i < 6 → 0 ≤ shX x i ∧ shX x i ≤ 63 := fun i hi => by
      have e : 0 ≤ wrap64 (2 ^ i) ∧ wrap64 (2 ^ i) ≤ 63 := by
        match i, hi with
        | 0, _ => decide +kernel
        | 1, _ => decide +kernel
        | 2, _ => decide +kernel
        | 3, _ => decide +kernel
        | 4, _ => decide +kernel
        | 5, _ => decide +kernel
      exact xor_range x _ (by omega) (by omega) e.1 e.2
    go_enter Try.func29, Try.ntmps29
    go_wp2_with (first
      | (go_at_call 40; refine (ckHas_any _ zs _ _ HR.out).mono ?_; rintro e w' ⟨rfl, rfl⟩))
    go_loopw [6, 7] (fun u i wr => ∃ j : Nat, j ≤ 6 ∧ i = .int .i64 j ∧ Own wr w.heap.size u (wTo x j) ∧ Below w.heap.size w wr) (fun u i wr => 6 - (intOf i).toNat)
    case atStart => exact ⟨0, by omega, rfl, Own.nil _ _, Below.refl _ _⟩
    case round =>
      obtain ⟨j, hj, rfl, hown, hbl⟩ := hrel
      have hlen := wTo_len x j
      have hsz := hbl.size
      by_cases hlt : j < 6
      · have q : wr.cell? ⟨gz, oz + K, none⟩ = some (.int .i64 x) := by rw [hbl.cell (p := ⟨gz, oz + K, none⟩) hgz]; exact qK
        obtain ⟨x0, x1⟩ := hxr j hlt
        cases hb : inB (shX x j) 1 61 with
        | true =>
          have hs := Lib.hid (wTo_yes hb)
          have hb' : inB (bits BinOp.xor IntKind.i64 x (wrap64 (2 ^ j))) 1 61 = true := hb
          go_wp2_with (first
            | (go_at_call 45; refine (l1In_any _ _ _ _).mono ?_; rintro e w' ⟨rfl, rfl⟩)
            | (go_at_call 46; refine (l1Put_own w.heap.size _ (wTo x j) _ _ (by omega) hsz hown).mono ?_; rintro e w1 ⟨v1, rfl, ho1, hb1⟩))
          go_roundw
          case rel => exact ⟨j + 1, by omega, by go_num, by rw [hs.out]; exact ho1, hbl.trans (hb1.mono hsz)⟩
          case measure => simp [intOf]; omega
        | false =>
          have hs := Lib.hid (wTo_no hb)
          have hb' : inB (bits BinOp.xor IntKind.i64 x (wrap64 (2 ^ j))) 1 61 = false := hb
          go_wp2_with (first
            | (go_at_call 45; refine (l1In_any _ _ _ _).mono ?_; rintro e w' ⟨rfl, rfl⟩))
          go_roundw
          case rel => exact ⟨j + 1, by omega, by go_num, by rw [hs.out]; exact hown, hbl⟩
          case measure => simp [intOf]; omega
      · obtain rfl : j = 6 := by omega
        go_wp2
        go_ret2
        exact ⟨_, rfl, by rw [HF.out]; exact hown.iv, hbl⟩

set_option maxRecDepth 100000 in
set_option maxHeartbeats 1000000 in
theorem implWrong_any (v : Value) (zs : List Int) (k : Int) (w : World) (hr : Rd w v zs) :
    Calls Try.prog 30 #[v, .int .i64 k] w fun e w' => ∃ v', e = .returned (.tuple #[v', .bool (hasB2 zs k)]) ∧ OwnI w' w.heap.size w'.heap.size v' (wsL zs k) ∧ Below w.heap.size w w' := by
  have hm := hr.max
  unfold maxLen at hm
  obtain ⟨a, cap, hv⟩ := hr.len
  have HR := Lib.hid hr
  clear hr
  subst hv
  cases hc : hasB2 zs k with
  | false =>
    cases hw : ckB 50 zs with
    | false =>
      go_enter Try.func30, Try.ntmps30
      go_wp2_with (first
        | (go_at_call 34; refine (isCheckedWord_any _ zs _ HR.out).mono ?_; rintro e w' ⟨rfl, rfl⟩))
      go_ret2
      exact ⟨_, rfl, by rw [wsL_no hc]; exact (Own.nil _ _).iv, Below.refl _ _⟩
    | true =>
      have hib : inB k 0 ((zs.length : Int) - 1) = false := by simpa [hasB2, hw] using hc
      go_enter Try.func30, Try.ntmps30
      go_wp2_with (first
        | (go_at_call 34; refine (isCheckedWord_any _ zs _ HR.out).mono ?_; rintro e w' ⟨rfl, rfl⟩)
        | (go_at_call 41; refine (isIndexOf_any _ zs _ _ HR.out).mono ?_; rintro e w' ⟨rfl, rfl⟩))
      go_ret2
      exact ⟨_, rfl, by rw [wsL_no hc]; exact (Own.nil _ _).iv, Below.refl _ _⟩
  | true =>
    obtain ⟨hw, k0, k1⟩ := hasB2_yes hc
    obtain ⟨K, rfl⟩ : ∃ K : Nat, k = (K : Int) := ⟨k.toNat, by omega⟩
    have hK : K < zs.length := by omega
    obtain ⟨gz, oz, ea, hgz, qK⟩ := HR.out.at_ rfl K hK
    subst ea
    have hz := ckB_get hw K hK
    have eK : ((K : Int)).toNat = K := by simp
    have hfin := wsL_yes hc
    rw [eK] at hfin
    obtain ⟨x, hx⟩ : ∃ x, x = nth zs K := ⟨_, rfl⟩
    have hxx : zs[K]?.getD 0 = x := hx.symm
    rw [hxx] at qK
    rw [← hx] at hz hfin
    have HF := Lib.hid hfin
    have hib := inB_yes k0 (show (K : Int) ≤ (zs.length : Int) - 1 by omega)
    clear hx hxx hfin eK
    have HW6 := Lib.hid (wr_eq x (by omega) (by omega))
    go_enter Try.func30, Try.ntmps30
    go_wp2_with (first
      | (go_at_call 34; refine (isCheckedWord_any _ zs _ HR.out).mono ?_; rintro e w' ⟨rfl, rfl⟩)
      | (go_at_call 41; refine (isIndexOf_any _ zs _ _ HR.out).mono ?_; rintro e w' ⟨rfl, rfl⟩))
    go_loopw [6, 7] (fun u i wr => ∃ j : Nat, j ≤ 61 ∧ i = .int .i64 ((j : Int) + 1) ∧ Own wr w.heap.size u (wrTo x j) ∧ Below w.heap.size w wr) (fun u i wr => 62 - (intOf i).toNat)
    case atStart => exact ⟨0, by omega, rfl, Own.nil _ _, Below.refl _ _⟩
    case round =>
      obtain ⟨j, hj, rfl, hown, hbl⟩ := hrel
      have hlen := wrTo_len x j
      have hsz := hbl.size
      by_cases hlt : j < 61
      · have q : wr.cell? ⟨gz, oz + K, none⟩ = some (.int .i64 x) := by rw [hbl.cell (p := ⟨gz, oz + K, none⟩) hgz]; exact qK
        have h2 := dist_bd ((j : Int) + 1) x
        cases hb : dist ((j : Int) + 1) x == 1 with
        | true =>
          have hs := Lib.hid (wrTo_yes hb)
          go_wp2_with (first
            | (go_at_call 47; refine (countChanged_any _ _ _ (by omega) (by omega) (by omega) (by omega)).mono ?_; rintro e w' ⟨rfl, rfl⟩)
            | (at_builtin; refine append_int rfl _ _ rfl w.heap.size _ (wrTo x j) ((j : Int) + 1) wr.heap.size rfl rfl (hown.alloc _) (new_cell _ _ _) (by omega) (by simp; omega) ?_; intro v' w1 hown1 hgrow1))
          go_roundw
          case rel => exact ⟨j + 1, by omega, by go_num, by rw [hs.out]; exact hown1, (hbl.alloc hsz _).grown hgrow1 (by simp; omega) (fun i hi => (hown.lt i hi).1)⟩
          case measure => simp [intOf]; omega
        | false =>
          have hs := Lib.hid (wrTo_no hb)
          go_wp2_with (first
            | (go_at_call 47; refine (countChanged_any _ _ _ (by omega) (by omega) (by omega) (by omega)).mono ?_; rintro e w' ⟨rfl, rfl⟩))
          go_roundw
          case rel => exact ⟨j + 1, by omega, by go_num, by rw [hs.out]; exact hown, hbl⟩
          case measure => simp [intOf]; omega
      · obtain rfl : j = 61 := by omega
        go_wp2
        go_ret2
        exact ⟨_, rfl, by rw [HF.out, HW6.out]; exact hown.iv, hbl⟩
end Go.Proofs.Ytnkcmadjeofedaa
