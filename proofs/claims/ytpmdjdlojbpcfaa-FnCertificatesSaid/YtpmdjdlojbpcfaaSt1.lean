/- Chapter 8: the model's checks, counts, sets and the order of lists. -/
import Derived.Test.YtpmdjdlojbpcfaaSt0
import Derived.Test.YtpmdjdlojbpcfaaIv
namespace Go.Proofs.Ytpmdjdlojbpcfaa
open Go.RowKit
set_option linter.unusedSimpArgs false
set_option linter.unusedVariables false

def nth (zs : List Int) (i : Nat) : Int := zs[i]?.getD 0
theorem Own.put {w : World} {B g n cap : Nat} {zs : List Int} (h : Own w B (.slice (some ⟨g, 0, none⟩) n cap) zs) (hn : n = zs.length) (k : Nat) (x : Int) :
    Own (w.setCell ⟨g, k, none⟩ (.int .i64 x)) B (.slice (some ⟨g, 0, none⟩) n cap) (zs.set k x) ∧ w.grownBy (w.setCell ⟨g, k, none⟩ (.int .i64 x)) (some g) := by
  unfold Own at h ⊢
  rw [← hn] at h
  have := h.stored k (.int .i64 x)
  rw [List.length_set, ← hn, List.map_set]
  exact this
theorem Own.spot {w : World} {B g n cap : Nat} {zs : List Int} (h : Own w B (.slice (some ⟨g, 0, none⟩) n cap) zs) (hn : n = zs.length) (k : Nat) (hk : k < n) :
    w.cell? ⟨g, k, none⟩ = some (.int .i64 (nth zs k)) ∧ w.frozen? ⟨g, k, none⟩ = false := by
  unfold Own at h
  rw [← hn] at h
  refine ⟨?_, h.frozenAt k⟩
  rw [h.cellAt k (by omega)]
  have : k < zs.length := by omega
  simp [nth, this]

theorem rgAt_first {zs : List Int} {lo hi : Int} (h : inB (zs[0]?.getD 0) lo hi = true) : rgAt zs lo hi 0 = true := by simp [rgAt, h]
theorem rgAt_out {zs : List Int} {lo hi : Int} {k : Nat} (h : inB (zs[k]?.getD 0) lo hi = false) : rgAt zs lo hi k = false := by simp [rgAt, h]
theorem rgAt_up {zs : List Int} {lo hi : Int} {m : Nat} (h : inB (zs[m + 1]?.getD 0) lo hi = true) (h' : zs[m]?.getD 0 < zs[m + 1]?.getD 0) : rgAt zs lo hi (m + 1) = true := by simp [rgAt, h, h']
theorem rgAt_flat {zs : List Int} {lo hi : Int} {m : Nat} (h' : zs[m + 1]?.getD 0 ≤ zs[m]?.getD 0) : rgAt zs lo hi (m + 1) = false := by
  simp [rgAt]; intro _; omega

theorem l1Rising_any (v : Value) (zs : List Int) (lo hi : Int) (w : World) (hr : Rd w v zs) :
    Calls Try.prog 84 #[v, .int .i64 lo, .int .i64 hi] w fun e w' => e = .returned (.bool (risB zs lo hi)) ∧ w = w' := by
  have hm := hr.max
  unfold maxLen at hm
  obtain ⟨a1, c1, rfl⟩ := hr.len
  obtain ⟨n, hn⟩ : ∃ n, n = zs.length := ⟨_, rfl⟩
  rw [← hn] at hm ⊢
  have HN := Lib.hid hn
  have HR := Lib.hid hr
  clear hn hr
  go_enter Try.func84, Try.ntmps84
  go_wp2
  go_loop [11] (fun i => ∃ k : Nat, k ≤ n ∧ i = .int .i64 k ∧ Hid (∀ j, j < k → rgAt zs lo hi j = true)) (fun i => n - (intOf i).toNat)
  case atStart => exact ⟨0, Nat.zero_le _, rfl, Lib.hid fun j hj => by omega⟩
  case round =>
    obtain ⟨k, hk, rfl, hall⟩ := hrel
    by_cases hlt : k < n
    · obtain ⟨g1, o1, rfl, hg1, q⟩ := HR.out.at_ (by rw [← HN.out]) k (by rw [← HN.out]; exact hlt)
      cases hin : inB (zs[k]?.getD 0) lo hi with
      | false =>
        have hf := Lib.hid (risB_no k (by rw [← HN.out]; exact hlt) (rgAt_out hin))
        go_wp2_with (go_at_call 60; refine (l1In_any _ _ _ _).mono ?_; rintro e w' ⟨rfl, rfl⟩; rw [hin])
        go_ret
        exact ⟨ret_bool hf.out.symm, rfl⟩
      | true =>
        by_cases h0 : ¬ 0 < k
        · have hall' : Hid (∀ j, j < k + 1 → rgAt zs lo hi j = true) := Lib.hid fun j hj => by
            obtain rfl : k = 0 := by omega
            obtain rfl : j = 0 := by omega
            exact rgAt_first hin
          go_wp2_with (go_at_call 60; refine (l1In_any _ _ _ _).mono ?_; rintro e w' ⟨rfl, rfl⟩; rw [hin])
          go_round
          case rel => exact ⟨k + 1, by omega, by go_num, hall'⟩
          case measure => simp [intOf]; omega
        · obtain ⟨m, rfl⟩ : ∃ m, k = m + 1 := ⟨k - 1, by omega⟩
          obtain ⟨g2, o2, hge, hg2, q2⟩ := HR.out.at_ (by rw [← HN.out]) m (by rw [← HN.out]; omega)
          simp only [Option.some.injEq, Addr.mk.injEq, and_true] at hge
          obtain ⟨rfl, rfl⟩ := hge
          have hm1 : ((m + 1 : Nat) : Int) - 1 = m := by omega
          by_cases hup : zs[m]?.getD 0 < zs[m + 1]?.getD 0
          · have hall' : Hid (∀ j, j < m + 1 + 1 → rgAt zs lo hi j = true) := Lib.hid fun j hj => by
              by_cases e : j = m + 1
              · subst e; exact rgAt_up hin hup
              · exact hall.out j (by omega)
            go_wp2_with (go_at_call 60; refine (l1In_any _ _ _ _).mono ?_; rintro e w' ⟨rfl, rfl⟩; rw [hin])
            go_round
            case rel => exact ⟨m + 1 + 1, by omega, by go_num, hall'⟩
            case measure => simp [intOf]; omega
          · have hf := Lib.hid (risB_no (lo := lo) (hi := hi) (m + 1) (by rw [← HN.out]; exact hlt) (rgAt_flat (by omega)))
            go_wp2_with (go_at_call 60; refine (l1In_any _ _ _ _).mono ?_; rintro e w' ⟨rfl, rfl⟩; rw [hin])
            go_ret
            exact ⟨ret_bool hf.out.symm, rfl⟩
    · have hf : Hid (risB zs lo hi = true) := Lib.hid (risB_yes fun j hj => hall.out j (by have := HN.out; omega))
      go_wp2
      go_ret
      exact ⟨ret_bool hf.out.symm, rfl⟩

set_option maxHeartbeats 400000 in
theorem stGood_any (v : Value) (L : List (List Int)) (n : Int) (w : World) (hr : RdJ w v L) :
    Calls Try.prog 59 #[v, .int .i64 n] w fun e w' => e = .returned (.bool (stB L n)) ∧ w = w' := by
  have hm := hr.max
  obtain ⟨a, cap, rfl, -⟩ := hr.len
  obtain ⟨m, hn⟩ : ∃ m, m = L.length := ⟨_, rfl⟩
  have HS : Hid (stB L n = (inB n 1 16 && inB m 1 12 && rowsTo L (n - 1) m)) := Lib.hid (by rw [hn]; rfl)
  have HN := Lib.hid hn
  have HR := Lib.hid hr
  rw [← hn] at hm ⊢
  clear hn hr
  obtain ⟨hi, hhi⟩ : ∃ hi, IntKind.i64.wrap (n - 1) = hi := ⟨_, rfl⟩
  have HW : Hid (inB n 1 16 = true → hi = n - 1) := Lib.hid (fun h => by
    have := inB_iff.1 h
    rw [← hhi]
    exact IntWalk.i64_in _ (by omega))
  go_enter Try.func59, Try.ntmps59
  go_wp2
  go_loop [9] (fun i => ∃ k : Nat, k ≤ m ∧ i = .int .i64 k ∧ Hid (∀ j, j < k → risB (rowAt L j) 0 hi = true)) (fun i => m - (intOf i).toNat)
  case atStart => exact ⟨0, Nat.zero_le _, rfl, Lib.hid fun j hj => by omega⟩
  case round =>
    obtain ⟨k, hk, rfl, hall⟩ := hrel
    by_cases hlt : k < m
    · obtain ⟨g, off, u, rfl, hg, hc0, hru⟩ := HR.out.at_ rfl k (by rw [← HN.out]; exact hlt)
      cases hb : risB (rowAt L k) 0 hi with
      | true =>
        have hall' : Hid (∀ j, j < k + 1 → risB (rowAt L j) 0 hi = true) := Lib.hid fun j hj => by
          by_cases e : j = k
          · subst e; exact hb
          · exact hall.out j (by omega)
        go_wp2_with (go_at_call 84; refine (l1Rising_any _ (rowAt L k) 0 hi _ hru.rd).mono ?_; rintro e w' ⟨rfl, rfl⟩; rw [hb])
        go_round
        case rel => exact ⟨k + 1, by omega, by go_num, hall'⟩
        case measure => simp [intOf]; omega
      | false =>
        have hf : Hid (stB L n = false) := Lib.hid (by
          rw [HS.out]
          cases h1 : inB n 1 16 with
          | false => rfl
          | true => rw [← HW.out h1, rowsTo_no hlt hb, Bool.and_false])
        go_wp2_with (go_at_call 84; refine (l1Rising_any _ (rowAt L k) 0 hi _ hru.rd).mono ?_; rintro e w' ⟨rfl, rfl⟩; rw [hb])
        go_ret
        exact ⟨ret_bool hf.out.symm, rfl⟩
    · have HA : Hid (inB n 1 16 = true → rowsTo L (n - 1) m = true) := Lib.hid (fun h => by
        rw [← HW.out h]; exact rowsTo_yes fun j hj => hall.out j (by omega))
      cases h1 : inB n 1 16 with
      | false =>
        have hf : Hid (stB L n = false) := Lib.hid (by rw [HS.out, h1]; rfl)
        go_wp2_with (go_at_call 60; refine (l1In_any _ _ _ _).mono ?_; rintro e w' ⟨rfl, rfl⟩; rw [h1])
        go_ret
        exact ⟨ret_bool hf.out.symm, rfl⟩
      | true =>
        have hf : Hid (stB L n = inB m 1 12) := Lib.hid (by rw [HS.out, h1, HA.out h1, Bool.and_true, Bool.true_and])
        clear hhi
        go_wp2_with (go_at_call 60; refine (l1In_any _ _ _ _).mono ?_; rintro e w' ⟨rfl, rfl⟩; try rw [h1])
        go_ret
        exact ⟨ret_bool hf.out.symm, rfl⟩

/-- Are chosen numbers rising within the sites? -/
def chB (L : List (List Int)) (zs : List Int) : Bool := risB zs 0 (L.length - 1)
def askB (L : List (List Int)) (n : Int) (zs : List Int) : Bool := stB L n && chB L zs
theorem askB_iff {L : List (List Int)} {n : Int} {zs : List Int} : askB L n zs = true ↔ (StOk L n.toNat ∧ n = (n.toNat : Int)) ∧ Ris zs 0 (L.length : Int) := by
  simp only [askB, chB, Bool.and_eq_true, stB_iff, risB_iff]
theorem stAsked_any (v u : Value) (L : List (List Int)) (n : Int) (zs : List Int) (w : World) (hr : RdJ w v L) (hz : Rd w u zs) :
    Calls Try.prog 76 #[v, .int .i64 n, u] w fun e w' => e = .returned (.bool (askB L n zs)) ∧ w = w' := by
  have hm := hr.max
  have C0 := Lib.hid (stGood_any v L n w hr)
  obtain ⟨a, cap, rfl, -⟩ := hr.len
  cases hs : stB L n with
  | false =>
    have hf : Hid (askB L n zs = false) := Lib.hid (by simp [askB, hs])
    clear hr hz
    go_enter Try.func76, Try.ntmps76
    go_wp2_with (go_at_call 59; refine C0.out.mono ?_; rintro e w' ⟨rfl, rfl⟩; rw [hs])
    go_ret
    exact ⟨ret_bool hf.out.symm, rfl⟩
  | true =>
    have hf : Hid (askB L n zs = risB zs 0 (L.length - 1)) := Lib.hid (by simp [askB, hs, chB])
    have hl := (stB_iff.1 hs).1.m2
    have C1 := Lib.hid (l1Rising_any u zs 0 (L.length - 1) w hz)
    clear hr hz
    obtain ⟨m, hme⟩ : ∃ m, m = L.length := ⟨_, rfl⟩
    rw [← hme] at C0 C1 hf hl hm ⊢
    clear hme
    go_enter Try.func76, Try.ntmps76
    go_wp2_with (first
      | (go_at_call 59; refine C0.out.mono ?_; rintro e w' ⟨rfl, rfl⟩; rw [hs])
      | (go_at_call 84; refine C1.out.mono ?_; rintro e w' ⟨rfl, rfl⟩))
    go_ret
    exact ⟨ret_bool hf.out.symm, rfl⟩
theorem specAreSites_any (v : Value) (L : List (List Int)) (n : Int) (w : World) (hr : RdJ w v L) :
    Calls Try.prog 44 #[v, .int .i64 n] w fun e w' => e = .returned (.bool (stB L n)) ∧ w = w' := by
  have C0 := Lib.hid (stGood_any v L n w hr)
  clear hr
  go_enter Try.func44, Try.ntmps44
  go_wp2_with (go_at_call 59; refine C0.out.mono ?_; rintro e w' ⟨rfl, rfl⟩)
  go_ret
  exact ⟨rfl, rfl⟩

/-! ### How often each spot is seen -/
def tmL (f : Nat → Nat) (row : List Int) (n q : Nat) : List Int := (List.range n).map fun j : Nat => (f j : Int) + if (j : Int) ∈ row.take q then 1 else 0
theorem tmL_len (f : Nat → Nat) (row : List Int) (n q : Nat) : (tmL f row n q).length = n := by simp [tmL]
theorem tmL_nth (f : Nat → Nat) (row : List Int) (n q j : Nat) (h : j < n) : nth (tmL f row n q) j = (f j : Int) + if (j : Int) ∈ row.take q then 1 else 0 := by simp [nth, tmL, h]
theorem tmL_step {f : Nat → Nat} {row : List Int} {n q s : Nat} (hr : Ris row 0 n) (hq : q < row.length) (hs : row[q]?.getD 0 = s) : nth (tmL f row n q) s = f s ∧ (tmL f row n q).set s ((f s : Int) + 1) = tmL f row n (q + 1) ∧ s < n := by
  have hsn := (hr.get q hq).2
  rw [hs] at hsn
  have hrow : row[q] = (s : Int) := by simpa [hq] using hs
  have hnot : ¬ (s : Int) ∈ row.take q := by
    intro hm
    obtain ⟨i, hi, he⟩ := List.getElem_of_mem hm
    simp at hi
    have h1 := List.pairwise_iff_getElem.1 hr.1 i q (by omega) hq (by omega)
    rw [List.getElem_take] at he
    omega
  have ht : row.take (q + 1) = row.take q ++ [(s : Int)] := by rw [List.take_succ_eq_append_getElem hq, hrow]
  refine ⟨by rw [tmL_nth _ _ _ _ _ (by omega), if_neg hnot]; simp, ?_, by omega⟩
  apply List.ext_getElem
  · simp [tmL]
  · intro j h1 h2
    rw [List.getElem_set]
    simp only [tmL, List.getElem_map, List.getElem_range, ht, List.mem_append, List.mem_singleton]
    by_cases e : s = j
    · subst e; simp
    · have e' : ¬ (j : Int) = s := by omega
      simp [e, e']
theorem tmL_zero (f : Nat → Nat) (row : List Int) (n : Nat) : tmL f row n 0 = (List.range n).map fun j : Nat => (f j : Int) := by simp [tmL]
theorem tmL_all (L : List (List Int)) (zs : List Int) (x : Nat) (n : Nat) : tmL (cntS L zs) (rowAt L x) n (rowAt L x).length = (List.range n).map fun j : Nat => (cntS L (zs ++ [(x : Int)]) j : Int) := by
  simp only [tmL, List.take_length]
  apply List.map_congr_left
  intro j _
  rw [cntS_snoc]
  simp only [hsB, Int.toNat_natCast, decide_eq_true_eq]
  split <;> simp
def cntL (L : List (List Int)) (n : Nat) (zs : List Int) : List Int := (List.range n).map fun j : Nat => (cntS L zs j : Int)
theorem cntL_len (L : List (List Int)) (n : Nat) (zs : List Int) : (cntL L n zs).length = n := by simp [cntL]
theorem cntL_get (L : List (List Int)) (n : Nat) (zs : List Int) (j : Nat) (h : j < n) : (cntL L n zs)[j]?.getD 0 = (cntS L zs j : Int) := by simp [cntL, h]
theorem cntL_zero (L : List (List Int)) (n : Nat) : cntL L n [] = List.replicate n 0 := by
  apply List.ext_getElem
  · simp [cntL]
  · intro i h1 h2; simp [cntL, cntS]
theorem Own.made {w w1 : World} {n : Nat} (h : w1.ownsRow w.heap.size 3 1 (.slice (some ⟨w.heap.size, 0, none⟩) n n) n (madeCells (Value.int IntKind.i64 0).cells (n * 1)).toList) : Own w1 w.heap.size (.slice (some ⟨w.heap.size, 0, none⟩) n n) (List.replicate n 0) := by
  unfold Own
  have e : (madeCells (Value.int IntKind.i64 0).cells (n * 1)).toList = (List.replicate n 0).map (Value.int .i64) := by
    rw [Nat.mul_one]
    have := toList_madeCells_one (.int .i64 0) n
    simpa [Value.cells] using this
  rw [List.length_replicate, ← e]; exact h

set_option maxRecDepth 100000 in
set_option maxHeartbeats 1000000 in
theorem stTimes_any (v u : Value) (L : List (List Int)) (n : Nat) (zs : List Int) (w : World) (ok : StOk L n) (hz : ∀ x ∈ zs, 0 ≤ x ∧ x < (L.length : Int)) (hzl : zs.length ≤ 40) (hr : RdJ w v L) (hu : Rd w u zs) :
    Calls Try.prog 67 #[v, .int .i64 n, u] w fun e w' => ∃ v', e = .returned v' ∧ Own w' w.heap.size v' (cntL L n zs) ∧ Below w.heap.size w w' := by
  obtain ⟨i0, hi, hz0, hz1, hz2⟩ := info_parts Try_info_int
  have hn2 := ok.n2
  have hm2 := ok.m2
  obtain ⟨a, cap, rfl, -⟩ := hr.len
  obtain ⟨b, capb, rfl⟩ := hu.len
  obtain ⟨m, hme⟩ : ∃ m, m = L.length := ⟨_, rfl⟩
  obtain ⟨c, hce⟩ : ∃ c, c = zs.length := ⟨_, rfl⟩
  have HM := Lib.hid hme
  have HC := Lib.hid hce
  have HR := Lib.hid hr
  have HU := Lib.hid hu
  have HZ : Hid (∀ k, k < c → ∃ x : Nat, zs[k]?.getD 0 = (x : Int) ∧ x < m) := Lib.hid fun k hk => by
    have := hz zs[k] (List.getElem_mem (by omega))
    refine ⟨zs[k].toNat, ?_, by omega⟩
    have hk' : k < zs.length := by omega
    simp [hk']; omega
  have OK := Lib.hid ok
  rw [← hme] at hm2 ⊢
  rw [← hce] at hzl ⊢
  clear hme hce hr hu hz ok
  go_enter Try.func67, Try.ntmps67
  go_wp2_with (refine wpList_make_full _ rfl _ _ 26 rfl w.heap.size 3 i0 (.int .i64 0) 1 Try.underlying26 hi hz0 hz1 .i64 .i64 _ _ n rfl rfl rfl rfl (by rw [hz2]; omega) (by unfold maxLen; omega) (Nat.le_refl _) ?_; intro w1 hown1 hgrow1)
  have ho0 : Own w1 w.heap.size (.slice (some ⟨w.heap.size, 0, none⟩) n n) (cntL L n []) := by rw [cntL_zero]; exact Own.made hown1
  have hb0 : Below w.heap.size w w1 := (Below.refl _ _).grown hgrow1 (Nat.le_refl _) (fun k h => by cases h)
  clear hown1 hgrow1
  go_loopw [16] (fun i wr => ∃ k : Nat, k ≤ c ∧ i = .int .i64 k ∧ Own wr w.heap.size (.slice (some ⟨w.heap.size, 0, none⟩) n n) (cntL L n (zs.take k)) ∧ Below w.heap.size w wr) (fun i wr => c - (intOf i).toNat)
  case atStart => exact ⟨0, Nat.zero_le _, rfl, by simpa using ho0, hb0⟩
  case round =>
    obtain ⟨k, hk, rfl, hown, hbl⟩ := hrel
    by_cases hlt : k < c
    · obtain ⟨x, hx, hxm⟩ := HZ.out k hlt
      obtain ⟨g1, o1, rfl, hg1, q⟩ := (HU.out.below hbl (Nat.le_refl _)).at_ rfl k (by rw [← HC.out]; exact hlt)
      rw [hx] at q
      obtain ⟨g2, o2, ur, rfl, hg2, q2, hrow⟩ := (HR.out.below hbl (Nat.le_refl _)).at_ rfl x (by rw [← HM.out]; exact hxm)
      obtain ⟨ra, rc, rfl⟩ := hrow.rd.len
      have hrl := hrow.rd.max
      unfold maxLen at hrl
      obtain ⟨r, hre⟩ : ∃ r, r = (rowAt L x).length := ⟨_, rfl⟩
      have HRE := Lib.hid hre
      have HROW : Hid (∀ W, Below w.heap.size wr W → Rd W (.slice ra (rowAt L x).length rc) (rowAt L x)) := Lib.hid fun W hb => by
        obtain ⟨g3, o3, u3, e3, hg3, q3, h3⟩ := HR.out.at_ rfl x (by rw [← HM.out]; exact hxm)
        simp only [Option.some.injEq, Addr.mk.injEq, and_true] at e3
        obtain ⟨rfl, rfl⟩ := e3
        have : u3 = .slice ra (rowAt L x).length rc := by
          have h4 := hbl.cell (p := ⟨g2, o2 + x, none⟩) hg3
          rw [q2, q3] at h4
          simpa using h4.symm
        subst this
        exact h3.rd.below (hbl.trans hb) (Nat.le_refl _)
      have HT : Hid (zs.take (k + 1) = zs.take k ++ [(x : Int)]) := Lib.hid (by
        have hk' : k < zs.length := by have := HC.out; omega
        rw [List.take_succ_eq_append_getElem hk']
        simp [hk'] at hx
        rw [hx])
      have hown' : Own wr w.heap.size (.slice (some ⟨w.heap.size, 0, none⟩) n n) (tmL (cntS L (zs.take k)) (rowAt L x) n 0) := by rw [tmL_zero]; exact hown
      rw [← hre] at hrl HROW q2
      clear hre hown hx hrow
      have hx0 : (x : Int) < m := by omega
      go_wp2
      go_loopw [25] (fun i wq => ∃ q : Nat, q ≤ r ∧ i = .int .i64 q ∧ Own wq w.heap.size (.slice (some ⟨w.heap.size, 0, none⟩) n n) (tmL (cntS L (zs.take k)) (rowAt L x) n q) ∧ Below w.heap.size wr wq) (fun i wq => r - (intOf i).toNat)
      case atStart => exact ⟨0, Nat.zero_le _, rfl, hown', Below.refl _ _⟩
      case round =>
        obtain ⟨q, hq, rfl, hown, hbq⟩ := hrel
        by_cases hqr : q < r
        · obtain ⟨g3, o3, rfl, hg3, q3⟩ := (HROW.out _ hbq).at_ HRE.out q hqr
          have hql : q < (rowAt L x).length := by have := HRE.out; omega
          have hge := (OK.out.ris x).get q hql
          obtain ⟨s, hs⟩ : ∃ s : Nat, (rowAt L x)[q]?.getD 0 = (s : Int) := ⟨((rowAt L x)[q]?.getD 0).toNat, by omega⟩
          obtain ⟨e1, e2, e3⟩ := tmL_step (f := cntS L (zs.take k)) (OK.out.ris x) hql hs
          have hcs := Nat.le_trans (cntS_le L (zs.take k) s) (by simp; omega : (zs.take k).length ≤ k)
          obtain ⟨hc1, hf1⟩ := hown.spot (by rw [tmL_len]) s e3
          rw [e1] at hc1
          have hP := hown.put (by rw [tmL_len]) s ((cntS L (zs.take k) s : Int) + 1)
          rw [e2] at hP
          have HP := Lib.hid hP
          rw [hs] at q3
          clear e1 e2 hP hown hge hs hql
          obtain ⟨f, hf⟩ : ∃ f, f = cntS L (zs.take k) s := ⟨_, rfl⟩
          rw [← hf] at hc1 hcs HP
          clear hf
          go_wp2
          go_roundw
          case rel => exact ⟨q + 1, by omega, by go_num, HP.out.1, hbq.setCell (Nat.le_refl _) _⟩
          case measure => simp [intOf]; omega
        · obtain rfl : q = r := by omega
          have hown' : Hid (Own wr w.heap.size (.slice (some ⟨w.heap.size, 0, none⟩) n n) (cntL L n (zs.take (k + 1)))) := Lib.hid (by
            rw [HT.out, cntL, ← tmL_all, ← HRE.out]; exact hown)
          clear hown
          go_wp2
          go_roundw
          case rel => exact ⟨k + 1, by omega, by go_num, hown'.out, hbl.trans hbq⟩
          case measure => simp [intOf]; omega
    · have : k = c := by omega
      subst this
      go_wp2
      go_ret
      exact ⟨_, rfl, by rw [HC.out, List.take_length] at hown; exact hown, hbl⟩

theorem allIn_cov (L : List (List Int)) (n : Nat) (zs : List Int) (t : Nat) (hz : zs.length ≤ 12) : allIn (cntL L n zs) t 12 = covB L n zs t := by
  rw [Bool.eq_iff_iff, covB_iff]
  constructor
  · intro h j hj
    have := (allIn_get h j (by rw [cntL_len]; exact hj)).1
    rw [cntL_get _ _ _ _ hj] at this
    omega
  · intro h
    refine allIn_true _ _ _ fun k hk => ?_
    rw [cntL_len] at hk
    rw [cntL_get _ _ _ _ hk]
    have h1 := h k hk
    have h2 := cntS_le L zs k
    exact inB_yes (by omega) (by omega)
theorem stCoversG_any (v u : Value) (L : List (List Int)) (n : Nat) (zs : List Int) (t : Nat) (w : World) (ok : StOk L n) (hz : ∀ x ∈ zs, 0 ≤ x ∧ x < (L.length : Int)) (hl : zs.length ≤ 12) (hr : RdJ w v L) (hu : Rd w u zs) :
    Calls Try.prog 62 #[v, .int .i64 n, u, .int .i64 t] w fun e w' => e = .returned (.bool (covB L n zs t)) ∧ Below w.heap.size w w' := by
  have C0 := Lib.hid (stTimes_any v u L n zs w ok hz (by omega) hr hu)
  have HA := Lib.hid (allIn_cov L n zs t hl)
  clear hr hu ok hz hl
  go_enter Try.func62, Try.ntmps62
  go_wp2_with fail
  refine C0.out.mono ?_
  rintro e w1 ⟨v1, rfl, ho, hb⟩
  have C1 := Lib.hid (l1All_any v1 (cntL L n zs) t 12 w1 ho.rd)
  clear ho
  go_wp2_with fail
  refine C1.out.mono ?_
  rintro e w2 ⟨rfl, rfl⟩
  go_wp2
  go_ret
  exact ⟨ret_bool HA.out, hb⟩

theorem stCovers_any (v u : Value) (L : List (List Int)) (n : Nat) (zs : List Int) (t : Nat) (w : World) (ok : StOk L n) (hz : Ris zs 0 L.length) (hr : RdJ w v L) (hu : Rd w u zs) :
    Calls Try.prog 62 #[v, .int .i64 n, u, .int .i64 t] w fun e w' => e = .returned (.bool (covB L n zs t)) ∧ Below w.heap.size w w' :=
  stCoversG_any v u L n zs t w ok hz.2 (by have := hz.len (by omega); have := ok.m2; omega) hr hu
theorem shr_bit (s i : Nat) : (s : Int) / 2 ^ i = ((s / 2 ^ i : Nat) : Int) := by simp
theorem bit_of (s i : Nat) : (decide (s / 2 ^ i % 2 = 1)) = s.testBit i := by
  rw [Nat.testBit_eq_decide_div_mod_eq]
end Go.Proofs.Ytpmdjdlojbpcfaa
