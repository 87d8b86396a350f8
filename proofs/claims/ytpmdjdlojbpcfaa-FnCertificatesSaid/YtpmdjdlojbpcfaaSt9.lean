/- Chapter 8: SeenFrom, IsCover, AreApart of the model. -/
import Derived.Test.YtpmdjdlojbpcfaaSt8
namespace Go.Proofs.Ytpmdjdlojbpcfaa
open Go.RowKit
set_option linter.unusedSimpArgs false
set_option linter.unusedVariables false

theorem seenL_succ (L : List (List Int)) (q : Nat) (zs : List Int) : seenL L (q + 1) zs = seenL L q zs ++ if 1 ≤ cntS L zs q then [(q : Int)] else [] := by
  unfold seenL
  rw [List.range_succ, List.filter_append, List.map_append]
  by_cases h : 1 ≤ cntS L zs q <;> simp [h]
theorem seenL_yes {L : List (List Int)} {q : Nat} {zs : List Int} (h : 0 < cntS L zs q) : seenL L (q + 1) zs = seenL L q zs ++ [(q : Int)] := by rw [seenL_succ, if_pos (show 1 ≤ _ from h)]
theorem seenL_no {L : List (List Int)} {q : Nat} {zs : List Int} (h : ¬ 0 < cntS L zs q) : seenL L (q + 1) zs = seenL L q zs := by rw [seenL_succ, if_neg (show ¬ 1 ≤ _ from h), List.append_nil]
set_option maxRecDepth 100000 in
set_option maxHeartbeats 2000000 in
theorem specSeenFrom_any (v u : Value) (L : List (List Int)) (n : Int) (zs : List Int) (w : World) (hr : RdJ w v L) (hu : Rd w u zs) :
    Calls Try.prog 27 #[v, .int .i64 n, u] w fun e w' => ∃ v', e = .returned (.tuple #[v', .bool (askB L n zs)]) ∧ Own w' w.heap.size v' (sfL L n zs) ∧ Below w.heap.size w w' := by
  have C0 := Lib.hid (stAsked_any v u L n zs w hr hu)
  have HR := Lib.hid hr
  have HU := Lib.hid hu
  clear hr hu
  cases hs : askB L n zs with
  | false =>
    have hf := Lib.hid (sfL_no hs)
    rw [hs] at C0
    clear hs
    go_enter Try.func27, Try.ntmps27
    go_wp2_with fail
    refine C0.out.mono ?_
    rintro e w1 ⟨rfl, rfl⟩
    go_wp2
    go_ret2
    exact ⟨_, rfl, by rw [hf.out]; exact Own.nil _ _, Below.refl _ _⟩
  | true =>
    have hfl := Lib.hid (sfL_yes hs)
    rw [hs] at C0
    obtain ⟨⟨ok, hne⟩, hz⟩ := askB_iff.1 hs
    obtain ⟨N, hN⟩ : ∃ N, n.toNat = N := ⟨_, rfl⟩
    rw [hN] at ok hne hfl
    subst hne
    have hl12 : zs.length ≤ 12 := by have := hz.len (by omega); have := ok.m2; omega
    have C1 := Lib.hid (stTimes_any v u L N zs w ok hz.2 (by omega) HR.out HU.out)
    have hn16 := ok.n2
    have HC := Lib.hid (fun j => Nat.le_trans (cntS_le L zs j) hl12)
    clear hs ok hz hN hl12
    go_enter Try.func27, Try.ntmps27
    go_wp2_with fail
    refine C0.out.mono ?_
    rintro e w1 ⟨rfl, rfl⟩
    go_wp2_with fail
    refine C1.out.mono ?_
    rintro e w1 ⟨v1, rfl, ho1, hb1⟩
    have hrd := ho1.rd
    obtain ⟨a1, c1, rfl⟩ := hrd.len
    have hle := cntL_len L N zs
    have HO := Lib.hid ho1
    rw [hle] at hrd
    have HRD := Lib.hid hrd
    have HLE := Lib.hid hle
    clear ho1 hrd
    rw [hle]
    clear hle
    go_wp2
    go_loopw [8, 21] (fun t i wr => ∃ q : Nat, q ≤ N ∧ i = .int .i64 q ∧ Own wr w1.heap.size t (seenL L q zs) ∧ Below w1.heap.size w1 wr) (fun _ i _ => N - (intOf i).toNat)
    case atStart => exact ⟨0, Nat.zero_le _, rfl, Own.nil _ _, Below.refl _ _⟩
    case round =>
      obtain ⟨q, hq, rfl, hown, hbq⟩ := hrel
      have hlen := seenL_len L q zs
      by_cases hlt : q < N
      · obtain ⟨g1, o1, rfl, hg1, q1⟩ := (HRD.out.below hbq (Nat.le_refl _)).at_ (by rw [HLE.out]) q hlt
        rw [cntL_get _ _ _ _ hlt] at q1
        have hc12 := HC.out q
        by_cases hp : 0 < cntS L zs q
        · have hs := Lib.hid (seenL_yes hp)
          have hsz := hbq.size
          generalize cntS L zs q = c at q1 hp hc12
          go_wp2_with (at_builtin; refine append_int rfl _ _ rfl w1.heap.size _ (seenL L q zs) (q : Int) wr.heap.size rfl rfl (hown.alloc _) (new_cell _ _ _) (by omega) (by simp; omega) ?_; intro v' w2 hown1 hgrow1)
          go_roundw
          case rel => exact ⟨q + 1, by omega, by go_num, by rw [hs.out]; exact hown1, (hbq.alloc hsz _).grown hgrow1 (by simp; omega) (fun j hj => (hown.lt j hj).1)⟩
          case measure => simp [intOf]; omega
        · have hs := Lib.hid (seenL_no hp)
          generalize cntS L zs q = c at q1 hp hc12
          go_wp2
          go_roundw
          case rel => exact ⟨q + 1, by omega, by go_num, by rw [hs.out]; exact hown, hbq⟩
          case measure => simp [intOf]; omega
      · obtain rfl : q = N := by omega
        go_wp2
        go_ret2
        exact ⟨_, rfl, by rw [hfl.out]; exact hown.base hb1.size, hb1.trans (hbq.mono hb1.size)⟩

set_option maxRecDepth 100000 in
theorem specIsCover_any (v u : Value) (L : List (List Int)) (n : Int) (zs : List Int) (t : Int) (w : World) (hr : RdJ w v L) (hu : Rd w u zs) :
    Calls Try.prog 30 #[v, .int .i64 n, u, .int .i64 t] w fun e w' => e = .returned (.tuple #[.bool (icB L n zs t), .bool (icA L n zs t)]) ∧ Below w.heap.size w w' := by
  have C0 := Lib.hid (stAsked_any v u L n zs w hr hu)
  have C2 := Lib.hid (l1In_any t 1 2 w)
  cases hs : askB L n zs with
  | false =>
    have hf : Hid (icA L n zs t = false) := Lib.hid (by simp [icA, hs])
    rw [hs] at C0
    clear hs hr hu
    go_enter Try.func30, Try.ntmps30
    go_wp2_with fail
    refine C0.out.mono ?_
    rintro e w1 ⟨rfl, rfl⟩
    go_wp2
    go_ret2
    exact ⟨ret2b (ic_no hf.out).symm hf.out.symm, Below.refl _ _⟩
  | true =>
    rw [hs] at C0
    cases ht : inB t 1 2 with
    | false =>
      have hf : Hid (icA L n zs t = false) := Lib.hid (by simp [icA, ht])
      rw [ht] at C2
      clear hs ht hr hu
      go_enter Try.func30, Try.ntmps30
      go_wp2_with fail
      refine C0.out.mono ?_
      rintro e w1 ⟨rfl, rfl⟩
      go_wp2_with fail
      refine C2.out.mono ?_
      rintro e w1 ⟨rfl, rfl⟩
      go_wp2
      go_ret2
      exact ⟨ret2b (ic_no hf.out).symm hf.out.symm, Below.refl _ _⟩
    | true =>
      have hf : Hid (icA L n zs t = true) := Lib.hid (by simp [icA, ht, hs])
      rw [ht] at C2
      obtain ⟨⟨ok, hne⟩, hz⟩ := askB_iff.1 hs
      obtain ⟨N, hN⟩ : ∃ N, n.toNat = N := ⟨_, rfl⟩
      obtain ⟨T, hT⟩ : ∃ T, t.toNat = T := ⟨_, rfl⟩
      have hte : t = (T : Int) := by have := inB_iff.1 ht; omega
      have hfc : Hid (icB L n zs t = covB L N zs T) := Lib.hid (by rw [icB, hf.out, hN, hT]; rfl)
      rw [hN] at ok hne
      subst hne hte
      have C3 := Lib.hid (stCovers_any v u L N zs T w ok hz hr hu)
      clear hs ht ok hz hN hT hr hu
      go_enter Try.func30, Try.ntmps30
      go_wp2_with fail
      refine C0.out.mono ?_
      rintro e w1 ⟨rfl, rfl⟩
      go_wp2_with fail
      refine C2.out.mono ?_
      rintro e w1 ⟨rfl, rfl⟩
      go_wp2_with fail
      refine C3.out.mono ?_
      rintro e w1 ⟨rfl, hb⟩
      go_wp2
      go_ret2
      exact ⟨ret2b hfc.out.symm hf.out.symm, hb⟩

theorem l1Has_any (v : Value) (zs : List Int) (x : Int) (w : World) (hr : Rd w v zs) :
    Calls Try.prog 96 #[v, .int .i64 x] w fun e w' => e = .returned (.bool (decide (x ∈ zs))) ∧ w = w' := by
  have hm := hr.max
  unfold maxLen at hm
  obtain ⟨a1, c1, rfl⟩ := hr.len
  obtain ⟨n, hn⟩ : ∃ n, n = zs.length := ⟨_, rfl⟩
  rw [← hn] at hm ⊢
  have HN := Lib.hid hn
  have HR := Lib.hid hr
  clear hn hr
  go_enter Try.func96, Try.ntmps96
  go_wp2
  go_loop [9] (fun i => ∃ k : Nat, k ≤ n ∧ i = .int .i64 k ∧ Hid (∀ j, j < k → ¬ zs[j]?.getD 0 = x)) (fun i => n - (intOf i).toNat)
  case atStart => exact ⟨0, Nat.zero_le _, rfl, Lib.hid fun j hj => by omega⟩
  case round =>
    obtain ⟨k, hk, rfl, hall⟩ := hrel
    by_cases hlt : k < n
    · obtain ⟨g1, o1, rfl, hg1, q⟩ := HR.out.at_ (by rw [← HN.out]) k (by rw [← HN.out]; exact hlt)
      by_cases he : zs[k]?.getD 0 = x
      · have hf : Hid (decide (x ∈ zs) = true) := Lib.hid (by
          have hk' : k < zs.length := by rw [← HN.out]; exact hlt
          simp only [hk', getElem?_pos, Option.getD_some] at he
          rw [decide_eq_true_eq, ← he]; exact List.getElem_mem hk')
        rw [he] at q
        clear he
        go_wp2
        go_ret
        exact ⟨ret_bool hf.out.symm, rfl⟩
      · have hall' : Hid (∀ j, j < k + 1 → ¬ zs[j]?.getD 0 = x) := Lib.hid fun j hj => by
          by_cases e : j = k
          · subst e; exact he
          · exact hall.out j (by omega)
        have heb : (zs[k]?.getD 0 == x) = false := by simpa using he
        generalize zs[k]?.getD 0 = y at q heb
        clear he
        go_wp2
        go_round
        case rel => exact ⟨k + 1, by omega, by go_num, hall'⟩
        case measure => simp [intOf]; omega
    · have hf : Hid (decide (x ∈ zs) = false) := Lib.hid (by
        rw [decide_eq_false_iff_not]
        intro hx
        obtain ⟨i, hi, rfl⟩ := List.getElem_of_mem hx
        exact hall.out i (by rw [← HN.out] at hi; omega) (by simp [hi]))
      go_wp2
      go_ret
      exact ⟨ret_bool hf.out.symm, rfl⟩

def apC (L : List (List Int)) (zs : List Int) (i : Nat) : Nat := zs.countP fun j => hsB L i j.toNat
theorem apC_take {L : List (List Int)} {zs : List Int} {i q : Nat} (h : q < zs.length) : apC L (zs.take (q + 1)) i = apC L (zs.take q) i + if hsB L i (zs[q]?.getD 0).toNat then 1 else 0 := by
  unfold apC
  rw [List.take_succ_eq_append_getElem h, List.countP_append]
  simp [List.countP_cons, h]
theorem apC_le (L : List (List Int)) (zs : List Int) (i : Nat) : apC L zs i ≤ zs.length := List.countP_le_length
set_option maxRecDepth 100000 in
set_option maxHeartbeats 1000000 in
theorem stApart_any (v u : Value) (L : List (List Int)) (zs : List Int) (w : World) (hz : ∀ x ∈ zs, 0 ≤ x) (hl : zs.length ≤ 40) (hr : RdJ w v L) (hu : Rd w u zs) :
    Calls Try.prog 85 #[v, u] w fun e w' => e = .returned (.bool (apB L zs)) ∧ w = w' := by
  have hm := hr.max
  obtain ⟨a, cap, rfl, -⟩ := hr.len
  obtain ⟨b, capb, rfl⟩ := hu.len
  obtain ⟨m, hme⟩ : ∃ m, m = L.length := ⟨_, rfl⟩
  obtain ⟨c, hce⟩ : ∃ c, c = zs.length := ⟨_, rfl⟩
  have HM := Lib.hid hme
  have HC := Lib.hid hce
  have HR := Lib.hid hr
  have HU := Lib.hid hu
  have HZ : Hid (∀ k, k < c → 0 ≤ zs[k]?.getD 0) := Lib.hid fun k hk => by
    have hk' : k < zs.length := by omega
    have := hz zs[k] (List.getElem_mem hk')
    simpa [hk'] using this
  rw [← hme] at hm ⊢
  rw [← hce] at hl ⊢
  clear hme hce hr hu hz
  go_enter Try.func85, Try.ntmps85
  go_wp2
  go_loop [12] (fun i => ∃ k : Nat, k ≤ m ∧ i = .int .i64 k ∧ Hid (∀ j, j < k → apC L zs j ≤ 1)) (fun i => m - (intOf i).toNat)
  case atStart => exact ⟨0, Nat.zero_le _, rfl, Lib.hid fun j hj => by omega⟩
  case round =>
    obtain ⟨k, hk, rfl, hall⟩ := hrel
    by_cases hlt : k < m
    · obtain ⟨g2, o2, ur, rfl, hg2, q2, hrow⟩ := HR.out.at_ rfl k (by rw [← HM.out]; exact hlt)
      have HROW := Lib.hid hrow.rd
      clear hrow
      go_wp2
      go_loop [7, 18] (fun t i => ∃ q : Nat, q ≤ c ∧ i = .int .i64 q ∧ t = .int .i64 (apC L (zs.take q) k : Int)) (fun _ i => c - (intOf i).toNat)
      case atStart => exact ⟨0, Nat.zero_le _, rfl, by simp [apC]⟩
      case round =>
        obtain ⟨q, hq, rfl, rfl⟩ := hrel
        have hap := Nat.le_trans (apC_le L (zs.take q) k) (by simp; omega : (zs.take q).length ≤ q)
        by_cases hqr : q < c
        · obtain ⟨g3, o3, rfl, hg3, q3⟩ := HU.out.at_ (by rw [← HC.out]) q (by rw [← HC.out]; exact hqr)
          have hst := apC_take (L := L) (zs := zs) (i := k) (q := q) (by rw [← HC.out]; exact hqr)
          have h0 := HZ.out q hqr
          have C := l1Has_any ur (rowAt L k) (zs[q]?.getD 0) w HROW.out
          have he : decide (zs[q]?.getD 0 ∈ rowAt L k) = hsB L k (zs[q]?.getD 0).toNat := by unfold hsB; rw [Int.toNat_of_nonneg h0]
          rw [he] at C
          clear he
          cases hb : hsB L k (zs[q]?.getD 0).toNat with
          | true =>
            rw [hb] at hst C
            have HS := Lib.hid hst
            clear hst hb
            generalize apC L (zs.take q) k = d at *
            generalize zs[q]?.getD 0 = x at *
            go_wp2_with (go_at_call 96; refine C.mono ?_; rintro e w' ⟨rfl, rfl⟩)
            go_round
            case rel => exact ⟨q + 1, by omega, by go_num, by rw [HS.out]; go_num⟩
            case measure => simp [intOf]; omega
          | false =>
            rw [hb] at hst C
            have HS := Lib.hid hst
            clear hst hb
            generalize apC L (zs.take q) k = d at *
            generalize zs[q]?.getD 0 = x at *
            go_wp2_with (go_at_call 96; refine C.mono ?_; rintro e w' ⟨rfl, rfl⟩)
            go_round
            case rel => exact ⟨q + 1, by omega, by go_num, by rw [HS.out]; simp⟩
            case measure => simp [intOf]; omega
        · obtain rfl : q = c := by omega
          have HE : Hid (apC L (zs.take q) k = apC L zs k) := Lib.hid (by rw [HC.out, List.take_length])
          by_cases h1 : 1 < apC L (zs.take q) k
          · have hf : Hid (apB L zs = false) := Lib.hid (apB_no k (by rw [← HM.out]; exact hlt) (by rw [HE.out] at h1; exact h1))
            go_wp2
            go_ret
            exact ⟨ret_bool hf.out.symm, rfl⟩
          · have hall' : Hid (∀ j, j < k + 1 → apC L zs j ≤ 1) := Lib.hid fun j hj => by
              by_cases e : j = k
              · subst e; rw [← HE.out]; omega
              · exact hall.out j (by omega)
            go_wp2
            go_round
            case rel => exact ⟨k + 1, by omega, by go_num, hall'⟩
            case measure => simp [intOf]; omega
    · have hf : Hid (apB L zs = true) := Lib.hid (apB_iff.2 fun i hi => hall.out i (by rw [← HM.out] at hi; omega))
      go_wp2
      go_ret
      exact ⟨ret_bool hf.out.symm, rfl⟩

set_option maxRecDepth 100000 in
theorem specAreApart_any (v u : Value) (L : List (List Int)) (n : Int) (zs : List Int) (w : World) (hr : RdJ w v L) (hu : Rd w u zs) :
    Calls Try.prog 39 #[v, .int .i64 n, u] w fun e w' => e = .returned (.tuple #[.bool (aaB L n zs), .bool (aaA L n zs)]) ∧ Below w.heap.size w w' := by
  have C0 := Lib.hid (stGood_any v L n w hr)
  cases hs : stB L n with
  | false =>
    have hf : Hid (aaA L n zs = false) := Lib.hid (by simp [aaA, hs])
    rw [hs] at C0
    clear hs hr hu
    go_enter Try.func39, Try.ntmps39
    go_wp2_with fail
    refine C0.out.mono ?_
    rintro e w1 ⟨rfl, rfl⟩
    go_wp2
    go_ret2
    exact ⟨ret2b (aa_no hf.out).symm hf.out.symm, Below.refl _ _⟩
  | true =>
    rw [hs] at C0
    have C1 := Lib.hid (l1Rising_any u zs 0 (n - 1) w hu)
    have hn := (stB_iff.1 hs).2
    have hn1 := (stB_iff.1 hs).1.n1
    have hn2 := (stB_iff.1 hs).1.n2
    have hb1 : 1 ≤ n := by omega
    have hb2 : n ≤ 16 := by omega
    cases hc : risB zs 0 (n - 1) with
    | false =>
      have hf : Hid (aaA L n zs = false) := Lib.hid (by simp [aaA, hc])
      rw [hc] at C1
      clear hs hc hr hu hn hn1 hn2
      go_enter Try.func39, Try.ntmps39
      go_wp2_with fail
      refine C0.out.mono ?_
      rintro e w1 ⟨rfl, rfl⟩
      go_wp2_with fail
      refine C1.out.mono ?_
      rintro e w1 ⟨rfl, rfl⟩
      go_wp2
      go_ret2
      exact ⟨ret2b (aa_no hf.out).symm hf.out.symm, Below.refl _ _⟩
    | true =>
      have hf : Hid (aaA L n zs = true) := Lib.hid (by simp [aaA, hc, hs])
      have hfc : Hid (aaB L n zs = apB L zs) := Lib.hid (by simp [aaB, hf.out])
      rw [hc] at C1
      have hz := (aaA_iff.1 hf.out).2
      have hzl := hz.len (by omega)
      have C2 := Lib.hid (stApart_any v u L zs w (fun x hx => (hz.2 x hx).1) (by omega) hr hu)
      clear hs hc hr hu hn hn1 hn2 hz hzl
      go_enter Try.func39, Try.ntmps39
      go_wp2_with fail
      refine C0.out.mono ?_
      rintro e w1 ⟨rfl, rfl⟩
      go_wp2_with fail
      refine C1.out.mono ?_
      rintro e w1 ⟨rfl, rfl⟩
      go_wp2_with fail
      refine C2.out.mono ?_
      rintro e w1 ⟨rfl, rfl⟩
      go_wp2
      go_ret2
      exact ⟨ret2b hfc.out.symm hf.out.symm, Below.refl _ _⟩
end Go.Proofs.Ytpmdjdlojbpcfaa
