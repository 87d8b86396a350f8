/- Chapter 6: bridges of both sides. Written by a generator of this claim's author. -/
import Derived.Test.YteickcpmicifgaaNeF
namespace Go.Proofs.Yteickcpmicifgaa
open Go.RowKit Go.Sort
set_option linter.unusedSimpArgs false
set_option linter.unusedVariables false

def neK (k j : Nat) : Bool := decide (j ≠ k)
theorem lnkE_neK {ls : List T3} {i : Nat} (hi : i < ls.length) (a b : Nat) : lnkE (woL ls i) (fun _ => true) a b ↔ lnkE ls (neK i) a b := lnkE_wo hi a b
theorem bridge1_b {b : Bool} (t k gi : Nat) (w : World) (hc : w.cell? ⟨gi, 0, none⟩ = some (.int .i64 (k : Int))) (hb : neK k t = b) :
    Calls Try.prog 66 #[.int .i64 (t : Int), .pointer (some ⟨gi, 0, none⟩)] w fun e w' => e = .returned (.bool b) ∧ w = w' := by
  by_cases h : t = k
  · have hf : Hid (b = false) := Lib.hid (by rw [← hb]; simp [neK, h])
    have hd : ((t : Int) != (k : Int)) = false := by rw [h]; simp
    clear h hb
    go_enter Try.func66, Try.ntmps66
    go_wp2
    go_ret
    exact ⟨ret_bool hf.out.symm, rfl⟩
  · have hf : Hid (b = true) := Lib.hid (by rw [← hb]; simp [neK, h])
    have hd : ((t : Int) != (k : Int)) = true := by rw [bne_iff_ne]; omega
    clear h hb
    go_enter Try.func66, Try.ntmps66
    go_wp2
    go_ret
    exact ⟨ret_bool hf.out.symm, rfl⟩

set_option maxRecDepth 100000 in
set_option maxHeartbeats 4000000 in
theorem reachedBut_any (c0 c1 : Value) (ts ls : List T3) (s : Nat) (w : World) (hr : RdN w c0 c1 ts ls) (hok : NetOk ts ls) (hs : s < ts.length) (gi kk : Nat) (hgi : w.cell? ⟨gi, 0, none⟩ = some (.int .i64 (kk : Int))) (hgl : gi < w.heap.size) :
    Calls Try.prog 60 #[.agg #[c0, c1], .int .i64 s, .func (.func 66) #[] #[.pointer (some ⟨gi, 0, none⟩)]] w fun e w' => ∃ v', e = .returned v' ∧ Own w' w.heap.size v' (rcL (lnkE ls (neK kk)) s ts.length) ∧ Below w.heap.size w w' := by
  obtain ⟨a0, p0, rfl, hp0⟩ := hr.1.len
  obtain ⟨a1, p1, rfl, hp1⟩ := hr.2.len
  obtain ⟨n, hn⟩ : ∃ n, n = ts.length := ⟨_, rfl⟩
  obtain ⟨m, hm⟩ : ∃ m, m = ls.length := ⟨_, rfl⟩
  have hn16 : n ≤ 16 := by rw [hn]; exact hok.t16
  have hm40 : m ≤ 40 := by rw [hm]; exact hok.l40
  rw [← hn] at hr hp0 hs
  rw [← hm] at hr hp1
  rw [← hn, ← hm]
  have HN := Lib.hid hn
  have HM := Lib.hid hm
  have HOK := Lib.hid hok
  clear hn hm hok
  have N0 := NB.start hr 31
  have h0 := N0.b0
  have h1 := N0.b1
  have HR := Lib.hid hr
  clear hr
  have hs16 : (s : Int) < 16 := by omega
  have hs0 : (0 : Int) ≤ (s : Int) := by omega
  have A1 := ArrB.new (w.alloc (.cells #[.slice a0 n p0, .slice a1 m p1] 31)) (w.heap.size + 1) (by simp) (([.bool false, .bool false, .bool false, .bool false, .bool false, .bool false, .bool false, .bool false, .bool false, .bool false, .bool false, .bool false, .bool false, .bool false, .bool false, .bool false] : List Value).set s (.bool true)).toArray (putF (fun _ => false) s) (by rw [← set_marks (fun _ => false) (k := s) (by omega)]; rfl)
  have NA1 := N0.alloc (.cells (([.bool false, .bool false, .bool false, .bool false, .bool false, .bool false, .bool false, .bool false, .bool false, .bool false, .bool false, .bool false, .bool false, .bool false, .bool false, .bool false] : List Value).set s (.bool true)).toArray 93)
  have A0 := ArrB.new (w.alloc (.cells #[.slice a0 n p0, .slice a1 m p1] 31)) (w.heap.size + 1) (by simp) #[.bool false, .bool false, .bool false, .bool false, .bool false, .bool false, .bool false, .bool false, .bool false, .bool false, .bool false, .bool false, .bool false, .bool false, .bool false, .bool false] (fun _ => false) rfl
  simp only [World.size_alloc] at A1 A0
  have hcs := A0.cell (k := s) (by omega)
  have hfs := A0.frozen s
  clear A0
  have HM1 : Hid (Mrk (lnkE ls (neK kk)) s n (putF (fun _ => false) s)) := Lib.hid ⟨by simp [putF], fun k hk => by
    unfold putF at hk
    by_cases e : k = s
    · subst e; exact ⟨hs, .here⟩
    · rw [if_neg e] at hk; cases hk⟩
  have HU1 := Lib.hid (unm_le (putF (fun _ => false) s) 16)
  generalize putF (fun _ => false) s = f1 at *
  have HGI := Lib.hid hgi
  clear hgi
  go_enter Try.func60, Try.ntmps60
  go_wp2
  clear h0 h1 N0 hcs hfs
  go_loopg [8] 100 (fun gh b wr => ∃ (f : Nat → Bool) (b0 : Bool), b = .bool b0 ∧ NB w wr a0 n p0 a1 m p1 ts ls ∧ ArrB wr (w.heap.size + 1) (w.heap.size + 1) f ∧ Hid (Mrk (lnkE ls (neK kk)) s n f) ∧ Hid (unm f 16 + (if b0 then 1 else 0) ≤ gh) ∧ Hid (b0 = false → Clo ls (neK kk) f ls.length))
  case atStart => exact ⟨f1, true, rfl, NA1, A1, HM1, Lib.hid (by have := HU1.out; simp; omega), Lib.hid (fun h => by cases h)⟩
  case round =>
    clear NA1 A1 HM1 HU1
    obtain ⟨f, b0, rfl, NK, hA, HMk, HU, HC⟩ := hrel
    cases b0 with
    | true =>
      have h0 := NK.b0
      have h1 := NK.b1
      have hU0 : unm f 16 + 1 ≤ gk := by have := HU.out; simpa using this
      obtain ⟨U, hUe⟩ : ∃ U, unm f 16 = U := ⟨_, rfl⟩
      have HU2 : Hid (unm f 16 + (if false then 1 else 0) ≤ U) := Lib.hid (by rw [hUe]; simp)
      rw [hUe] at hU0
      clear hUe HU HC
      go_wp2
      go_loopw [8, 20] (fun b c ws => ∃ (f' : Nat → Bool) (b' : Bool) (t : Nat), b = .bool b' ∧ c = .int .i64 t ∧ t ≤ m ∧ NB w ws a0 n p0 a1 m p1 ts ls ∧ ArrB ws (w.heap.size + 1) (w.heap.size + 1) f' ∧ Hid (Mrk (lnkE ls (neK kk)) s n f') ∧ Hid (unm f' 16 + (if b' then 1 else 0) ≤ U) ∧ Hid (b' = false → Clo ls (neK kk) f' t)) (fun b c ws => m - (intOf c).toNat)
      case atStart => exact ⟨f, false, 0, rfl, rfl, Nat.zero_le _, NK, hA, HMk, HU2, Lib.hid (fun _ j hj => by omega)⟩
      case round =>
        clear NK hA HMk HU2 h0 h1
        obtain ⟨f', b', t, rfl, rfl, htm, NK, hA, HMk, HU, HC⟩ := hrel
        have h0 := NK.b0
        have h1 := NK.b1
        by_cases hlt : t < m
        · obtain ⟨g, off, rfl, hg, q0, q1, q2⟩ := NK.rd.2.at3 HM.out t hlt
          have hl := HOK.out.lnk t (by rw [← HM.out]; exact hlt)
          rw [← HN.out] at hl
          obtain ⟨u, hu⟩ : ∃ u : Nat, (rAt ls t).x0 = (u : Int) := ⟨(rAt ls t).x0.toNat, by omega⟩
          obtain ⟨v, hv⟩ : ∃ v : Nat, (rAt ls t).x1 = (v : Int) := ⟨(rAt ls t).x1.toNat, by omega⟩
          have hun : u < n := by omega
          have hvn : v < n := by omega
          have huv : u ≠ v := by omega
          have hu16 : (u : Int) < 16 := by omega
          have hv16 : (v : Int) < 16 := by omega
          rw [hu] at q0
          rw [hv] at q1
          have HUu := Lib.hid hu
          have HVv := Lib.hid hv
          clear hl hu hv
          generalize (rAt ls t).x2 = x2 at *
          have NL := NK.alloc (.cells #[.int .i64 (u : Int), .int .i64 (v : Int), .int .i64 x2] 53)
          have hA2 := hA.later ((Below.refl _ _).alloc (Nat.le_refl _) (.cells #[.int .i64 (u : Int), .int .i64 (v : Int), .int .i64 x2] 53))
          have hwz : w.heap.size + 1 ≤ wr.heap.size := NK.size
          have hx0 : (wr.alloc (.cells #[.int .i64 (u : Int), .int .i64 (v : Int), .int .i64 x2] 53)).cell? ⟨wr.heap.size, 0, none⟩ = some (.int .i64 (u : Int)) := by simp [go_sem]
          have hx1 : (wr.alloc (.cells #[.int .i64 (u : Int), .int .i64 (v : Int), .int .i64 x2] 53)).cell? ⟨wr.heap.size, 1, none⟩ = some (.int .i64 (v : Int)) := by simp [go_sem]
          have hArr := hA.lt.2
          go_wp2
          clear h0 h1 q0 q1 q2 NK hA
          generalize wr.alloc (.cells #[.int .i64 (u : Int), .int .i64 (v : Int), .int .i64 x2] 53) = W at *
          generalize hBx : wr.heap.size = Bx at *
          clear hBx
          have K0 := cell_regrown hx0
          have K1 := cell_regrown hx1
          have K2 := cell_regrown (hA2.cell (k := u) (by omega))
          have K3 := cell_regrown (hA2.cell (k := v) (by omega))
          have HCn : Hid (b' = false → f' u = f' v ∨ (neK kk) t = false → Clo ls (neK kk) f' (t + 1)) := Lib.hid fun hb h j hj hp => by
            by_cases e : j = t
            · subst e
              rcases h with h | h
              · rw [HUu.out, HVv.out]; exact h
              · rw [h] at hp; cases hp
            · exact HC.out hb j (by omega) hp
          obtain ⟨bu, hbu⟩ : ∃ x, f' u = x := ⟨_, rfl⟩
          obtain ⟨bv, hbv⟩ : ∃ x, f' v = x := ⟨_, rfl⟩
          rw [hbu] at K2
          rw [hbv] at K3
          have HBU := Lib.hid hbu
          have HBV := Lib.hid hbv
          clear hbu hbv
          by_cases he : bu = bv
          · have HC2 := Lib.hid fun hb => HCn.out hb (.inl (by rw [HBU.out, HBV.out]; exact he))
            subst he
            cases bu
            all_goals
              refine wp_region_quiet_below (by kernel_rfl) (by kernel_rfl) ?_
              repeat (go_big_quiet_step (fail))
              refine wpQuiet_nil ?_
              intro _ hw'
              obtain ⟨⟨dq, osq⟩, hw''⟩ := hw'
              subst hw''
              have hbq := below_regrown W dq osq
              have NQ := NL.next hbq
              have AQ := hA2.later hbq
              clear K0 K1 K2 K3
              generalize grow (redrawn W dq) osq = W2 at *
              go_wp2
              go_roundw
              case rel => exact ⟨f', b', t + 1, rfl, by go_num, by omega, NQ, AQ, HMk, HU, HC2⟩
              case measure => simp [intOf]; omega
          · obtain rfl : bv = !bu := by revert he; cases bu <;> cases bv <;> simp
            have hne : f' u ≠ f' v := by rw [HBU.out, HBV.out]; exact he
            cases hp : (neK kk) t with
            | false =>
              have HC2 := Lib.hid fun hb => HCn.out hb (.inr hp)
              have KC : ∀ d os, Calls Try.prog 66 #[.int .i64 (t : Int), .pointer (some ⟨gi, 0, none⟩)] (grow (redrawn W d) os) fun e w'' => e = .returned (.bool false) ∧ ∃ p : Regrown, w'' = grow (redrawn W p.d) p.os := fun d os => Calls.regrown_same (bridge1_b t kk gi _ ((below_regrown W d os).cell (p := ⟨gi, 0, none⟩) (by show gi < _; have := NL.lt; omega) ▸ (NL.below.cell (p := ⟨gi, 0, none⟩) hgl).trans HGI.out) hp)
              clear he hp hne
              cases bu
              all_goals
                refine wp_region_quiet_below (by kernel_rfl) (by kernel_rfl) ?_
                repeat (go_big_quiet_step (first | (with_reducible exact KC _ _)))
                refine wpQuiet_nil ?_
                intro _ hw'
                obtain ⟨⟨dq, osq⟩, hw''⟩ := hw'
                subst hw''
                have hbq := below_regrown W dq osq
                have NQ := NL.next hbq
                have AQ := hA2.later hbq
                clear K0 K1 K2 K3 KC
                generalize grow (redrawn W dq) osq = W2 at *
                go_wp2
                go_roundw
                case rel => exact ⟨f', b', t + 1, rfl, by go_num, by omega, NQ, AQ, HMk, HU, HC2⟩
                case measure => simp [intOf]; omega
            | true =>
              have HM2 : Hid (Mrk (lnkE ls (neK kk)) s n (putF (putF f' u) v)) := Lib.hid (HMk.out.add (j := t) (by rw [← HM.out]; exact hlt) hp HUu.out HVv.out hun hvn hne)
              have HU2 : Hid (unm (putF (putF f' u) v) 16 + (if true then 1 else 0) ≤ U) := Lib.hid (by
                have h1 := unm_put2 (f := f') (u := u) (v := v) (n := 16) (by omega) (by omega) hne
                have h2 := HU.out
                simp
                split at h2 <;> omega)
              have KC : ∀ d os, Calls Try.prog 66 #[.int .i64 (t : Int), .pointer (some ⟨gi, 0, none⟩)] (grow (redrawn W d) os) fun e w'' => e = .returned (.bool true) ∧ ∃ p : Regrown, w'' = grow (redrawn W p.d) p.os := fun d os => Calls.regrown_same (bridge1_b t kk gi _ ((below_regrown W d os).cell (p := ⟨gi, 0, none⟩) (by show gi < _; have := NL.lt; omega) ▸ (NL.below.cell (p := ⟨gi, 0, none⟩) hgl).trans HGI.out) hp)
              clear he hp hne
              cases bu
              all_goals
                refine wp_region_quiet_below (by kernel_rfl) (by kernel_rfl) ?_
                repeat (go_big_quiet_step (first | (with_reducible exact KC _ _)))
                refine wpQuiet_nil ?_
                intro _ hw'
                obtain ⟨⟨dq, osq⟩, hw''⟩ := hw'
                subst hw''
                have hbq := below_regrown W dq osq
                have NQ := NL.next hbq
                have AQ := hA2.later hbq
                have X0 := K0 dq osq
                have X1 := K1 dq osq
                clear K0 K1 K2 K3 KC
                generalize grow (redrawn W dq) osq = W2 at *
                obtain ⟨AP, GP⟩ := AQ.put (k := u) (by omega)
                obtain ⟨AP2, GP2⟩ := AP.put (k := v) (by omega)
                have cu := AQ.cell (k := u) (by omega)
                have cv := AQ.cell (k := v) (by omega)
                have fu := AQ.frozen u
                have fv := AQ.frozen v
                have NP := ((NQ.grown HR.out GP (by intro k hk; cases hk; omega)).grown HR.out GP2 (by intro k hk; cases hk; omega)).drew
                have AP3 := AP2.drew
                go_wp2
                go_region
                clear cu cv fu fv GP GP2 AP AP2 AQ NQ X0 X1
                go_wp2
                go_roundw
                case rel => exact ⟨putF (putF f' u) v, true, t + 1, rfl, by go_num, by omega, NP, AP3, HM2, HU2, Lib.hid (fun h => by cases h)⟩
                case measure => simp [intOf]; omega
        · obtain rfl : t = m := by omega
          have HC2 : Hid (b' = false → Clo ls (neK kk) f' ls.length) := Lib.hid fun h => by rw [← HM.out]; exact HC.out h
          obtain ⟨U2, hU2⟩ : ∃ U2, unm f' 16 + (if b' then 1 else 0) = U2 := ⟨_, rfl⟩
          have HU2 : Hid (unm f' 16 + (if b' then 1 else 0) ≤ U2) := Lib.hid (by rw [hU2]; exact Nat.le_refl _)
          have hUU : U2 ≤ U := by have := HU.out; omega
          clear hU2
          go_wp2
          go_roundg U2
          case measure => omega
          case rel => exact ⟨f', b', rfl, NK, hA, HMk, HU2, HC2⟩
    | false =>
      have HALL := Lib.hid (HMk.out.all (HC.out rfl))
      have hAh := hA.heap
      have hb0 := Below.refl wr.heap.size wr
      have hwz := NK.size
      obtain ⟨cs, hcs⟩ : ∃ cs, cs = ((List.range 16).map fun k => Value.bool (f k)).toArray := ⟨_, rfl⟩
      have hcsz : cs.size = 16 := by rw [hcs]; simp
      have HIX : Hid (∀ k : Nat, k < 16 → ∀ W : World, (Instr.index 93 (.agg cs) (.int .i64 (k : Int))).run Try.prog W = .ok (.bool (f k)) W) := Lib.hid fun k hk W => index_arr cs hcsz k _ (by rw [hcs]; simp [hk]) W
      rw [← hcs] at hAh
      have hci : (Try.prog.info? 93).map (·.size) = some cs.size := by rw [hcsz]; exact Try_info_arr
      have HCI := Lib.hid hci
      have HAH := Lib.hid hAh
      have hbw := NK.below
      clear hcs hcsz hci hAh NK hA HU HMk HC
      go_wp2_with (refine wpList_load_row rfl 93 _ rfl (w.heap.size + 1) rfl 93 cs (0, 0) _ HAH.out Try.underlying93 rfl HCI.out ?_)
      go_loopw [11, 47] (fun o c ws => ∃ t : Nat, c = .int .i64 t ∧ t ≤ 16 ∧ Own ws (w.heap.size + 1) o (mrkL f t) ∧ Below w.heap.size w ws ∧ w.heap.size + 1 ≤ ws.heap.size) (fun o c ws => 16 - (intOf c).toNat)
      case atStart => exact ⟨0, rfl, by omega, Own.nil _ _, hbw, hwz⟩
      case round =>
        clear hbw hwz hb0
        obtain ⟨t, rfl, ht, hown, hbw, hwz⟩ := hrel
        by_cases hlt : t < 16
        · have hix := fun W => HIX.out t hlt W
          have hml := mrkL_len f t
          cases hft : f t with
          | true =>
            have HE := Lib.hid (mrkL_yes hft)
            rw [hft] at hix
            clear hft
            go_wp2_with (at_builtin; refine append_int rfl _ _ rfl (w.heap.size + 1) _ (mrkL f t) (t : Int) wr.heap.size rfl rfl (hown.alloc _) (new_cell _ _ _) (by omega) (by simp; omega) ?_; intro v2 w2 ho2 hg2)
            go_roundw
            case rel => exact ⟨t + 1, by go_num, by omega, by rw [HE.out]; exact ho2, ((hbw.alloc hbw.size _).grown hg2 (by simp; omega) (fun i hi => by have := ((hown.alloc (.cells #[.int .i64 (t : Int)] 3)).lt i hi).1; omega)), by have := hg2.size; simp at this; omega⟩
            case measure => simp [intOf]; omega
          | false =>
            have HE := Lib.hid (mrkL_no hft)
            rw [hft] at hix
            clear hft
            go_wp2
            go_roundw
            case rel => exact ⟨t + 1, by go_num, by omega, by rw [HE.out]; exact hown, hbw, hwz⟩
            case measure => simp [intOf]; omega
        · obtain rfl : t = 16 := by omega
          have HQ := Lib.hid (mrkL_rc (N := 16) hn16 HALL.out)
          go_wp2
          go_ret
          exact ⟨_, rfl, by rw [← HQ.out]; exact hown.base (by omega), hbw⟩

theorem slIndex_any (v : Value) (zs : List Int) (n : Int) (w : World) (hr : Rd w v zs) :
    Calls Try.prog 85 #[v, .int .i64 n] w fun e w' => (∃ r : Int, e = .returned (.int .i64 r) ∧ (0 ≤ r ↔ n ∈ zs)) ∧ w = w' := by
  have hm := hr.max
  unfold maxLen at hm
  obtain ⟨a, cap, rfl⟩ := hr.len
  obtain ⟨m, hm1⟩ : ∃ m, m = zs.length := ⟨_, rfl⟩
  rw [← hm1] at hm hr ⊢
  have HN := Lib.hid hm1
  have HR := Lib.hid hr
  clear hm1 hr
  go_enter Try.func85, Try.ntmps85
  go_wp2
  go_loop [8] (fun i => ∃ k : Nat, k ≤ m ∧ i = .int .i64 k ∧ Hid (∀ j, j < k → nth zs j ≠ n)) (fun i => m - (intOf i).toNat)
  case atStart => exact ⟨0, Nat.zero_le _, rfl, Lib.hid fun j hj => by omega⟩
  case round =>
    obtain ⟨k, hk, rfl, hall⟩ := hrel
    by_cases hlt : k < m
    · obtain ⟨g, off, rfl, hg, q⟩ := HR.out.at_ HN.out k hlt
      have hx : zs[k]?.getD 0 = nth zs k := rfl
      rw [hx] at q
      clear hx
      by_cases he : nth zs k = n
      · have hf : Hid (n ∈ zs) := Lib.hid (by
          rw [← he]
          have hl : k < zs.length := by rw [← HN.out]; exact hlt
          simp [nth, hl])
        have d : (n == nth zs k) = true := by simpa using he.symm
        clear he
        go_wp2
        go_ret
        exact ⟨⟨k, rfl, ⟨fun _ => hf.out, fun _ => by omega⟩⟩, rfl⟩
      · have hall' : Hid (∀ j, j < k + 1 → nth zs j ≠ n) := Lib.hid fun j hj => by
          by_cases e : j = k
          · rw [e]; exact he
          · exact hall.out j (by omega)
        have d : (n == nth zs k) = false := by simpa using fun e => he e.symm
        clear he
        go_wp2
        go_round
        case rel => exact ⟨k + 1, by omega, by go_num, hall'⟩
        case measure => simp [intOf]; omega
    · have hf : Hid (¬ n ∈ zs) := Lib.hid (by
        intro hmem
        obtain ⟨i, hi, e⟩ := List.getElem_of_mem hmem
        exact hall.out i (by have := HN.out; omega) (by simp [nth, hi, e]))
      go_wp2
      go_ret
      exact ⟨⟨-1, rfl, ⟨fun h => by omega, fun h => absurd h hf.out⟩⟩, rfl⟩
theorem slContains_b {b : Bool} (v : Value) (zs : List Int) (n : Int) (w : World) (hr : Rd w v zs) (hb : decide (n ∈ zs) = b) :
    Calls Try.prog 67 #[v, .int .i64 n] w fun e w' => e = .returned (.bool b) ∧ w = w' := by
  have HB := Lib.hid hb
  have HI := Lib.hid (slIndex_any v zs n w hr)
  clear hb hr
  go_enter Try.func67, Try.ntmps67
  go_wp2_with fail
  refine (HI.out).mono ?_
  rintro e w' ⟨⟨r, rfl, hr⟩, rfl⟩
  have HRR := Lib.hid hr
  clear hr
  by_cases h : 0 ≤ r
  · go_wp2
    go_ret
    exact ⟨ret_bool (by rw [← HB.out]; have := HRR.out.1 h; simp [this]), rfl⟩
  · go_wp2
    go_ret
    exact ⟨ret_bool (by rw [← HB.out]; have hn : ¬ n ∈ zs := fun hn => (by (have := HRR.out.2 hn; omega)); simp [hn]; try omega), rfl⟩

/-- Is link j a bridge? -/
noncomputable def brB (ts ls : List T3) (j : Nat) : Bool := decide ((rAt ls j).x1 ∉ rcL (lnkE ls (neK j)) (rAt ls j).x0.toNat ts.length)
noncomputable def brL (ts ls : List T3) (k : Nat) : List Int := ((List.range k).filter fun j : Nat => brB ts ls j).map fun j : Nat => (j : Int)
theorem brL_yes {ts ls : List T3} {k : Nat} (h : brB ts ls k = true) : brL ts ls (k + 1) = brL ts ls k ++ [(k : Int)] := by simp [brL, List.range_succ, List.filter_append, h]
theorem brL_no {ts ls : List T3} {k : Nat} (h : brB ts ls k = false) : brL ts ls (k + 1) = brL ts ls k := by simp [brL, List.range_succ, List.filter_append, h]
theorem brL_len (ts ls : List T3) (k : Nat) : (brL ts ls k).length ≤ k := by
  unfold brL
  rw [List.length_map]
  exact Nat.le_trans (List.length_filter_le _ _) (by simp)
noncomputable def bgL (ts ls : List T3) : List Int := if netB ts ls then brL ts ls ls.length else []
theorem bgL_yes {ts ls : List T3} (h : netB ts ls = true) : bgL ts ls = brL ts ls ls.length := by simp [bgL, h]
theorem bgL_no {ts ls : List T3} (h : netB ts ls = false) : bgL ts ls = [] := by simp [bgL, h]
theorem bgL_len (ts ls : List T3) : (bgL ts ls).length ≤ 40 := by
  unfold bgL
  split
  · rename_i h
    have := (netB_iff.1 h).l40
    have := brL_len ts ls ls.length
    omega
  · simp

set_option maxRecDepth 100000 in
set_option maxHeartbeats 4000000 in
theorem specBridgesOf_any (c0 c1 : Value) (ts ls : List T3) (w : World) (hr : RdN w c0 c1 ts ls) :
    Calls Try.prog 34 #[.agg #[c0, c1]] w fun e w' => ∃ v', e = .returned (.tuple #[v', .bool (netB ts ls)]) ∧ OwnI w' w.heap.size w'.heap.size v' (bgL ts ls) ∧ Below w.heap.size w w' := by
  have hm0 : (ts.length : Int) ≤ 9223372036854775807 := by have := hr.1.max; unfold maxLen at this; omega
  have hm1 : (ls.length : Int) ≤ 9223372036854775807 := by have := hr.2.max; unfold maxLen at this; omega
  obtain ⟨a0, p0, rfl, hp0⟩ := hr.1.len
  obtain ⟨a1, p1, rfl, hp1⟩ := hr.2.len
  obtain ⟨n, hn⟩ : ∃ n, n = ts.length := ⟨_, rfl⟩
  obtain ⟨m, hm⟩ : ∃ m, m = ls.length := ⟨_, rfl⟩
  rw [← hn] at hm0 hr hp0
  rw [← hm] at hm1 hr hp1
  rw [← hn, ← hm]
  have HN := Lib.hid hn
  have HM := Lib.hid hm
  clear hn hm
  have N0 := NB.start hr 31
  have h0 := N0.b0
  have h1 := N0.b1
  have HR := Lib.hid hr
  clear hr
  cases c0 : netB ts ls with
  | false =>
    have H0 := Lib.hid c0
    have HF := Lib.hid (bgL_no c0)
    clear c0
    go_enter Try.func34, Try.ntmps34
    go_wp2_with fail
    refine (neGood_b _ _ ts ls _ N0.rd H0.out).mono ?_
    rintro e w1 ⟨rfl, hb1⟩
    have N1 := N0.next hb1
    have h0 := N1.b0
    have h1 := N1.b1
    go_wp2
    go_ret2
    exact ⟨_, rfl, by rw [HF.out]; exact OwnI.nil _ _ _, N1.below⟩
  | true =>
    have H0 := Lib.hid c0
    have HF := Lib.hid (bgL_yes c0)
    have HOK := Lib.hid (netB_iff.1 c0)
    have hn16 : n ≤ 16 := by have := HOK.out.t16; rw [HN.out]; exact this
    have hm40 : m ≤ 40 := by have := HOK.out.l40; rw [HM.out]; exact this
    clear c0
    go_enter Try.func34, Try.ntmps34
    go_wp2_with fail
    refine (neGood_b _ _ ts ls _ N0.rd H0.out).mono ?_
    rintro e w1 ⟨rfl, hb1⟩
    have N1 := N0.next hb1
    have h0 := N1.b0
    have h1 := N1.b1
    go_wp2
    go_loopw [4, 13] (fun o c wr => ∃ k : Nat, k ≤ m ∧ c = .int .i64 k ∧ Own wr (w.heap.size + 1) o (brL ts ls k) ∧ NB w wr a0 n p0 a1 m p1 ts ls) (fun o c wr => m - (intOf c).toNat)
    case atStart => exact ⟨0, Nat.zero_le _, rfl, Own.nil _ _, N1⟩
    case round =>
      clear h0 h1 N0 N1 hb1
      obtain ⟨k, hk, rfl, hown, NK⟩ := hrel
      have h0 := NK.b0
      have h1 := NK.b1
      by_cases hlt : k < m
      · obtain ⟨g, off, rfl, hg, q0, q1, q2⟩ := NK.rd.2.at3 HM.out k hlt
        have hl := HOK.out.lnk k (by rw [← HM.out]; exact hlt)
        rw [← HN.out] at hl
        obtain ⟨u, hu⟩ : ∃ u : Nat, (rAt ls k).x0 = (u : Int) := ⟨(rAt ls k).x0.toNat, by omega⟩
        obtain ⟨v, hv⟩ : ∃ v : Nat, (rAt ls k).x1 = (v : Int) := ⟨(rAt ls k).x1.toNat, by omega⟩
        have hun : u < n := by omega
        have HBR : Hid (brB ts ls k = decide ((v : Int) ∉ rcL (lnkE ls (neK k)) u ts.length)) := Lib.hid (by unfold brB; rw [hu, hv]; rfl)
        rw [hu] at q0
        rw [hv] at q1
        clear hl hu hv
        generalize (rAt ls k).x2 = x2 at *
        have hkl := brL_len ts ls k
        have hsz := NK.size
        have NA := NK.alloc (.cells #[.int .i64 (u : Int), .int .i64 (v : Int), .int .i64 x2] 53)
        have ho1 := hown.alloc (.cells #[.int .i64 (u : Int), .int .i64 (v : Int), .int .i64 x2] 53)
        have x0c : (wr.alloc (.cells #[.int .i64 (u : Int), .int .i64 (v : Int), .int .i64 x2] 53)).cell? ⟨wr.heap.size, 0, none⟩ = some (.int .i64 (u : Int)) := by simp [go_sem]
        have x1c : (wr.alloc (.cells #[.int .i64 (u : Int), .int .i64 (v : Int), .int .i64 x2] 53)).cell? ⟨wr.heap.size, 1, none⟩ = some (.int .i64 (v : Int)) := by simp [go_sem]
        have hsz2 : (wr.alloc (.cells #[.int .i64 (u : Int), .int .i64 (v : Int), .int .i64 x2] 53)).heap.size = wr.heap.size + 1 := by simp
        go_wp2
        clear hown NK h0 h1 q0 q1 q2
        generalize wr.alloc (.cells #[.int .i64 (u : Int), .int .i64 (v : Int), .int .i64 x2] 53) = W at *
        generalize hBx : wr.heap.size = Bx at *
        clear hBx
        have hBW : Bx < W.heap.size := by omega
        have ND := NA.drew
        have j0 := NA.b0
        have j1 := NA.b1
        have hRC : rcL (lnkE (woL ls k) (fun _ => true)) u ts.length = rcL (lnkE ls (neK k)) u ts.length := rcL_congr fun a b => lnkE_neK (by rw [← HM.out]; exact hlt) a b
        have HNW := Lib.hid (neWithout_any _ _ ts ls k W.drew ND.rd HOK.out.l40 (by rw [← HM.out]; exact hlt))
        have HNR : Hid (∀ (x : World) (q : Value), Below W.drew.heap.size W.drew x → OwnR 53 c3 3 x W.drew.heap.size q (woL ls k) → Calls Try.prog 59 #[.agg #[.slice a0 n p0, q], .int .i64 (u : Int)] x fun e w' => ∃ v', e = .returned v' ∧ Own w' x.heap.size v' (rcL (lnkE ls (neK k)) u ts.length) ∧ Below x.heap.size x w') := Lib.hid fun x q hb ho => by
          have h := neReach_any (.slice a0 n p0) q ts (woL ls k) u x ⟨(ND.next hb).rd.1, ho.rd⟩ HOK.out.t16 (by rw [← HN.out]; exact hun) (fun a b h => (HOK.out.edge ((lnkE_neK (by rw [← HM.out]; exact hlt) a b).1 h)).2)
          rw [hRC] at h
          exact h
        have K1 : Hid (∀ x : World, Below W.drew.heap.size W.drew x → x.cell? ⟨w.heap.size, 0, none⟩ = some (.slice a0 n p0) ∧ x.cell? ⟨w.heap.size, 1, none⟩ = some (.slice (some ⟨g, off, none⟩) m p1) ∧ x.cell? ⟨Bx, 0, none⟩ = some (.int .i64 (u : Int)) ∧ x.cell? ⟨Bx, 1, none⟩ = some (.int .i64 (v : Int))) := Lib.hid fun x hb => ⟨(ND.next hb).b0, (ND.next hb).b1, by rw [hb.cell (p := ⟨Bx, 0, none⟩) hBW]; exact x0c, by rw [hb.cell (p := ⟨Bx, 1, none⟩) hBW]; exact x1c⟩
        clear hRC
        cases hin : decide ((v : Int) ∈ rcL (lnkE ls (neK k)) u ts.length) with
        | true =>
          have HI := Lib.hid hin
          have HB2 : Hid (brB ts ls k = false) := Lib.hid (by rw [HBR.out]; simpa using hin)
          clear hin
          go_region_held3 (fun w' => w'.cell? ⟨w.heap.size, 0, none⟩ = some (.slice a0 n p0) ∧ w'.cell? ⟨w.heap.size, 1, none⟩ = some (.slice (some ⟨g, off, none⟩) m p1) ∧ w'.cell? ⟨Bx, 0, none⟩ = some (.int .i64 (u : Int)) ∧ w'.cell? ⟨Bx, 1, none⟩ = some (.int .i64 (v : Int)))
            (first | go_keep | exact K1.out _ hb2 | exact K1.out _ hb3)
            (first
              | (go_at_call 65; (with_reducible refine (HNW.out).mono ?_); rintro e w2 ⟨v2, rfl, ho2, hb2⟩)
              | (go_at_call 59; (with_reducible refine (HNR.out _ _ hb2 ho2).mono ?_); rintro e w3 ⟨v3, rfl, ho3, hb3'⟩; have hb3 := hb2.trans (hb3'.mono hb2.size))
              | (go_at_call 64; (with_reducible refine (l1Has_b _ _ _ _ ho3.rd HI.out).mono ?_); rintro e w4 ⟨rfl, rfl⟩))
          have N3 := ND.next hb3
          have ho4 := (ho1.later ((Below.refl W.heap.size W).drew.trans (hb3.mono (Nat.le_refl _))))
          have hsz3 := N3.size
          clear hb2 hb3 hb3' ho2 ho3 ho1 ND NA j0 j1 x0c x1c
          have HE := Lib.hid (brL_no HB2.out)
          go_wp2
          go_roundw
          case rel => exact ⟨k + 1, by omega, by go_num, by rw [HE.out]; exact ho4, N3⟩
          case measure => simp [intOf]; omega
        | false =>
          have HI := Lib.hid hin
          have HB2 : Hid (brB ts ls k = true) := Lib.hid (by rw [HBR.out]; simpa using hin)
          clear hin
          go_region_held3 (fun w' => w'.cell? ⟨w.heap.size, 0, none⟩ = some (.slice a0 n p0) ∧ w'.cell? ⟨w.heap.size, 1, none⟩ = some (.slice (some ⟨g, off, none⟩) m p1) ∧ w'.cell? ⟨Bx, 0, none⟩ = some (.int .i64 (u : Int)) ∧ w'.cell? ⟨Bx, 1, none⟩ = some (.int .i64 (v : Int)))
            (first | go_keep | exact K1.out _ hb2 | exact K1.out _ hb3)
            (first
              | (go_at_call 65; (with_reducible refine (HNW.out).mono ?_); rintro e w2 ⟨v2, rfl, ho2, hb2⟩)
              | (go_at_call 59; (with_reducible refine (HNR.out _ _ hb2 ho2).mono ?_); rintro e w3 ⟨v3, rfl, ho3, hb3'⟩; have hb3 := hb2.trans (hb3'.mono hb2.size))
              | (go_at_call 64; (with_reducible refine (l1Has_b _ _ _ _ ho3.rd HI.out).mono ?_); rintro e w4 ⟨rfl, rfl⟩))
          have N3 := ND.next hb3
          have ho4 := (ho1.later ((Below.refl W.heap.size W).drew.trans (hb3.mono (Nat.le_refl _))))
          have hsz3 := N3.size
          clear hb2 hb3 hb3' ho2 ho3 ho1 ND NA j0 j1 x0c x1c
          have HE := Lib.hid (brL_yes HB2.out)
          go_wp2_with (at_builtin; refine append_int rfl _ _ rfl (w.heap.size + 1) _ (brL ts ls k) (k : Int) w3.heap.size rfl rfl (ho4.alloc _) (new_cell _ _ _) (by omega) (by simp; omega) ?_; intro v5 w5 ho5 hg5)
          go_roundw
          case rel => exact ⟨k + 1, by omega, by go_num, by rw [HE.out]; exact ho5, (N3.alloc _).app HR.out (ho4.alloc _) hg5⟩
          case measure => simp [intOf]; omega
      · obtain rfl : k = m := by omega
        go_wp2
        go_ret2
        exact ⟨_, rfl, by rw [HF.out, ← HM.out]; exact (hown.base (by omega)).iv, NK.below⟩

set_option maxRecDepth 100000 in
set_option maxHeartbeats 4000000 in
theorem implBridgesOf_any (c0 c1 : Value) (ts ls : List T3) (w : World) (hr : RdN w c0 c1 ts ls) :
    Calls Try.prog 35 #[.agg #[c0, c1]] w fun e w' => ∃ v', e = .returned (.tuple #[v', .bool (netB ts ls)]) ∧ OwnI w' w.heap.size w'.heap.size v' (bgL ts ls) ∧ Below w.heap.size w w' := by
  have hm0 : (ts.length : Int) ≤ 9223372036854775807 := by have := hr.1.max; unfold maxLen at this; omega
  have hm1 : (ls.length : Int) ≤ 9223372036854775807 := by have := hr.2.max; unfold maxLen at this; omega
  obtain ⟨a0, p0, rfl, hp0⟩ := hr.1.len
  obtain ⟨a1, p1, rfl, hp1⟩ := hr.2.len
  obtain ⟨n, hn⟩ : ∃ n, n = ts.length := ⟨_, rfl⟩
  obtain ⟨m, hm⟩ : ∃ m, m = ls.length := ⟨_, rfl⟩
  rw [← hn] at hm0 hr hp0
  rw [← hm] at hm1 hr hp1
  rw [← hn, ← hm]
  have HN := Lib.hid hn
  have HM := Lib.hid hm
  clear hn hm
  have N0 := NB.start hr 31
  have h0 := N0.b0
  have h1 := N0.b1
  have HR := Lib.hid hr
  clear hr
  cases c0 : netB ts ls with
  | false =>
    have H0 := Lib.hid c0
    have HF := Lib.hid (bgL_no c0)
    clear c0
    go_enter Try.func35, Try.ntmps35
    go_wp2_with fail
    refine (isNet_b _ _ ts ls _ N0.rd H0.out).mono ?_
    rintro e w1 ⟨rfl, hb1⟩
    have N1 := N0.next hb1
    have h0 := N1.b0
    have h1 := N1.b1
    go_wp2
    go_ret2
    exact ⟨_, rfl, by rw [HF.out]; exact OwnI.nil _ _ _, N1.below⟩
  | true =>
    have H0 := Lib.hid c0
    have HF := Lib.hid (bgL_yes c0)
    have HOK := Lib.hid (netB_iff.1 c0)
    have hn16 : n ≤ 16 := by have := HOK.out.t16; rw [HN.out]; exact this
    have hm40 : m ≤ 40 := by have := HOK.out.l40; rw [HM.out]; exact this
    clear c0
    go_enter Try.func35, Try.ntmps35
    go_wp2_with fail
    refine (isNet_b _ _ ts ls _ N0.rd H0.out).mono ?_
    rintro e w1 ⟨rfl, hb1⟩
    have N1 := N0.next hb1
    have h0 := N1.b0
    have h1 := N1.b1
    go_wp2
    go_loopw [4, 14] (fun o c wr => ∃ k : Nat, k ≤ m ∧ c = .int .i64 k ∧ Own wr (w.heap.size + 1) o (brL ts ls k) ∧ NB w wr a0 n p0 a1 m p1 ts ls) (fun o c wr => m - (intOf c).toNat)
    case atStart => exact ⟨0, Nat.zero_le _, rfl, Own.nil _ _, N1⟩
    case round =>
      clear h0 h1 N0 N1 hb1
      obtain ⟨k, hk, rfl, hown, NK⟩ := hrel
      have h0 := NK.b0
      have h1 := NK.b1
      by_cases hlt : k < m
      · obtain ⟨g, off, rfl, hg, q0, q1, q2⟩ := NK.rd.2.at3 HM.out k hlt
        have hl := HOK.out.lnk k (by rw [← HM.out]; exact hlt)
        rw [← HN.out] at hl
        obtain ⟨u, hu⟩ : ∃ u : Nat, (rAt ls k).x0 = (u : Int) := ⟨(rAt ls k).x0.toNat, by omega⟩
        obtain ⟨v, hv⟩ : ∃ v : Nat, (rAt ls k).x1 = (v : Int) := ⟨(rAt ls k).x1.toNat, by omega⟩
        have hun : u < n := by omega
        have HBR : Hid (brB ts ls k = decide ((v : Int) ∉ rcL (lnkE ls (neK k)) u ts.length)) := Lib.hid (by unfold brB; rw [hu, hv]; rfl)
        rw [hu] at q0
        rw [hv] at q1
        clear hl hu hv
        generalize (rAt ls k).x2 = x2 at *
        have hkl := brL_len ts ls k
        have hsz := NK.size
        have NA := (NK.alloc (.cells #[.int .i64 (k : Int)] 3)).alloc (.cells #[.int .i64 (u : Int), .int .i64 (v : Int), .int .i64 x2] 53)
        have ho1 := (hown.alloc (.cells #[.int .i64 (k : Int)] 3)).alloc (.cells #[.int .i64 (u : Int), .int .i64 (v : Int), .int .i64 x2] 53)
        have kc : ((wr.alloc (.cells #[.int .i64 (k : Int)] 3)).alloc (.cells #[.int .i64 (u : Int), .int .i64 (v : Int), .int .i64 x2] 53)).cell? ⟨wr.heap.size, 0, none⟩ = some (.int .i64 (k : Int)) := by simp [go_sem]
        have x1c : ((wr.alloc (.cells #[.int .i64 (k : Int)] 3)).alloc (.cells #[.int .i64 (u : Int), .int .i64 (v : Int), .int .i64 x2] 53)).cell? ⟨wr.heap.size + 1, 1, none⟩ = some (.int .i64 (v : Int)) := by simp [go_sem]
        have hsz2 : ((wr.alloc (.cells #[.int .i64 (k : Int)] 3)).alloc (.cells #[.int .i64 (u : Int), .int .i64 (v : Int), .int .i64 x2] 53)).heap.size = wr.heap.size + 2 := by simp
        have j0 := NA.b0
        have j1 := NA.b1
        have HRB := Lib.hid (reachedBut_any _ _ ts ls u _ NA.rd HOK.out (by rw [← HN.out]; exact hun) wr.heap.size k kc (by omega))
        clear hown
        cases hin : decide ((v : Int) ∈ rcL (lnkE ls (neK k)) u ts.length) with
        | true =>
          have HI := Lib.hid hin
          have HB2 : Hid (brB ts ls k = false) := Lib.hid (by rw [HBR.out]; simpa using hin)
          clear hin
          go_wp2_with fail
          refine (HRB.out).mono ?_
          rintro e w2 ⟨v2, rfl, ho2, hb2⟩
          have N2 := NA.next hb2
          have ho4 := ho1.later hb2
          have y1 := hb2.cell (p := ⟨wr.heap.size + 1, 1, none⟩) (by show wr.heap.size + 1 < _; omega)
          rw [x1c] at y1
          have y2 := hb2.cell (p := ⟨wr.heap.size, 0, none⟩) (by show wr.heap.size < _; omega)
          rw [kc] at y2
          have hsz3 := N2.size
          go_wp2_with fail
          refine (slContains_b _ _ _ _ ho2.rd HI.out).mono ?_
          rintro e w' ⟨rfl, rfl⟩
          have HE := Lib.hid (brL_no HB2.out)
          go_wp2
          go_roundw
          case rel => exact ⟨k + 1, by omega, by go_num, by rw [HE.out]; exact ho4, N2⟩
          case measure => simp [intOf]; omega
        | false =>
          have HI := Lib.hid hin
          have HB2 : Hid (brB ts ls k = true) := Lib.hid (by rw [HBR.out]; simpa using hin)
          clear hin
          go_wp2_with fail
          refine (HRB.out).mono ?_
          rintro e w2 ⟨v2, rfl, ho2, hb2⟩
          have N2 := NA.next hb2
          have ho4 := ho1.later hb2
          have y1 := hb2.cell (p := ⟨wr.heap.size + 1, 1, none⟩) (by show wr.heap.size + 1 < _; omega)
          rw [x1c] at y1
          have y2 := hb2.cell (p := ⟨wr.heap.size, 0, none⟩) (by show wr.heap.size < _; omega)
          rw [kc] at y2
          have hsz3 := N2.size
          go_wp2_with fail
          refine (slContains_b _ _ _ _ ho2.rd HI.out).mono ?_
          rintro e w' ⟨rfl, rfl⟩
          have HE := Lib.hid (brL_yes HB2.out)
          go_wp2_with (at_builtin; refine append_int rfl _ _ rfl (w.heap.size + 1) _ (brL ts ls k) (k : Int) w2.heap.size rfl rfl (ho4.alloc _) (new_cell _ _ _) (by omega) (by simp; omega) ?_; intro v5 w5 ho5 hg5)
          go_roundw
          case rel => exact ⟨k + 1, by omega, by go_num, by rw [HE.out]; exact ho5, (N2.alloc _).app HR.out (ho4.alloc _) hg5⟩
          case measure => simp [intOf]; omega
      · obtain rfl : k = m := by omega
        go_wp2
        go_ret2
        exact ⟨_, rfl, by rw [HF.out, ← HM.out]; exact (hown.base (by omega)).iv, NK.below⟩

end Go.Proofs.Yteickcpmicifgaa
