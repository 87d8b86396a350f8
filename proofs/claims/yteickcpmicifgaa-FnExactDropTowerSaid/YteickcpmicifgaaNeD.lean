/- Chapter 6: what can be reached, the program's way. Written by a generator of this claim's author. -/
import Derived.Test.YteickcpmicifgaaNeC
namespace Go.Proofs.Yteickcpmicifgaa
open Go.RowKit Go.Sort
set_option linter.unusedSimpArgs false
set_option linter.unusedVariables false

/-- The array of marks lies in block g. -/
def ArrB (w : World) (B g : Nat) (f : Nat → Bool) : Prop := w.ownsRow B 93 16 (.slice (some ⟨g, 0, none⟩) 1 1) 1 ((List.range 16).map fun k => Value.bool (f k))
theorem ArrB.cell {w : World} {B g : Nat} {f : Nat → Bool} (h : ArrB w B g f) {k : Nat} (hk : k < 16) : w.cell? ⟨g, k, none⟩ = some (.bool (f k)) := by
  rw [World.ownsRow.cellAt h k (by omega)]; simp [hk]
theorem ArrB.frozen {w : World} {B g : Nat} {f : Nat → Bool} (h : ArrB w B g f) (k : Nat) : w.frozen? ⟨g, k, none⟩ = false := World.ownsRow.frozenAt h k
theorem ArrB.lt {w : World} {B g : Nat} {f : Nat → Bool} (h : ArrB w B g f) : B ≤ g ∧ g < w.heap.size := World.ownsRow.lt h g rfl
theorem set_marks (f : Nat → Bool) {k : Nat} (hk : k < 16) : ((List.range 16).map fun j => Value.bool (f j)).set k (.bool true) = (List.range 16).map fun j => Value.bool (putF f k j) := by
  apply List.ext_getElem?
  intro j
  rw [List.getElem?_set]
  by_cases e : k = j
  · subst e; simp [hk, putF]
  · rw [if_neg e]
    simp only [List.getElem?_map]
    by_cases hj : j < 16
    · simp [hj, putF]; exact fun e' => absurd e'.symm e
    · simp [hj]
theorem ArrB.put {w : World} {B g : Nat} {f : Nat → Bool} (h : ArrB w B g f) {k : Nat} (hk : k < 16) : ArrB (w.setCell ⟨g, k, none⟩ (.bool true)) B g (putF f k) ∧ w.grownBy (w.setCell ⟨g, k, none⟩ (.bool true)) (some g) := by
  obtain ⟨s1, g1⟩ := World.ownsRow.stored h k (.bool true)
  refine ⟨?_, g1⟩
  unfold ArrB
  rw [← set_marks f hk]; exact s1
theorem ArrB.later {w w' : World} {B g : Nat} {f : Nat → Bool} (h : ArrB w B g f) (hb : Below w.heap.size w w') : ArrB w' B g f := row_at h fun k hk => hb.block k (World.ownsRow.lt h k hk).2
theorem ArrB.new (w : World) (B : Nat) (hB : B ≤ w.heap.size) (cs : Array Value) (f : Nat → Bool) (hc : cs.toList = (List.range 16).map fun k => Value.bool (f k)) : ArrB (w.alloc (.cells cs 93)) B w.heap.size f := by
  have hs : cs.size = 1 * 16 := by rw [← Array.length_toList, hc]; simp
  have := World.ownsRow_lit (base := B) (e := 93) (size := 16) w cs 1 hB (by unfold maxLen; decide) hs
  unfold ArrB
  rw [← hc]; exact this
theorem ArrB.heap {w : World} {B g : Nat} {f : Nat → Bool} (h : ArrB w B g f) : w.heap[g]? = some (.cells ((List.range 16).map fun k => Value.bool (f k)).toArray 93 (0, 0)) := by
  obtain ⟨h1, h2⟩ := h
  rcases h2 with ⟨e, -⟩ | ⟨g', cap, cur, e, hb, hg, hc, hm, hs, ht⟩
  · cases e
  · simp only [Value.slice.injEq, Option.some.injEq, Addr.mk.injEq, and_true, true_and] at e
    obtain ⟨rfl, rfl⟩ := e
    rw [hg]
    have : cur.toList = (List.range 16).map fun k => Value.bool (f k) := by
      rw [← ht, List.take_of_length_le (by simp; omega)]
    rw [← this]
theorem Try_info_arr : (Try.prog.info? 93).map (·.size) = some 16 := by kernel_rfl
theorem index_arr (cs : Array Value) (hs : cs.size = 16) (k : Nat) (v : Value) (hv : cs[k]? = some v) (w : World) : (Instr.index 93 (.agg cs) (.int .i64 (k : Int))).run Try.prog w = .ok v w := by
  obtain ⟨hlt, rfl⟩ := Array.getElem?_eq_some_iff.1 hv
  have h1 : ¬ ((k : Int) < 0) := by omega
  have h2 : (k : Int) < 16 := by omega
  simp [Instr.index, run_underlying Try.underlying93, asIntOf, go_sem, hs, show k < 16 by omega, hv]

theorem reach1_any (i : Int) (w : World) : Calls Try.prog 61 #[.int .i64 i] w fun e w' => e = .returned (.bool true) ∧ w = w' := by
  go_enter Try.func61, Try.ntmps61
  go_wp2
  go_ret
  exact ⟨rfl, rfl⟩
theorem ArrB.drew {w : World} {B g : Nat} {f : Nat → Bool} (h : ArrB w B g f) : ArrB w.drew B g f := h.later (Below.refl _ _).drew
set_option maxRecDepth 100000 in
set_option maxHeartbeats 4000000 in
theorem reachedAll_any (c0 c1 : Value) (ts ls : List T3) (s : Nat) (w : World) (hr : RdN w c0 c1 ts ls) (hok : NetOk ts ls) (hs : s < ts.length) :
    Calls Try.prog 60 #[.agg #[c0, c1], .int .i64 s, .func (.func 61) #[] #[]] w fun e w' => ∃ v', e = .returned v' ∧ Own w' w.heap.size v' (rcL (lnkE ls (fun _ => true)) s ts.length) ∧ Below w.heap.size w w' := by
  obtain ⟨a0, p0, rfl, hp0⟩ := hr.1.len
  obtain ⟨a1, p1, rfl, hp1⟩ := hr.2.len
  obtain ⟨n, hn⟩ : ∃ n, n = ts.length := ⟨_, rfl⟩
  obtain ⟨m, hm⟩ : ∃ m, m = ls.length := ⟨_, rfl⟩
  have hn16 : n ≤ 16 := by rw [hn]; exact hok.t16
  have hm40 : m ≤ 40 := by rw [hm]; exact hok.l40
  rw [← hn] at hr hp0 hs
  rw [← hm] at hr hp1
  rw [← hn, ← hm]
  have HN := Lib.hid hn
  have HM := Lib.hid hm
  have HOK := Lib.hid hok
  clear hn hm hok
  have N0 := NB.start hr 31
  have h0 := N0.b0
  have h1 := N0.b1
  have HR := Lib.hid hr
  clear hr
  have hs16 : (s : Int) < 16 := by omega
  have hs0 : (0 : Int) ≤ (s : Int) := by omega
  have A1 := ArrB.new (w.alloc (.cells #[.slice a0 n p0, .slice a1 m p1] 31)) (w.heap.size + 1) (by simp) (([.bool false, .bool false, .bool false, .bool false, .bool false, .bool false, .bool false, .bool false, .bool false, .bool false, .bool false, .bool false, .bool false, .bool false, .bool false, .bool false] : List Value).set s (.bool true)).toArray (putF (fun _ => false) s) (by rw [← set_marks (fun _ => false) (k := s) (by omega)]; rfl)
  have NA1 := N0.alloc (.cells (([.bool false, .bool false, .bool false, .bool false, .bool false, .bool false, .bool false, .bool false, .bool false, .bool false, .bool false, .bool false, .bool false, .bool false, .bool false, .bool false] : List Value).set s (.bool true)).toArray 93)
  have A0 := ArrB.new (w.alloc (.cells #[.slice a0 n p0, .slice a1 m p1] 31)) (w.heap.size + 1) (by simp) #[.bool false, .bool false, .bool false, .bool false, .bool false, .bool false, .bool false, .bool false, .bool false, .bool false, .bool false, .bool false, .bool false, .bool false, .bool false, .bool false] (fun _ => false) rfl
  simp only [World.size_alloc] at A1 A0
  have hcs := A0.cell (k := s) (by omega)
  have hfs := A0.frozen s
  clear A0
  have HM1 : Hid (Mrk (lnkE ls (fun _ => true)) s n (putF (fun _ => false) s)) := Lib.hid ⟨by simp [putF], fun k hk => by
    unfold putF at hk
    by_cases e : k = s
    · subst e; exact ⟨hs, .here⟩
    · rw [if_neg e] at hk; cases hk⟩
  have HU1 := Lib.hid (unm_le (putF (fun _ => false) s) 16)
  generalize putF (fun _ => false) s = f1 at *
  go_enter Try.func60, Try.ntmps60
  go_wp2
  clear h0 h1 N0 hcs hfs
  go_loopg [8] 100 (fun gh b wr => ∃ (f : Nat → Bool) (b0 : Bool), b = .bool b0 ∧ NB w wr a0 n p0 a1 m p1 ts ls ∧ ArrB wr (w.heap.size + 1) (w.heap.size + 1) f ∧ Hid (Mrk (lnkE ls (fun _ => true)) s n f) ∧ Hid (unm f 16 + (if b0 then 1 else 0) ≤ gh) ∧ Hid (b0 = false → Clo ls (fun _ => true) f ls.length))
  case atStart => exact ⟨f1, true, rfl, NA1, A1, HM1, Lib.hid (by have := HU1.out; simp; omega), Lib.hid (fun h => by cases h)⟩
  case round =>
    clear NA1 A1 HM1 HU1
    obtain ⟨f, b0, rfl, NK, hA, HMk, HU, HC⟩ := hrel
    cases b0 with
    | true =>
      have h0 := NK.b0
      have h1 := NK.b1
      have hU0 : unm f 16 + 1 ≤ gk := by have := HU.out; simpa using this
      obtain ⟨U, hUe⟩ : ∃ U, unm f 16 = U := ⟨_, rfl⟩
      have HU2 : Hid (unm f 16 + (if false then 1 else 0) ≤ U) := Lib.hid (by rw [hUe]; simp)
      rw [hUe] at hU0
      clear hUe HU HC
      go_wp2
      go_loopw [8, 20] (fun b c ws => ∃ (f' : Nat → Bool) (b' : Bool) (t : Nat), b = .bool b' ∧ c = .int .i64 t ∧ t ≤ m ∧ NB w ws a0 n p0 a1 m p1 ts ls ∧ ArrB ws (w.heap.size + 1) (w.heap.size + 1) f' ∧ Hid (Mrk (lnkE ls (fun _ => true)) s n f') ∧ Hid (unm f' 16 + (if b' then 1 else 0) ≤ U) ∧ Hid (b' = false → Clo ls (fun _ => true) f' t)) (fun b c ws => m - (intOf c).toNat)
      case atStart => exact ⟨f, false, 0, rfl, rfl, Nat.zero_le _, NK, hA, HMk, HU2, Lib.hid (fun _ j hj => by omega)⟩
      case round =>
        clear NK hA HMk HU2 h0 h1
        obtain ⟨f', b', t, rfl, rfl, htm, NK, hA, HMk, HU, HC⟩ := hrel
        have h0 := NK.b0
        have h1 := NK.b1
        by_cases hlt : t < m
        · obtain ⟨g, off, rfl, hg, q0, q1, q2⟩ := NK.rd.2.at3 HM.out t hlt
          have hl := HOK.out.lnk t (by rw [← HM.out]; exact hlt)
          rw [← HN.out] at hl
          obtain ⟨u, hu⟩ : ∃ u : Nat, (rAt ls t).x0 = (u : Int) := ⟨(rAt ls t).x0.toNat, by omega⟩
          obtain ⟨v, hv⟩ : ∃ v : Nat, (rAt ls t).x1 = (v : Int) := ⟨(rAt ls t).x1.toNat, by omega⟩
          have hun : u < n := by omega
          have hvn : v < n := by omega
          have huv : u ≠ v := by omega
          have hu16 : (u : Int) < 16 := by omega
          have hv16 : (v : Int) < 16 := by omega
          rw [hu] at q0
          rw [hv] at q1
          have HUu := Lib.hid hu
          have HVv := Lib.hid hv
          clear hl hu hv
          generalize (rAt ls t).x2 = x2 at *
          have NL := NK.alloc (.cells #[.int .i64 (u : Int), .int .i64 (v : Int), .int .i64 x2] 53)
          have hA2 := hA.later ((Below.refl _ _).alloc (Nat.le_refl _) (.cells #[.int .i64 (u : Int), .int .i64 (v : Int), .int .i64 x2] 53))
          have hwz : w.heap.size + 1 ≤ wr.heap.size := NK.size
          have hx0 : (wr.alloc (.cells #[.int .i64 (u : Int), .int .i64 (v : Int), .int .i64 x2] 53)).cell? ⟨wr.heap.size, 0, none⟩ = some (.int .i64 (u : Int)) := by simp [go_sem]
          have hx1 : (wr.alloc (.cells #[.int .i64 (u : Int), .int .i64 (v : Int), .int .i64 x2] 53)).cell? ⟨wr.heap.size, 1, none⟩ = some (.int .i64 (v : Int)) := by simp [go_sem]
          have hArr := hA.lt.2
          go_wp2
          clear h0 h1 q0 q1 q2 NK hA
          generalize wr.alloc (.cells #[.int .i64 (u : Int), .int .i64 (v : Int), .int .i64 x2] 53) = W at *
          generalize hBx : wr.heap.size = Bx at *
          clear hBx
          have K0 := cell_regrown hx0
          have K1 := cell_regrown hx1
          have K2 := cell_regrown (hA2.cell (k := u) (by omega))
          have K3 := cell_regrown (hA2.cell (k := v) (by omega))
          have HCn : Hid (b' = false → f' u = f' v ∨ (fun _ => true) t = false → Clo ls (fun _ => true) f' (t + 1)) := Lib.hid fun hb h j hj hp => by
            by_cases e : j = t
            · subst e
              rcases h with h | h
              · rw [HUu.out, HVv.out]; exact h
              · rw [h] at hp; cases hp
            · exact HC.out hb j (by omega) hp
          obtain ⟨bu, hbu⟩ : ∃ x, f' u = x := ⟨_, rfl⟩
          obtain ⟨bv, hbv⟩ : ∃ x, f' v = x := ⟨_, rfl⟩
          rw [hbu] at K2
          rw [hbv] at K3
          have HBU := Lib.hid hbu
          have HBV := Lib.hid hbv
          clear hbu hbv
          by_cases he : bu = bv
          · have HC2 := Lib.hid fun hb => HCn.out hb (.inl (by rw [HBU.out, HBV.out]; exact he))
            subst he
            cases bu
            all_goals
              refine wp_region_quiet_below (by kernel_rfl) (by kernel_rfl) ?_
              repeat (go_big_quiet_step (fail))
              refine wpQuiet_nil ?_
              intro _ hw'
              obtain ⟨⟨dq, osq⟩, hw''⟩ := hw'
              subst hw''
              have hbq := below_regrown W dq osq
              have NQ := NL.next hbq
              have AQ := hA2.later hbq
              clear K0 K1 K2 K3
              generalize grow (redrawn W dq) osq = W2 at *
              go_wp2
              go_roundw
              case rel => exact ⟨f', b', t + 1, rfl, by go_num, by omega, NQ, AQ, HMk, HU, HC2⟩
              case measure => simp [intOf]; omega
          · obtain rfl : bv = !bu := by revert he; cases bu <;> cases bv <;> simp
            have hne : f' u ≠ f' v := by rw [HBU.out, HBV.out]; exact he
            cases hp : (fun _ => true) t with
            | false => cases hp
            | true =>
              have HM2 : Hid (Mrk (lnkE ls (fun _ => true)) s n (putF (putF f' u) v)) := Lib.hid (HMk.out.add (j := t) (by rw [← HM.out]; exact hlt) hp HUu.out HVv.out hun hvn hne)
              have HU2 : Hid (unm (putF (putF f' u) v) 16 + (if true then 1 else 0) ≤ U) := Lib.hid (by
                have h1 := unm_put2 (f := f') (u := u) (v := v) (n := 16) (by omega) (by omega) hne
                have h2 := HU.out
                simp
                split at h2 <;> omega)
              have KC : ∀ d os, Calls Try.prog 61 #[.int .i64 (t : Int)] (grow (redrawn W d) os) fun e w'' => e = .returned (.bool true) ∧ ∃ p : Regrown, w'' = grow (redrawn W p.d) p.os := fun d os => Calls.regrown_same (reach1_any (t : Int) _)
              clear he hp hne
              cases bu
              all_goals
                refine wp_region_quiet_below (by kernel_rfl) (by kernel_rfl) ?_
                repeat (go_big_quiet_step (first | (with_reducible exact KC _ _)))
                refine wpQuiet_nil ?_
                intro _ hw'
                obtain ⟨⟨dq, osq⟩, hw''⟩ := hw'
                subst hw''
                have hbq := below_regrown W dq osq
                have NQ := NL.next hbq
                have AQ := hA2.later hbq
                have X0 := K0 dq osq
                have X1 := K1 dq osq
                clear K0 K1 K2 K3 KC
                generalize grow (redrawn W dq) osq = W2 at *
                obtain ⟨AP, GP⟩ := AQ.put (k := u) (by omega)
                obtain ⟨AP2, GP2⟩ := AP.put (k := v) (by omega)
                have cu := AQ.cell (k := u) (by omega)
                have cv := AQ.cell (k := v) (by omega)
                have fu := AQ.frozen u
                have fv := AQ.frozen v
                have NP := ((NQ.grown HR.out GP (by intro k hk; cases hk; omega)).grown HR.out GP2 (by intro k hk; cases hk; omega)).drew
                have AP3 := AP2.drew
                go_wp2
                go_region
                clear cu cv fu fv GP GP2 AP AP2 AQ NQ X0 X1
                go_wp2
                go_roundw
                case rel => exact ⟨putF (putF f' u) v, true, t + 1, rfl, by go_num, by omega, NP, AP3, HM2, HU2, Lib.hid (fun h => by cases h)⟩
                case measure => simp [intOf]; omega
        · obtain rfl : t = m := by omega
          have HC2 : Hid (b' = false → Clo ls (fun _ => true) f' ls.length) := Lib.hid fun h => by rw [← HM.out]; exact HC.out h
          obtain ⟨U2, hU2⟩ : ∃ U2, unm f' 16 + (if b' then 1 else 0) = U2 := ⟨_, rfl⟩
          have HU2 : Hid (unm f' 16 + (if b' then 1 else 0) ≤ U2) := Lib.hid (by rw [hU2]; exact Nat.le_refl _)
          have hUU : U2 ≤ U := by have := HU.out; omega
          clear hU2
          go_wp2
          go_roundg U2
          case measure => omega
          case rel => exact ⟨f', b', rfl, NK, hA, HMk, HU2, HC2⟩
    | false =>
      have HALL := Lib.hid (HMk.out.all (HC.out rfl))
      have hAh := hA.heap
      have hb0 := Below.refl wr.heap.size wr
      have hwz := NK.size
      obtain ⟨cs, hcs⟩ : ∃ cs, cs = ((List.range 16).map fun k => Value.bool (f k)).toArray := ⟨_, rfl⟩
      have hcsz : cs.size = 16 := by rw [hcs]; simp
      have HIX : Hid (∀ k : Nat, k < 16 → ∀ W : World, (Instr.index 93 (.agg cs) (.int .i64 (k : Int))).run Try.prog W = .ok (.bool (f k)) W) := Lib.hid fun k hk W => index_arr cs hcsz k _ (by rw [hcs]; simp [hk]) W
      rw [← hcs] at hAh
      have hci : (Try.prog.info? 93).map (·.size) = some cs.size := by rw [hcsz]; exact Try_info_arr
      have HCI := Lib.hid hci
      have HAH := Lib.hid hAh
      have hbw := NK.below
      clear hcs hcsz hci hAh NK hA HU HMk HC
      go_wp2_with (refine wpList_load_row rfl 93 _ rfl (w.heap.size + 1) rfl 93 cs (0, 0) _ HAH.out Try.underlying93 rfl HCI.out ?_)
      go_loopw [11, 47] (fun o c ws => ∃ t : Nat, c = .int .i64 t ∧ t ≤ 16 ∧ Own ws (w.heap.size + 1) o (mrkL f t) ∧ Below w.heap.size w ws ∧ w.heap.size + 1 ≤ ws.heap.size) (fun o c ws => 16 - (intOf c).toNat)
      case atStart => exact ⟨0, rfl, by omega, Own.nil _ _, hbw, hwz⟩
      case round =>
        clear hbw hwz hb0
        obtain ⟨t, rfl, ht, hown, hbw, hwz⟩ := hrel
        by_cases hlt : t < 16
        · have hix := fun W => HIX.out t hlt W
          have hml := mrkL_len f t
          cases hft : f t with
          | true =>
            have HE := Lib.hid (mrkL_yes hft)
            rw [hft] at hix
            clear hft
            go_wp2_with (at_builtin; refine append_int rfl _ _ rfl (w.heap.size + 1) _ (mrkL f t) (t : Int) wr.heap.size rfl rfl (hown.alloc _) (new_cell _ _ _) (by omega) (by simp; omega) ?_; intro v2 w2 ho2 hg2)
            go_roundw
            case rel => exact ⟨t + 1, by go_num, by omega, by rw [HE.out]; exact ho2, ((hbw.alloc hbw.size _).grown hg2 (by simp; omega) (fun i hi => by have := ((hown.alloc (.cells #[.int .i64 (t : Int)] 3)).lt i hi).1; omega)), by have := hg2.size; simp at this; omega⟩
            case measure => simp [intOf]; omega
          | false =>
            have HE := Lib.hid (mrkL_no hft)
            rw [hft] at hix
            clear hft
            go_wp2
            go_roundw
            case rel => exact ⟨t + 1, by go_num, by omega, by rw [HE.out]; exact hown, hbw, hwz⟩
            case measure => simp [intOf]; omega
        · obtain rfl : t = 16 := by omega
          have HQ := Lib.hid (mrkL_rc (N := 16) hn16 HALL.out)
          go_wp2
          go_ret
          exact ⟨_, rfl, by rw [← HQ.out]; exact hown.base (by omega), hbw⟩

end Go.Proofs.Yteickcpmicifgaa
