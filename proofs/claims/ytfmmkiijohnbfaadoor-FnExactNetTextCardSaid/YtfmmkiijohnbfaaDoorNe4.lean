/- Chapter 6: links compared; is it a net? The program's check. -/
import Derived.Test.YtfmmkiijohnbfaaDoorNe2
import Derived.Deep.RegionHeld3
namespace Go.Proofs.YtfmmkiijohnbfaaDoor
open Go.RowKit Go.Sort
set_option linter.unusedSimpArgs false
set_option linter.unusedVariables false

def cmpI (a b : Int) : Int := if a < b then -1 else if b < a then 1 else 0
theorem cmpI_lt {a b : Int} (h : a < b) : cmpI a b = -1 := by simp [cmpI, h]
theorem cmpI_gt {a b : Int} (h : b < a) : cmpI a b = 1 := by unfold cmpI; rw [if_neg (by omega), if_pos h]
theorem cmpI_eq {a b : Int} (h : a = b) : cmpI a b = 0 := by subst h; simp [cmpI]
theorem isNaN_any (a : Int) (w : World) : Calls Tryd.prog 66 #[.int .i64 a] w fun e w' => e = .returned (.bool false) ∧ w = w' := by
  have h : (a != a) = false := by simp
  go_enter Tryd.func66, Tryd.ntmps66
  go_wp2
  go_ret
  exact ⟨rfl, rfl⟩
theorem compareI_any (a b : Int) (w : World) : Calls Tryd.prog 57 #[.int .i64 a, .int .i64 b] w fun e w' => e = .returned (.int .i64 (cmpI a b)) ∧ w = w' := by
  by_cases h1 : a < b
  · go_enter Tryd.func57, Tryd.ntmps57
    go_wp2_with (go_at_call 66; refine (isNaN_any _ _).mono ?_; rintro e w' ⟨rfl, rfl⟩)
    go_ret
    exact ⟨ret_int (cmpI_lt h1).symm, rfl⟩
  · by_cases h2 : b < a
    · go_enter Tryd.func57, Tryd.ntmps57
      go_wp2_with (go_at_call 66; refine (isNaN_any _ _).mono ?_; rintro e w' ⟨rfl, rfl⟩)
      go_ret
      exact ⟨ret_int (cmpI_gt h2).symm, rfl⟩
    · go_enter Tryd.func57, Tryd.ntmps57
      go_wp2_with (go_at_call 66; refine (isNaN_any _ _).mono ?_; rintro e w' ⟨rfl, rfl⟩)
      go_ret
      exact ⟨ret_int (cmpI_eq (by omega)).symm, rfl⟩

def orI (a b : Int) : Int := if a = 0 then b else a
theorem orI_two (a b : Int) (h w0 : Nat) (w : World) (hh : w.cell? ⟨h, 0, none⟩ = some (.int .i64 a)) (h1 : w.cell? ⟨h, 1, none⟩ = some (.int .i64 b)) :
    Calls Tryd.prog 56 #[.slice (some ⟨h, 0, none⟩) 2 2] w fun e w' => e = .returned (.int .i64 (orI a b)) ∧ w = w' := by
  by_cases ha : a = 0
  · subst ha
    have z : ((0 : Int) != 0) = false := rfl
    by_cases hb : b = 0
    · subst hb
      go_enter Tryd.func56, Tryd.ntmps56
      go_wp2
      go_loop [8] (fun i => ∃ k : Nat, k ≤ 2 ∧ i = .int .i64 k) (fun i => 2 - (intOf i).toNat)
      case atStart => exact ⟨0, by omega, rfl⟩
      case round =>
        obtain ⟨k, hk, rfl⟩ := hrel
        by_cases hlt : k < 2
        · have hc : w.cell? ⟨h, k, none⟩ = some (.int .i64 0) := by
            match k, hlt with
            | 0, _ => exact hh
            | 1, _ => exact h1
          go_wp2
          go_round
          case rel => exact ⟨k + 1, by omega, by go_num⟩
          case measure => simp [intOf]; omega
        · obtain rfl : k = 2 := by omega
          go_wp2
          go_ret
          exact ⟨ret_int (by simp [orI]), rfl⟩
    · have hb' : (b != 0) = true := bne_iff_ne.2 hb
      clear hb
      go_enter Tryd.func56, Tryd.ntmps56
      go_wp2
      go_loop [8] (fun i => ∃ k : Nat, k < 2 ∧ i = .int .i64 k) (fun i => 2 - (intOf i).toNat)
      case atStart => exact ⟨0, by omega, rfl⟩
      case round =>
        obtain ⟨k, hk, rfl⟩ := hrel
        by_cases hlt : k = 0
        · subst hlt
          go_wp2
          go_round
          case rel => exact ⟨0 + 1, by omega, by go_num⟩
          case measure => simp [intOf]
        · obtain rfl : k = 1 := by omega
          go_wp2
          go_ret
          exact ⟨ret_int (by simp [orI]), rfl⟩
  · have ha' : (a != 0) = true := bne_iff_ne.2 ha
    have hf := Lib.hid (show orI a b = a by simp [orI, ha])
    clear ha
    go_enter Tryd.func56, Tryd.ntmps56
    go_wp2
    go_loop [8] (fun i => i = .int .i64 0) (fun i => 0)
    case atStart => rfl
    case round =>
      obtain rfl := hrel
      go_wp2
      go_ret
      exact ⟨ret_int hf.out.symm, rfl⟩

/-- How the program compares links. -/
def cmpL (x y : T3) : Int := orI (cmpI x.x0 y.x0) (cmpI x.x1 y.x1)
theorem cmpL_lt {x y : T3} : cmpL x y < 0 ↔ befB x y = true := by
  rw [befB_iff]
  unfold cmpL orI cmpI
  (repeat' split) <;> omega
theorem cmpL_zero {x y : T3} : cmpL x y = 0 ↔ x.x0 = y.x0 ∧ x.x1 = y.x1 := by
  unfold cmpL orI cmpI
  (repeat' split) <;> omega
set_option maxHeartbeats 1000000 in
theorem compareLinks_any (x0 x1 x2 y0 y1 y2 : Int) (w : World) :
    Calls Tryd.prog 43 #[.agg #[.int .i64 x0, .int .i64 x1, .int .i64 x2], .agg #[.int .i64 y0, .int .i64 y1, .int .i64 y2]] w fun e w' => e = .returned (.int .i64 (cmpL ⟨x0, x1, x2⟩ ⟨y0, y1, y2⟩)) ∧ Below w.heap.size w w' := by
  have hB := ((Below.refl w.heap.size w).alloc (Nat.le_refl _) (.cells #[.int .i64 x0, .int .i64 x1, .int .i64 x2] 71)).alloc (by simp) (.cells #[.int .i64 y0, .int .i64 y1, .int .i64 y2] 71)
  have HC : Hid (cmpL ⟨x0, x1, x2⟩ ⟨y0, y1, y2⟩ = orI (cmpI x0 y0) (cmpI x1 y1)) := Lib.hid rfl
  go_enter Tryd.func43, Tryd.ntmps43
  go_wp2
  have q0 : ((w.alloc (.cells #[.int .i64 x0, .int .i64 x1, .int .i64 x2] 71)).alloc (.cells #[.int .i64 y0, .int .i64 y1, .int .i64 y2] 71)).cell? ⟨w.heap.size, 0, none⟩ = some (.int .i64 x0) := by simp [go_sem]
  have q1 : ((w.alloc (.cells #[.int .i64 x0, .int .i64 x1, .int .i64 x2] 71)).alloc (.cells #[.int .i64 y0, .int .i64 y1, .int .i64 y2] 71)).cell? ⟨w.heap.size, 1, none⟩ = some (.int .i64 x1) := by simp [go_sem]
  have p0 : ((w.alloc (.cells #[.int .i64 x0, .int .i64 x1, .int .i64 x2] 71)).alloc (.cells #[.int .i64 y0, .int .i64 y1, .int .i64 y2] 71)).cell? ⟨w.heap.size + 1, 0, none⟩ = some (.int .i64 y0) := by simp [go_sem]
  have p1 : ((w.alloc (.cells #[.int .i64 x0, .int .i64 x1, .int .i64 x2] 71)).alloc (.cells #[.int .i64 y0, .int .i64 y1, .int .i64 y2] 71)).cell? ⟨w.heap.size + 1, 1, none⟩ = some (.int .i64 y1) := by simp [go_sem]
  have hsz : w.heap.size ≤ ((w.alloc (.cells #[.int .i64 x0, .int .i64 x1, .int .i64 x2] 71)).alloc (.cells #[.int .i64 y0, .int .i64 y1, .int .i64 y2] 71)).heap.size := hB.size
  generalize (w.alloc (.cells #[.int .i64 x0, .int .i64 x1, .int .i64 x2] 71)).alloc (.cells #[.int .i64 y0, .int .i64 y1, .int .i64 y2] 71) = W at *
  generalize hb0 : w.heap.size = b0 at *
  have HB0 := Lib.hid hb0
  clear hb0
  generalize hb1 : b0 + 1 = b1 at *
  clear hb1
  generalize hca : cmpI x0 y0 = ca at *
  generalize hcb : cmpI x1 y1 = cb at *
  have CA : ∀ W', Calls Tryd.prog 57 #[.int .i64 x0, .int .i64 y0] W' fun e w' => e = .returned (.int .i64 ca) ∧ W' = w' := fun W' => hca ▸ compareI_any x0 y0 W'
  have CB : ∀ W', Calls Tryd.prog 57 #[.int .i64 x1, .int .i64 y1] W' fun e w' => e = .returned (.int .i64 cb) ∧ W' = w' := fun W' => hcb ▸ compareI_any x1 y1 W'
  clear hca hcb
  have HCA := Lib.hid CA
  have HCB := Lib.hid CB
  clear CA CB
  go_region_held3 (fun w' => w'.cell? ⟨b0, 0, none⟩ = some (.int .i64 x0) ∧ w'.cell? ⟨b0, 1, none⟩ = some (.int .i64 x1) ∧ w'.cell? ⟨b1, 0, none⟩ = some (.int .i64 y0) ∧ w'.cell? ⟨b1, 1, none⟩ = some (.int .i64 y1))
    (first | go_keep)
    (first
      | (go_at_call 57; (with_reducible refine (HCA.out _).mono ?_); rintro e w' ⟨rfl, rfl⟩)
      | (go_at_call 57; (with_reducible refine (HCB.out _).mono ?_); rintro e w' ⟨rfl, rfl⟩)
      | (go_at_call 56; (with_reducible refine (orI_two ca cb _ 0 _ (by simp [go_sem]) (by simp [go_sem])).mono ?_); rintro e w' ⟨rfl, rfl⟩))
  all_goals
    go_wp2
    go_ret
    exact ⟨ret_int HC.out.symm, by rw [HB0.out]; exact hB.drew.alloc (by simpa using hsz) _⟩

theorem compareLinks_g (x0 x1 x2 y0 y1 y2 c : Int) (w : World) (hc : cmpL ⟨x0, x1, x2⟩ ⟨y0, y1, y2⟩ = c) : ∀ d os, Calls Tryd.prog 43 #[.agg #[.int .i64 x0, .int .i64 x1, .int .i64 x2], .agg #[.int .i64 y0, .int .i64 y1, .int .i64 y2]] (grow (redrawn w d) os) fun e w'' => e = .returned (.int .i64 c) ∧ ∃ p : Regrown, w'' = grow (redrawn w p.d) p.os :=
  fun d os => Calls.regrown_of (by subst hc; exact compareLinks_any _ _ _ _ _ _ _)
theorem isLink_g {b : Bool} (x0 x1 x2 : Int) (m : Nat) (w : World) (hb : lnkB m ⟨x0, x1, x2⟩ = b) : ∀ d os, Calls Tryd.prog 42 #[.agg #[.int .i64 x0, .int .i64 x1, .int .i64 x2], .int .i64 m] (grow (redrawn w d) os) fun e w'' => e = .returned (.bool b) ∧ ∃ p : Regrown, w'' = grow (redrawn w p.d) p.os :=
  fun d os => Calls.regrown_of (by subst hb; exact isLink_any _ _ _ _ _)

set_option maxRecDepth 100000 in
set_option maxHeartbeats 2000000 in
theorem isNet_any (c0 c1 : Value) (ts ls : List T3) (w : World) (hr : RdN w c0 c1 ts ls) :
    Calls Tryd.prog 20 #[.agg #[c0, c1]] w fun e w' => e = .returned (.bool (netB ts ls)) ∧ Below w.heap.size w w' := by
  have hm0 : (ts.length : Int) ≤ 9223372036854775807 := by have := hr.1.max; unfold maxLen at this; omega
  have hm1 : (ls.length : Int) ≤ 9223372036854775807 := by have := hr.2.max; unfold maxLen at this; omega
  obtain ⟨a0, p0, rfl, hc0⟩ := hr.1.len
  obtain ⟨a1, p1, rfl, hc1⟩ := hr.2.len
  obtain ⟨n, hn⟩ : ∃ n, n = ts.length := ⟨_, rfl⟩
  obtain ⟨m, hm⟩ : ∃ m, m = ls.length := ⟨_, rfl⟩
  have HN := Lib.hid hn
  have HM := Lib.hid hm
  have HR := Lib.hid hr
  rw [← hn] at hm0 hc0 ⊢
  rw [← hm] at hm1 hc1 ⊢
  clear hn hm hr
  have hno : Hid (¬ (1 ≤ n ∧ n ≤ 16 ∧ m ≤ 40) → netB ts ls = false) := Lib.hid fun h => netB_noZ (by rw [← HN.out, ← HM.out]; exact h)
  have hb1 := (Below.refl w.heap.size w).alloc (Nat.le_refl _) (.cells #[.slice a0 n p0, .slice a1 m p1] 32)
  by_cases h1 : n < 1
  · have hf := Lib.hid (hno.out (by omega))
    go_enter Tryd.func20, Tryd.ntmps20
    go_wp2
    go_ret
    exact ⟨ret_bool hf.out.symm, hb1⟩
  by_cases h2 : 16 < n
  · have hf := Lib.hid (hno.out (by omega))
    go_enter Tryd.func20, Tryd.ntmps20
    go_wp2
    go_ret
    exact ⟨ret_bool hf.out.symm, hb1⟩
  by_cases h3 : 40 < m
  · have hf := Lib.hid (hno.out (by omega))
    go_enter Tryd.func20, Tryd.ntmps20
    go_wp2
    go_ret
    exact ⟨ret_bool hf.out.symm, hb1⟩
  clear hb1
  go_enter Tryd.func20, Tryd.ntmps20
  go_wp2
  go_loopw [26] (fun i wr => ∃ k : Nat, k ≤ n ∧ i = .int .i64 k ∧ Below w.heap.size w wr ∧ w.heap.size < wr.heap.size ∧ wr.cell? ⟨w.heap.size, 0, none⟩ = some (.slice a0 n p0) ∧ wr.cell? ⟨w.heap.size, 1, none⟩ = some (.slice a1 m p1) ∧ Hid (∀ j, j < k → towB (rAt ts j) = true)) (fun i wr => n - (intOf i).toNat)
  case atStart => exact ⟨0, Nat.zero_le _, rfl, (Below.refl _ _).alloc (Nat.le_refl _) _, by simp, by simp [go_sem], by simp [go_sem], Lib.hid fun j hj => by omega⟩
  case round =>
    obtain ⟨k, hk, rfl, hbl, hbs, hb0, hb1, hall⟩ := hrel
    by_cases hlt : k < n
    · obtain ⟨g, off, rfl, hg, q0, q1, q2⟩ := (HR.out.below hbl (Nat.le_refl _)).1.at3 rfl k (by rw [← HN.out]; exact hlt)
      have hb2 := hbl.alloc hbl.size (.cells #[.int .i64 (rAt ts k).x0, .int .i64 (rAt ts k).x1, .int .i64 (rAt ts k).x2] 69)
      have hf : Hid (towB (rAt ts k) = false → netB ts ls = false) := Lib.hid fun h => netB_noT (by rw [← HN.out]; exact hlt) h
      have hall' : Hid (towB (rAt ts k) = true → ∀ j, j < k + 1 → towB (rAt ts j) = true) := Lib.hid fun h j hj => by
        by_cases e : j = k
        · rw [e]; exact h
        · exact hall.out j (by omega)
      have ISTOW := Lib.hid (isTower_any (rAt ts k).x0 (rAt ts k).x1 (rAt ts k).x2 (wr.alloc (.cells #[.int .i64 (rAt ts k).x0, .int .i64 (rAt ts k).x1, .int .i64 (rAt ts k).x2] 69)))
      cases h0 : towB (rAt ts k) with
      | false =>
        have H0 := Lib.hid h0
        clear h0
        go_wp2_with fail
        refine (ISTOW.out).mono ?_
        rintro e w1 ⟨rfl, hb3⟩
        rw [show towB ⟨(rAt ts k).x0, (rAt ts k).x1, (rAt ts k).x2⟩ = false from H0.out]
        go_wp2
        go_ret
        exact ⟨ret_bool (hf.out H0.out).symm, hb2.trans (hb3.mono hb2.size)⟩
      | true =>
        have H0 := Lib.hid h0
        clear h0
        go_wp2_with fail
        refine (ISTOW.out).mono ?_
        rintro e w1 ⟨rfl, hb3⟩
        rw [show towB ⟨(rAt ts k).x0, (rAt ts k).x1, (rAt ts k).x2⟩ = true from H0.out]
        have z0 := hb3.cell (p := ⟨w.heap.size, 0, none⟩) (by simp; omega)
        have z1 := hb3.cell (p := ⟨w.heap.size, 1, none⟩) (by simp; omega)
        simp [go_sem, *] at z0 z1
        have zs : w.heap.size < w1.heap.size := by have := hb3.size; simp at this; omega
        go_wp2
        go_roundw
        case rel => exact ⟨k + 1, by omega, by go_num, hb2.trans (hb3.mono hb2.size), zs, z0, z1, Lib.hid (hall'.out H0.out)⟩
        case measure => simp [intOf]; omega
    · obtain rfl : k = n := by omega
      have hallT : Hid (∀ j, j < ts.length → towB (rAt ts j) = true) := Lib.hid fun j hj => hall.out j (by rw [HN.out]; exact hj)
      clear hall
      go_wp2
      go_loopw [37] (fun i ws => ∃ l : Nat, l ≤ m ∧ i = .int .i64 l ∧ Below w.heap.size w ws ∧ w.heap.size < ws.heap.size ∧ ws.cell? ⟨w.heap.size, 0, none⟩ = some (.slice a0 k p0) ∧ ws.cell? ⟨w.heap.size, 1, none⟩ = some (.slice a1 m p1) ∧ Hid (∀ j, j < l → lnkB ts.length (rAt ls j) = true ∧ stepB ls j = true)) (fun i ws => m - (intOf i).toNat)
      case atStart => exact ⟨0, Nat.zero_le _, rfl, hbl, hbs, hb0, hb1, Lib.hid fun j hj => by omega⟩
      case round =>
        clear hbl hbs hb0 hb1
        obtain ⟨l, hl, rfl, hbl, hbs, hb0, hb1, hall⟩ := hrel
        by_cases hlt : l < m
        · obtain ⟨g, off, rfl, hg, q0, q1, q2⟩ := (HR.out.below hbl (Nat.le_refl _)).2.at3 rfl l (by rw [← HM.out]; exact hlt)
          have hb2 := hbl.alloc hbl.size (.cells #[.int .i64 (rAt ls l).x0, .int .i64 (rAt ls l).x1, .int .i64 (rAt ls l).x2] 71)
          have HL : Hid (lnkB ts.length (rAt ls l) = false → netB ts ls = false) := Lib.hid fun h => netB_noL (by rw [← HM.out]; exact hlt) h
          have hall' : Hid (lnkB ts.length (rAt ls l) = true → stepB ls l = true → ∀ j, j < l + 1 → lnkB ts.length (rAt ls j) = true ∧ stepB ls j = true) := Lib.hid fun h h' j hj => by
            by_cases e : j = l
            · rw [e]; exact ⟨h, h'⟩
            · exact hall.out j (by omega)
          go_wp2
          have n0 : (wr.alloc (.cells #[.int .i64 (rAt ls l).x0, .int .i64 (rAt ls l).x1, .int .i64 (rAt ls l).x2] 71)).cell? ⟨w.heap.size, 0, none⟩ = some (.slice a0 k p0) := by simp [go_sem, *]
          have n1 : (wr.alloc (.cells #[.int .i64 (rAt ls l).x0, .int .i64 (rAt ls l).x1, .int .i64 (rAt ls l).x2] 71)).cell? ⟨w.heap.size, 1, none⟩ = some (.slice (some ⟨g, off, none⟩) m p1) := by simp [go_sem, *]
          have x0 : (wr.alloc (.cells #[.int .i64 (rAt ls l).x0, .int .i64 (rAt ls l).x1, .int .i64 (rAt ls l).x2] 71)).cell? ⟨wr.heap.size, 0, none⟩ = some (.int .i64 (rAt ls l).x0) := by simp [go_sem]
          have x1 : (wr.alloc (.cells #[.int .i64 (rAt ls l).x0, .int .i64 (rAt ls l).x1, .int .i64 (rAt ls l).x2] 71)).cell? ⟨wr.heap.size, 1, none⟩ = some (.int .i64 (rAt ls l).x1) := by simp [go_sem]
          have x2 : (wr.alloc (.cells #[.int .i64 (rAt ls l).x0, .int .i64 (rAt ls l).x1, .int .i64 (rAt ls l).x2] 71)).cell? ⟨wr.heap.size, 2, none⟩ = some (.int .i64 (rAt ls l).x2) := by simp [go_sem]
          have hsz : (wr.alloc (.cells #[.int .i64 (rAt ls l).x0, .int .i64 (rAt ls l).x1, .int .i64 (rAt ls l).x2] 71)).heap.size = wr.heap.size + 1 := by simp
          generalize wr.alloc (.cells #[.int .i64 (rAt ls l).x0, .int .i64 (rAt ls l).x1, .int .i64 (rAt ls l).x2] 71) = W at *
          generalize wr.heap.size = Bx at *
          have K0 := cell_regrown n0
          have K1 := cell_regrown n1
          have K2 := cell_regrown x0
          have K3 := cell_regrown x1
          have K4 := cell_regrown x2
          clear x0 x1 x2
          cases h0 : lnkB ts.length (rAt ls l) with
          | false =>
            have hf := Lib.hid (HL.out h0)
            have C0 := isLink_g (b := false) (rAt ls l).x0 (rAt ls l).x1 (rAt ls l).x2 k W (by rw [HN.out]; exact h0)
            clear h0
            refine wp_region_quiet_below (by kernel_rfl) (by kernel_rfl) ?_
            repeat (go_big_quiet_step (first | (with_reducible exact C0 _ _)))
            refine wpQuiet_nil ?_
            intro _ hw'
            obtain ⟨⟨dq, osq⟩, hw''⟩ := hw'
            subst hw''
            have hb3 := hb2.trans ((below_regrown W dq osq).mono hb2.size)
            go_wp2
            go_ret
            exact ⟨ret_bool hf.out.symm, hb3⟩
          | true =>
            have HK := Lib.hid h0
            have C0 := isLink_g (b := true) (rAt ls l).x0 (rAt ls l).x1 (rAt ls l).x2 k W (by rw [HN.out]; exact h0)
            clear h0
            rcases Nat.eq_zero_or_pos l with rfl | hpos
            · have hall2 := Lib.hid (hall'.out HK.out (by simp [stepB]))
              refine wp_region_quiet_below (by kernel_rfl) (by kernel_rfl) ?_
              repeat (go_big_quiet_step (first | (with_reducible exact C0 _ _)))
              refine wpQuiet_nil ?_
              intro _ hw'
              obtain ⟨⟨dq, osq⟩, hw''⟩ := hw'
              subst hw''
              have hb3 := hb2.trans ((below_regrown W dq osq).mono hb2.size)
              have z0 := K0 dq osq
              have z1 := K1 dq osq
              have zs : w.heap.size < (grow (redrawn W dq) osq).heap.size := by have := (below_regrown W dq osq).size; omega
              clear C0 K0 K1 K2 K3 K4
              go_wp2
              go_roundw
              case rel => exact ⟨0 + 1, by omega, by go_num, hb3, zs, z0, z1, hall2⟩
              case measure => simp [intOf]; omega
            · obtain ⟨j, rfl⟩ : ∃ j, l = j + 1 := ⟨l - 1, by omega⟩
              obtain ⟨g', off', hge, -, y0, y1, y2⟩ := (HR.out.below hb2 (Nat.le_refl _)).2.at3 rfl j (by rw [← HM.out]; omega)
              simp only [Option.some.injEq, Addr.mk.injEq, and_true] at hge
              obtain ⟨rfl, rfl⟩ := hge
              have K5 := cell_regrown y0
              have K6 := cell_regrown y1
              have K7 := cell_regrown y2
              have hwj : IntKind.i64.wrap (((j + 1 : Nat) : Int) - 1) = (j : Int) := by rw [IntWalk.i64_in _ (by omega)]; omega
              clear y0 y1 y2
              obtain ⟨c, h3⟩ : ∃ c, cmpL ⟨(rAt ls j).x0, (rAt ls j).x1, (rAt ls j).x2⟩ ⟨(rAt ls (j + 1)).x0, (rAt ls (j + 1)).x1, (rAt ls (j + 1)).x2⟩ = c := ⟨_, rfl⟩
              have C3 := compareLinks_g _ _ _ _ _ _ c W h3
              by_cases hc : 0 ≤ c
              · have hf : Hid (netB ts ls = false) := Lib.hid (netB_noS (by rw [← HM.out]; exact hlt) (by
                  cases e : befB (rAt ls j) (rAt ls (j + 1)) with
                  | false => rfl
                  | true => have := cmpL_lt.2 e; rw [h3] at this; omega))
                clear h3
                refine wp_region_quiet_below (by kernel_rfl) (by kernel_rfl) ?_
                repeat (go_big_quiet_step (first | (with_reducible exact C0 _ _) | (with_reducible exact C3 _ _)))
                refine wpQuiet_nil ?_
                intro _ hw'
                obtain ⟨⟨dq, osq⟩, hw''⟩ := hw'
                subst hw''
                have hb3 := hb2.trans ((below_regrown W dq osq).mono hb2.size)
                go_wp2
                go_ret
                exact ⟨ret_bool hf.out.symm, hb3⟩
              · have hall2 := Lib.hid (hall'.out HK.out (by unfold stepB; simp; exact cmpL_lt.1 (by rw [show cmpL (rAt ls j) (rAt ls (j + 1)) = c from h3]; omega)))
                clear h3
                refine wp_region_quiet_below (by kernel_rfl) (by kernel_rfl) ?_
                repeat (go_big_quiet_step (first | (with_reducible exact C0 _ _) | (with_reducible exact C3 _ _)))
                refine wpQuiet_nil ?_
                intro _ hw'
                obtain ⟨⟨dq, osq⟩, hw''⟩ := hw'
                subst hw''
                have hb3 := hb2.trans ((below_regrown W dq osq).mono hb2.size)
                have z0 := K0 dq osq
                have z1 := K1 dq osq
                have zs : w.heap.size < (grow (redrawn W dq) osq).heap.size := by have := (below_regrown W dq osq).size; omega
                clear C0 C3 K0 K1 K2 K3 K4 K5 K6 K7
                go_wp2
                go_roundw
                case rel => exact ⟨(j + 1) + 1, by omega, by go_num, hb3, zs, z0, z1, hall2⟩
                case measure => simp [intOf]; omega
        · obtain rfl : l = m := by omega
          have hyes : Hid (netB ts ls = true) := Lib.hid (netB_yes hallT.out (fun j hj => hall.out j (by rw [HM.out]; exact hj)) (by rw [← HN.out]; omega) (by rw [← HN.out]; omega) (by rw [← HM.out]; omega))
          go_wp2
          go_ret
          exact ⟨ret_bool hyes.out.symm, hbl⟩
end Go.Proofs.YtfmmkiijohnbfaaDoor
