/- Chapter 6: links looked up, squares of distances. Written by a generator of this claim's author. -/
import Derived.Test.YteickcpmicifgaaNe6
import Derived.Deep.LoopGhost
namespace Go.Proofs.Yteickcpmicifgaa
open Go.RowKit Go.Sort
set_option linter.unusedSimpArgs false
set_option linter.unusedVariables false


def okZ (c : Bool) (x : Int) : Int := if c then x else 0
theorem okZ_yes {c : Bool} {x : Int} (h : c = true) : okZ c x = x := by simp [okZ, h]
theorem okZ_no {c : Bool} {x : Int} (h : c = false) : okZ c x = 0 := by simp [okZ, h]
/-- A number, and whether there is one. -/
def resZ (c : Bool) (x : Int) : Value := .tuple #[.int .i64 (okZ c x), .bool c]
theorem resZ_yes {c : Bool} {x : Int} (h : c = true) : resZ c x = .tuple #[.int .i64 x, .bool true] := by simp [resZ, okZ, h]
theorem resZ_no {c : Bool} {x : Int} (h : c = false) : resZ c x = .tuple #[.int .i64 0, .bool false] := by simp [resZ, okZ, h]

theorem squareOf_any (x0 x1 x2 y0 y1 y2 : Int) (w : World) (hx0 : 0 ≤ x0 ∧ x0 ≤ 999) (hx1 : 0 ≤ x1 ∧ x1 ≤ 999) (hy0 : 0 ≤ y0 ∧ y0 ≤ 999) (hy1 : 0 ≤ y1 ∧ y1 ≤ 999) :
    Calls Try.prog 63 #[.agg #[.int .i64 x0, .int .i64 x1, .int .i64 x2], .agg #[.int .i64 y0, .int .i64 y1, .int .i64 y2]] w fun e w' => e = .returned (.int .i64 ((x0 - y0) * (x0 - y0) + (x1 - y1) * (x1 - y1))) ∧ Below w.heap.size w w' := by
  have hB := fun o1 o2 => ((Below.refl w.heap.size w).alloc (Nat.le_refl _) o1).alloc (by simp) o2
  have b0 := sq_bound (x := x0 - y0) (by omega) (by omega)
  have b1 := sq_bound (x := x1 - y1) (by omega) (by omega)
  have w0 : IntKind.i64.wrap (x0 - y0) = x0 - y0 := IntWalk.i64_in _ (by omega)
  have w1 : IntKind.i64.wrap (x1 - y1) = x1 - y1 := IntWalk.i64_in _ (by omega)
  have w2 : IntKind.i64.wrap ((x0 - y0) * (x0 - y0)) = (x0 - y0) * (x0 - y0) := IntWalk.i64_in _ (by omega)
  have w3 : IntKind.i64.wrap ((x1 - y1) * (x1 - y1)) = (x1 - y1) * (x1 - y1) := IntWalk.i64_in _ (by omega)
  have w4 : IntKind.i64.wrap ((x0 - y0) * (x0 - y0) + (x1 - y1) * (x1 - y1)) = (x0 - y0) * (x0 - y0) + (x1 - y1) * (x1 - y1) := IntWalk.i64_in _ (by omega)
  go_enter Try.func63, Try.ntmps63
  go_wp2
  go_ret
  exact ⟨rfl, hB _ _⟩

set_option maxHeartbeats 1000000 in
theorem neSquare_any (c0 c1 : Value) (ts ls : List T3) (a b : Nat) (w : World) (hr : RdN w c0 c1 ts ls) (hok : NetOk ts ls) (ha : a < ts.length) (hb : b < ts.length) :
    Calls Try.prog 62 #[.agg #[c0, c1], .int .i64 a, .int .i64 b] w fun e w' => e = .returned (.int .i64 (sqZ ts a b)) ∧ Below w.heap.size w w' := by
  have hl := hok.t16
  have t0 := hok.tow a ha
  have t1 := hok.tow b hb
  obtain ⟨a0, p0, rfl, hp0⟩ := hr.1.len
  obtain ⟨a1, p1, rfl, hp1⟩ := hr.2.len
  obtain ⟨n, hn⟩ : ∃ n, n = ts.length := ⟨_, rfl⟩
  rw [← hn] at hr ha hb hl ⊢
  have HN := Lib.hid hn
  clear hn hok
  have N0 := NB.start hr 31
  have h0 := N0.b0
  have h1 := N0.b1
  clear hr
  obtain ⟨g, off, rfl, hg, q0, q1, q2⟩ := N0.rd.1.at3 HN.out a ha
  obtain ⟨g', off', hge, -, r0, r1, r2⟩ := N0.rd.1.at3 HN.out b hb
  simp only [Option.some.injEq, Addr.mk.injEq, and_true] at hge
  obtain ⟨rfl, rfl⟩ := hge
  have hS : Hid (sqZ ts a b = ((rAt ts a).x0 - (rAt ts b).x0) * ((rAt ts a).x0 - (rAt ts b).x0) + ((rAt ts a).x1 - (rAt ts b).x1) * ((rAt ts a).x1 - (rAt ts b).x1)) := Lib.hid rfl
  generalize (rAt ts a).x0 = x0 at *
  generalize (rAt ts a).x1 = x1 at *
  generalize (rAt ts b).x0 = y0 at *
  generalize (rAt ts b).x1 = y1 at *
  have b0 := sq_bound (x := x0 - y0) (by omega) (by omega)
  have b1 := sq_bound (x := x1 - y1) (by omega) (by omega)
  have w0 : IntKind.i64.wrap (x0 - y0) = x0 - y0 := IntWalk.i64_in _ (by omega)
  have w1 : IntKind.i64.wrap (x1 - y1) = x1 - y1 := IntWalk.i64_in _ (by omega)
  have w2 : IntKind.i64.wrap ((x0 - y0) * (x0 - y0)) = (x0 - y0) * (x0 - y0) := IntWalk.i64_in _ (by omega)
  have w3 : IntKind.i64.wrap ((x1 - y1) * (x1 - y1)) = (x1 - y1) * (x1 - y1) := IntWalk.i64_in _ (by omega)
  have w4 : IntKind.i64.wrap ((x0 - y0) * (x0 - y0) + (x1 - y1) * (x1 - y1)) = (x0 - y0) * (x0 - y0) + (x1 - y1) * (x1 - y1) := IntWalk.i64_in _ (by omega)
  go_enter Try.func62, Try.ntmps62
  go_wp2
  go_quiet (fail)
  go_wp2
  go_ret
  exact ⟨ret_int hS.out.symm, below_drewN N0.below _⟩

def PlaceL (ls : List T3) (x : T3) (w : World) (e : Ending) (w' : World) : Prop :=
  ∃ p : Nat, LPlace ls x p ∧ e = .returned (.tuple #[.int .i64 p, .bool (fndB ls x p)]) ∧ Below w.heap.size w w'

set_option maxRecDepth 100000 in
set_option maxHeartbeats 2000000 in
theorem bsLink_any (v : Value) (ls : List T3) (x0 x1 x2 : Int) (w : World) (hsm : ls.length ≤ 40) (hin : ∀ i j, i < j → j < ls.length → befB (rAt ls i) (rAt ls j) = true) (hr : RdR c3 3 w v ls) :
    Calls Try.prog 83 #[v, .agg #[.int .i64 x0, .int .i64 x1, .int .i64 x2], .func (.func 49) #[] #[]] w (PlaceL ls ⟨x0, x1, x2⟩ w) := by
  obtain ⟨a, cap, rfl, -⟩ := hr.len
  obtain ⟨n, hn⟩ : ∃ n, n = ls.length := ⟨_, rfl⟩
  rw [← hn] at hsm hr ⊢
  have HN := Lib.hid hn
  have HI := Lib.hid hin
  have hB0 := (Below.refl w.heap.size w).alloc (Nat.le_refl _) (.cells #[.int .i64 x0, .int .i64 x1, .int .i64 x2] 53)
  have HR := Lib.hid hr
  clear hn hin hr
  go_enter Try.func83, Try.ntmps83
  go_wp2
  go_loopg [9, 10] n (fun g s7 s8 wr => ∃ lo hi : Nat, s7 = .int .i64 lo ∧ s8 = .int .i64 hi ∧ lo ≤ hi ∧ hi ≤ n ∧ hi - lo ≤ g ∧ Below w.heap.size w wr ∧ w.heap.size < wr.heap.size ∧ wr.cell? ⟨w.heap.size, 0, none⟩ = some (.int .i64 x0) ∧ wr.cell? ⟨w.heap.size, 1, none⟩ = some (.int .i64 x1) ∧ wr.cell? ⟨w.heap.size, 2, none⟩ = some (.int .i64 x2) ∧ Hid ((∀ m, m < lo → befB (rAt ls m) ⟨x0, x1, x2⟩ = true) ∧ ∀ m, hi ≤ m → m < n → befB (rAt ls m) ⟨x0, x1, x2⟩ = false))
  case atStart => exact ⟨0, n, rfl, rfl, Nat.zero_le _, Nat.le_refl _, by omega, hB0, by simp, by simp [go_sem], by simp [go_sem], by simp [go_sem], Lib.hid ⟨fun m hm => by omega, fun m h1 h2 => by omega⟩⟩
  case round =>
    obtain ⟨lo, hi, rfl, rfl, hlh, hhn, hg, hbl, hbs, t0, t1, t2, hord⟩ := hrel
    clear hB0
    have K0 := cell_regrown t0
    have K1 := cell_regrown t1
    have K2 := cell_regrown t2
    by_cases hlt : lo < hi
    · obtain ⟨h, hh⟩ : ∃ h, h = (lo + hi) / 2 := ⟨_, rfl⟩
      have hh1 : lo ≤ h := by omega
      have hh2 : h < hi := by omega
      have hh3 : ((lo : Int) + (hi : Int)) / 2 = (h : Int) := by omega
      obtain ⟨g, off, rfl, hgs, q0, q1, q2⟩ := (HR.out.below hbl (Nat.le_refl _)).at3 HN.out h (by omega)
      have K3 := cell_regrown q0
      have K4 := cell_regrown q1
      have K5 := cell_regrown q2
      obtain ⟨c, hc⟩ : ∃ c, cmpL ⟨(rAt ls h).x0, (rAt ls h).x1, (rAt ls h).x2⟩ ⟨x0, x1, x2⟩ = c := ⟨_, rfl⟩
      have C0 := compareLinks_g _ _ _ _ _ _ c wr hc
      clear q0 q1 q2 t0 t1 t2 hh
      by_cases hneg : c < 0
      · have hls : befB (rAt ls h) ⟨x0, x1, x2⟩ = true := cmpL_lt.1 (by rw [show cmpL (rAt ls h) ⟨x0, x1, x2⟩ = c from hc]; exact hneg)
        have hord' : Hid ((∀ m, m < h + 1 → befB (rAt ls m) ⟨x0, x1, x2⟩ = true) ∧ ∀ m, hi ≤ m → m < n → befB (rAt ls m) ⟨x0, x1, x2⟩ = false) := Lib.hid ⟨fun m hm => by
          by_cases e : m = h
          · rw [e]; exact hls
          · exact befB_trans (HI.out m h (by omega) (by rw [← HN.out]; omega)) hls, hord.out.2⟩
        clear hls hc
        go_wp2
        clear hh3
        refine wp_region_quiet_below (by kernel_rfl) (by kernel_rfl) ?_
        repeat (go_big_quiet_step (first | (with_reducible exact C0 _ _)))
        refine wpQuiet_nil ?_
        intro _ hw'
        obtain ⟨⟨dq, osq⟩, hw''⟩ := hw'
        subst hw''
        have hb3 := hbl.trans ((below_regrown wr dq osq).mono hbl.size)
        have z0 := K0 dq osq
        have z1 := K1 dq osq
        have z2 := K2 dq osq
        have zs : w.heap.size < (grow (redrawn wr dq) osq).heap.size := by have := (below_regrown wr dq osq).size; omega
        clear C0 K0 K1 K2 K3 K4 K5
        go_wp2
        go_roundg (hi - (h + 1))
        case measure => omega
        case rel => exact ⟨h + 1, hi, by go_num, rfl, by omega, hhn, Nat.le_refl _, hb3, zs, z0, z1, z2, hord'⟩
      · have hls : befB (rAt ls h) ⟨x0, x1, x2⟩ = false := by
          cases e : befB (rAt ls h) ⟨x0, x1, x2⟩ with
          | false => rfl
          | true => have := cmpL_lt.2 e; rw [show cmpL (rAt ls h) ⟨x0, x1, x2⟩ = c from hc] at this; omega
        have hord' : Hid ((∀ m, m < lo → befB (rAt ls m) ⟨x0, x1, x2⟩ = true) ∧ ∀ m, h ≤ m → m < n → befB (rAt ls m) ⟨x0, x1, x2⟩ = false) := Lib.hid ⟨hord.out.1, fun m h1 h2 => by
          by_cases e : m = h
          · rw [e]; exact hls
          · cases hx : befB (rAt ls m) ⟨x0, x1, x2⟩ with
            | false => rfl
            | true =>
              have := befB_trans (HI.out h m (by omega) (by rw [← HN.out]; omega)) hx
              rw [hls] at this
              cases this⟩
        clear hls hc
        go_wp2
        clear hh3
        refine wp_region_quiet_below (by kernel_rfl) (by kernel_rfl) ?_
        repeat (go_big_quiet_step (first | (with_reducible exact C0 _ _)))
        refine wpQuiet_nil ?_
        intro _ hw'
        obtain ⟨⟨dq, osq⟩, hw''⟩ := hw'
        subst hw''
        have hb3 := hbl.trans ((below_regrown wr dq osq).mono hbl.size)
        have z0 := K0 dq osq
        have z1 := K1 dq osq
        have z2 := K2 dq osq
        have zs : w.heap.size < (grow (redrawn wr dq) osq).heap.size := by have := (below_regrown wr dq osq).size; omega
        clear C0 K0 K1 K2 K3 K4 K5
        go_wp2
        go_roundg (h - lo)
        case measure => omega
        case rel => exact ⟨lo, h, rfl, by go_num, by omega, by omega, Nat.le_refl _, hb3, zs, z0, z1, z2, hord'⟩
    · obtain rfl : hi = lo := by omega
      have HP : Hid (LPlace ls ⟨x0, x1, x2⟩ hi) := Lib.hid ⟨by rw [← HN.out]; exact hhn, hord.out.1, fun m h1 h2 => hord.out.2 m h1 (by rw [HN.out]; exact h2)⟩
      by_cases hn1 : hi < n
      · obtain ⟨g, off, rfl, hgs, q0, q1, q2⟩ := (HR.out.below hbl (Nat.le_refl _)).at3 HN.out hi hn1
        have K3 := cell_regrown q0
        have K4 := cell_regrown q1
        have K5 := cell_regrown q2
        obtain ⟨c, hc⟩ : ∃ c, cmpL ⟨(rAt ls hi).x0, (rAt ls hi).x1, (rAt ls hi).x2⟩ ⟨x0, x1, x2⟩ = c := ⟨_, rfl⟩
        have C0 := compareLinks_g _ _ _ _ _ _ c wr hc
        clear q0 q1 q2 t0 t1 t2
        have hf : Hid (fndB ls ⟨x0, x1, x2⟩ hi = (c == 0)) := Lib.hid (by
          rw [Bool.eq_iff_iff, fndB_iff, beq_iff_eq, ← hc]
          constructor
          · rintro ⟨-, e1, e2⟩; exact cmpL_zero.2 ⟨e1, e2⟩
          · intro e; have := cmpL_zero.1 e; exact ⟨by rw [← HN.out]; exact hn1, this.1, this.2⟩)
        clear hc
        go_wp2
        refine wp_region_quiet_below (by kernel_rfl) (by kernel_rfl) ?_
        repeat (go_big_quiet_step (first | (with_reducible exact C0 _ _)))
        refine wpQuiet_nil ?_
        intro _ hw'
        obtain ⟨⟨dq, osq⟩, hw''⟩ := hw'
        subst hw''
        have hb3 := hbl.trans ((below_regrown wr dq osq).mono hbl.size)
        go_wp2
        go_ret2
        exact ⟨hi, HP.out, by rw [hf.out]; rfl, hb3⟩
      · have hf : Hid (fndB ls ⟨x0, x1, x2⟩ hi = false) := Lib.hid (fndB_no (by rw [← HN.out]; omega))
        clear t0 t1 t2 
        go_wp2
        refine wp_region_quiet_below (by kernel_rfl) (by kernel_rfl) ?_
        repeat (go_big_quiet_step (fail))
        refine wpQuiet_nil ?_
        intro _ hw'
        obtain ⟨⟨dq, osq⟩, hw''⟩ := hw'
        subst hw''
        have hb3 := hbl.trans ((below_regrown wr dq osq).mono hbl.size)
        go_wp2
        go_ret2
        exact ⟨hi, HP.out, by rw [hf.out]; rfl, hb3⟩

theorem placeOfLink_any (v : Value) (ls : List T3) (x0 x1 x2 : Int) (w : World) (hsm : ls.length ≤ 40) (hin : ∀ i j, i < j → j < ls.length → befB (rAt ls i) (rAt ls j) = true) (hr : RdR c3 3 w v ls) :
    Calls Try.prog 55 #[v, .agg #[.int .i64 x0, .int .i64 x1, .int .i64 x2]] w (PlaceL ls ⟨x0, x1, x2⟩ w) := by
  have hB0 := (Below.refl w.heap.size w).alloc (Nat.le_refl _) (.cells #[.int .i64 x0, .int .i64 x1, .int .i64 x2] 53)
  go_enter Try.func55, Try.ntmps55
  go_wp2_with fail
  refine (bsLink_any _ ls _ _ _ _ hsm hin (hr.later hB0)).mono ?_
  rintro e w1 ⟨p, hp, rfl, hb⟩
  go_wp2
  go_ret2
  exact ⟨p, hp, rfl, hB0.trans (hb.mono hB0.size)⟩
end Go.Proofs.Yteickcpmicifgaa
