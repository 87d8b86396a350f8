/- Chapter 7: least heights and least raises of both sides. Written by a generator of this claim's author. -/
import Derived.Test.YtkdmjeonlghnjaaSi5
import Derived.Deep.LoopGhost
import Derived.Shelf.Abstract
namespace Go.Proofs.Ytkdmjeonlghnjaa
open Go.RowKit Go.Sort
set_option linter.unusedSimpArgs false
set_option linter.unusedVariables false

theorem setc_far' {w : World} {b o b' o' : Nat} {v : Value} (h : o ≠ o' ∨ b ≠ b') : (w.setCell ⟨b, o, none⟩ v).cell? ⟨b', o', none⟩ = w.cell? ⟨b', o', none⟩ :=
  World.cell?_setCell_other _ _ _ _ (by intro e; simp only [Addr.mk.injEq, and_true] at e; omega)
theorem setc_same' {w : World} {b o : Nat} {v u : Value} (h : w.cell? ⟨b, o, none⟩ = some u) : (w.setCell ⟨b, o, none⟩ v).cell? ⟨b, o, none⟩ = some v := World.cell?_setCell_same _ _ _ h
section
variable {w W W' : World} {D A B : Int} {a : Option Addr} {n p : Nat} {ts : List T2}
theorem SB.setB (h : SB w W D A B a n p ts) (h0 : RdR c2 2 w (.slice a n p) ts) (B' : Int) : SB w (W.setCell ⟨w.heap.size, 2, none⟩ (.int .i64 B')) D A B' a n p ts :=
  have hb := h.below.setCell (p := ⟨w.heap.size, 2, none⟩) (Nat.le_refl _) (.int .i64 B')
  ⟨hb, by simpa [World.setCell] using h.lt, by rw [setc_far' (.inl (by decide))]; exact h.q0, by rw [setc_far' (.inl (by decide))]; exact h.q1, setc_same' h.q2, by rw [setc_far' (.inl (by decide))]; exact h.q3, h0.below hb (Nat.le_refl _)⟩
theorem SB.setA (h : SB w W D A B a n p ts) (h0 : RdR c2 2 w (.slice a n p) ts) (A' : Int) : SB w (W.setCell ⟨w.heap.size, 1, none⟩ (.int .i64 A')) D A' B a n p ts :=
  have hb := h.below.setCell (p := ⟨w.heap.size, 1, none⟩) (Nat.le_refl _) (.int .i64 A')
  ⟨hb, by simpa [World.setCell] using h.lt, by rw [setc_far' (.inl (by decide))]; exact h.q0, setc_same' h.q1, by rw [setc_far' (.inl (by decide))]; exact h.q2, by rw [setc_far' (.inl (by decide))]; exact h.q3, h0.below hb (Nat.le_refl _)⟩
end

/-- What is found below 3001. -/
def lmB (b : Bool) (p : Nat → Bool) : Bool := b && decide (fstP p 3001 ≤ 3000)
def lmV (b : Bool) (p : Nat → Bool) : Int := if lmB b p then fstP p 3001 else 0
theorem lmB_no {b : Bool} {p : Nat → Bool} (h : b = false) : lmB b p = false := by simp [lmB, h]
theorem lmV_no {b : Bool} {p : Nat → Bool} (h : b = false) : lmV b p = 0 := by simp [lmV, lmB, h]
theorem lm_yes {b : Bool} {p : Nat → Bool} {k : Nat} (h : b = true) (hk : k ≤ 3000) (hf : fstP p 3001 = k) : lmB b p = true ∧ lmV b p = k := by simp [lmV, lmB, h, hf, hk]
theorem lm_none {b : Bool} {p : Nat → Bool} (hf : fstP p 3001 = 3001) : lmB b p = false ∧ lmV b p = 0 := by simp [lmV, lmB, hf]
def hgP (D A n : Int) (ts : List T2) (h : Nat) : Bool := seesB D A h n ts
def rsP (D A B n : Int) (ts : List T2) (u : Nat) : Bool := seesB D (A + u) (B + u) n ts
theorem ret2h {a b : Int} {c d : Bool} (h : a = b) (h' : c = d) : Ending.returned (.tuple #[.int .i64 a, .bool c]) = .returned (.tuple #[.int .i64 b, .bool d]) := by rw [h, h']

set_option maxHeartbeats 1000000 in
/-- sort.Search over a closure that leaves what was there. -/
theorem search_any (g : Nat) (cb : Array Value) (N : Nat) (p : Nat → Bool) (w : World) (eg : ∀ args w, (callFunc g args).run Try.prog w = .ok (.enter g args) w) (hN : N ≤ 100000)
    (hf : ∀ (y : World) (i : Nat), Below w.heap.size w y → i < N → Calls Try.prog g (#[.int .i64 i] ++ cb) y fun e w' => e = .returned (.bool (p i)) ∧ Below y.heap.size y w')
    (hm : ∀ a b, a ≤ b → b < N → p a = true → p b = true) :
    Calls Try.prog 96 #[.int .i64 N, .func (.func g) #[] cb] w fun e w' => e = .returned (.int .i64 (fstP p N)) ∧ Below w.heap.size w w' := by
  have HF := Lib.hid hf
  have HM := Lib.hid hm
  clear hf hm
  go_enter Try.func96, Try.ntmps96
  go_wp2
  go_loopg [5, 6] N (fun kx s5 s6 wr => ∃ lo hi : Nat, s5 = .int .i64 lo ∧ s6 = .int .i64 hi ∧ lo ≤ hi ∧ hi ≤ N ∧ hi - lo ≤ kx ∧ Below w.heap.size w wr ∧ Hid ((∀ t, t < lo → p t = false) ∧ ∀ t, hi ≤ t → t < N → p t = true))
  case atStart => exact ⟨0, N, rfl, rfl, Nat.zero_le _, Nat.le_refl _, by omega, Below.refl _ _, Lib.hid ⟨fun t ht => by omega, fun t h1 h2 => by omega⟩⟩
  case round =>
    obtain ⟨lo, hi, rfl, rfl, hlh, hhn, hg, hbl, hord⟩ := hrel
    by_cases hlt : lo < hi
    · have hc := HF.out _ ((lo + hi) / 2) hbl (by omega)
      rw [show (((lo + hi) / 2 : Nat) : Int) = ((lo : Int) + (hi : Int)) / 2 by omega] at hc
      cases hp : p ((lo + hi) / 2) with
      | false =>
        rw [hp] at hc
        have hord' : Hid ((∀ t, t < (lo + hi) / 2 + 1 → p t = false) ∧ ∀ t, hi ≤ t → t < N → p t = true) := Lib.hid ⟨fun t ht => (by
          cases e : p t with
          | false => rfl
          | true => have := HM.out t ((lo + hi) / 2) (by omega) (by omega) e; rw [hp] at this; cases this), hord.out.2⟩
        clear hp
        go_wp2_with (go_at_fn g; refine hc.mono ?_; rintro e w' ⟨rfl, hb'⟩)
        go_roundg (hi - ((lo + hi) / 2 + 1))
        case measure => omega
        case rel => exact ⟨(lo + hi) / 2 + 1, hi, by rw [show ((lo : Int) + (hi : Int)) / 2 + 1 = (((lo + hi) / 2 + 1 : Nat) : Int) by omega], rfl, by omega, hhn, Nat.le_refl _, hbl.trans (hb'.mono hbl.size), hord'⟩
      | true =>
        rw [hp] at hc
        have hord' : Hid ((∀ t, t < lo → p t = false) ∧ ∀ t, (lo + hi) / 2 ≤ t → t < N → p t = true) := Lib.hid ⟨hord.out.1, fun t h1 h2 => HM.out _ t h1 h2 hp⟩
        clear hp
        go_wp2_with (go_at_fn g; refine hc.mono ?_; rintro e w' ⟨rfl, hb'⟩)
        go_roundg ((lo + hi) / 2 - lo)
        case measure => omega
        case rel => exact ⟨lo, (lo + hi) / 2, rfl, by rw [show ((lo : Int) + (hi : Int)) / 2 = (((lo + hi) / 2 : Nat) : Int) by omega], by omega, by omega, Nat.le_refl _, hbl.trans (hb'.mono hbl.size), hord'⟩
    · obtain rfl : hi = lo := by omega
      have HP := Lib.hid (fstP_eq (p := p) hhn hord.out.1 (fun h => hord.out.2 hi (Nat.le_refl _) h))
      go_wp2
      go_ret
      exact ⟨ret_int (by rw [HP.out]), hbl⟩

theorem leastMetres_any (g : Nat) (cb : Array Value) (p : Nat → Bool) (w : World) (eg : ∀ args w, (callFunc g args).run Try.prog w = .ok (.enter g args) w)
    (hf : ∀ (y : World) (i : Nat), Below w.heap.size w y → i < 3001 → Calls Try.prog g (#[.int .i64 i] ++ cb) y fun e w' => e = .returned (.bool (p i)) ∧ Below y.heap.size y w')
    (hm : ∀ a b, a ≤ b → b < 3001 → p a = true → p b = true) :
    Calls Try.prog 76 #[.func (.func g) #[] cb] w fun e w' => e = .returned (.tuple #[.int .i64 (lmV true p), .bool (lmB true p)]) ∧ Below w.heap.size w w' := by
  have HC := Lib.hid (search_any g cb 3001 p w eg (by decide) hf hm)
  clear hf hm
  by_cases hk : fstP p 3001 ≤ 3000
  · have HV := Lib.hid (lm_yes (b := true) rfl hk rfl)
    have hk1 : ¬ (fstP p 3001 : Int) > 3000 := by omega
    obtain ⟨k, hk'⟩ : ∃ k, k = fstP p 3001 := ⟨_, rfl⟩
    rw [← hk'] at HC HV hk1
    clear hk hk'
    go_enter Try.func76, Try.ntmps76
    go_wp2_with fail
    refine (HC.out).mono ?_
    rintro e w1 ⟨rfl, hb1⟩
    go_wp2
    go_ret2
    exact ⟨ret2h HV.out.2.symm HV.out.1.symm, hb1⟩
  · have hk1 : fstP p 3001 ≤ 3001 := by unfold fstP; exact Nat.le_trans List.findIdx_le_length (by simp)
    have HV := Lib.hid (lm_none (b := true) (p := p) (by omega))
    have hk1 : (fstP p 3001 : Int) > 3000 := by omega
    obtain ⟨k, hk'⟩ : ∃ k, k = fstP p 3001 := ⟨_, rfl⟩
    rw [← hk'] at HC hk1
    clear hk hk'
    go_enter Try.func76, Try.ntmps76
    go_wp2_with fail
    refine (HC.out).mono ?_
    rintro e w1 ⟨rfl, hb1⟩
    go_wp2
    go_ret2
    exact ⟨ret2h HV.out.2.symm HV.out.1.symm, hb1⟩

theorem withTops_any (D A B A' B' : Int) (a : Option Addr) (n p : Nat) (w : World) :
    Calls Try.prog 78 #[.agg #[.int .i64 D, .int .i64 A, .int .i64 B, .slice a n p], .int .i64 A', .int .i64 B'] w fun e w' => e = .returned (.agg #[.int .i64 D, .int .i64 A', .int .i64 B', .slice a n p]) ∧ Below w.heap.size w w' := by
  go_enter Try.func78, Try.ntmps78
  go_wp2
  refine bodyPost_ret (v := .agg #[.int .i64 D, .int .i64 A', .int .i64 B', .slice a n p]) (by simp [results, Try.results78, go_sem]) rfl ⟨rfl, ?_⟩
  repeat' first
    | exact Below.refl _ _
    | exact Nat.le_refl _
    | (refine Below.setCell ?_ ?_ _)
    | (refine Below.alloc ?_ ?_ _)
    | (simp; done)
    | (simp; omega)
theorem withTops_g (D A B A' B' : Int) (a : Option Addr) (n p : Nat) (w : World) : ∀ d os, Calls Try.prog 78 #[.agg #[.int .i64 D, .int .i64 A, .int .i64 B, .slice a n p], .int .i64 A', .int .i64 B'] (grow (redrawn w d) os) fun e w'' => e = .returned (.agg #[.int .i64 D, .int .i64 A', .int .i64 B', .slice a n p]) ∧ ∃ p : Regrown, w'' = grow (redrawn w p.d) p.os :=
  fun d os => Calls.regrown_of (withTops_any D A B A' B' a n p _)
set_option maxRecDepth 100000 in
set_option maxHeartbeats 1000000 in
theorem clLeastHeight_any (D A B n : Int) (u : Nat) (a : Option Addr) (N p : Nat) (ts : List T2) (b b' : Nat) (w : World) (h : SiBn D A B n ts) (hA : A ≤ 3000) (hB3 : B ≤ 3000) (hu : u < 3001) (q0 : w.cell? ⟨b, 0, none⟩ = some (.int .i64 D)) (q1 : w.cell? ⟨b, 1, none⟩ = some (.int .i64 A)) (q2 : w.cell? ⟨b, 2, none⟩ = some (.int .i64 B)) (q3 : w.cell? ⟨b, 3, none⟩ = some (.slice a N p)) (qn : w.cell? ⟨b', 0, none⟩ = some (.int .i64 n)) (hr : RdR c2 2 w (.slice a N p) ts) :
    Calls Try.prog 77 #[.int .i64 u, .pointer (some ⟨b, 0, none⟩), .pointer (some ⟨b', 0, none⟩)] w fun e w' => e = .returned (.bool (hgP D A n ts u)) ∧ Below w.heap.size w w' := by
  have K0 := cell_regrown q0
  have K1 := cell_regrown q1
  have K2 := cell_regrown q2
  have K3 := cell_regrown q3
  have K4 := cell_regrown qn
  have C0 := withTops_g D A B A (u : Int) a N p w
  have C1 := isClear_g D A (u : Int) n (.slice a N p) ts w (h.tops (by have := h.a0; omega) (by omega) (by have := h.b0; omega) (by omega)) hr
  have HP : Hid (hgP D A n ts u = seesB D A (u : Int) n ts) := Lib.hid rfl
  clear q0 q1 q2 q3 qn hr h
  go_enter Try.func77, Try.ntmps77
  go_wp2_with fail
  refine wp_region_quiet_below (by kernel_rfl) (by kernel_rfl) ?_
  repeat (go_big_quiet_step (first | (with_reducible exact C0 _ _) | (with_reducible exact C1 _ _)))
  refine wpQuiet_nil ?_
  intro _ hw'
  obtain ⟨⟨dq, osq⟩, hw''⟩ := hw'
  subst hw''
  have hb3 := below_regrown w dq osq
  go_wp2
  go_ret
  exact ⟨ret_bool HP.out.symm, hb3⟩
set_option maxRecDepth 100000 in
set_option maxHeartbeats 1000000 in
theorem clLeastRaise_any (D A B n : Int) (u : Nat) (a : Option Addr) (N p : Nat) (ts : List T2) (b b' : Nat) (w : World) (h : SiBn D A B n ts) (hA : A ≤ 3000) (hB3 : B ≤ 3000) (hu : u < 3001) (q0 : w.cell? ⟨b, 0, none⟩ = some (.int .i64 D)) (q1 : w.cell? ⟨b, 1, none⟩ = some (.int .i64 A)) (q2 : w.cell? ⟨b, 2, none⟩ = some (.int .i64 B)) (q3 : w.cell? ⟨b, 3, none⟩ = some (.slice a N p)) (qn : w.cell? ⟨b', 0, none⟩ = some (.int .i64 n)) (hr : RdR c2 2 w (.slice a N p) ts) :
    Calls Try.prog 79 #[.int .i64 u, .pointer (some ⟨b, 0, none⟩), .pointer (some ⟨b', 0, none⟩)] w fun e w' => e = .returned (.bool (rsP D A B n ts u)) ∧ Below w.heap.size w w' := by
  have K0 := cell_regrown q0
  have K1 := cell_regrown q1
  have K2 := cell_regrown q2
  have K3 := cell_regrown q3
  have K4 := cell_regrown qn
  have e0 : IntKind.i64.wrap (A + (u : Int)) = A + u := IntWalk.i64_in _ (by have := h.a0; have := hA; omega)
  have e1 : IntKind.i64.wrap (B + (u : Int)) = B + u := IntWalk.i64_in _ (by have := h.b0; have := hB3; omega)
  have C0 := withTops_g D A B (A + (u : Int)) (B + (u : Int)) a N p w
  have C1 := isClear_g D (A + (u : Int)) (B + (u : Int)) n (.slice a N p) ts w (h.tops (by have := h.a0; omega) (by omega) (by have := h.b0; omega) (by omega)) hr
  have HP : Hid (rsP D A B n ts u = seesB D (A + (u : Int)) (B + (u : Int)) n ts) := Lib.hid rfl
  clear q0 q1 q2 q3 qn hr h
  go_enter Try.func79, Try.ntmps79
  go_wp2_with fail
  refine wp_region_quiet_below (by kernel_rfl) (by kernel_rfl) ?_
  repeat (go_big_quiet_step (first | (with_reducible exact C0 _ _) | (with_reducible exact C1 _ _)))
  refine wpQuiet_nil ?_
  intro _ hw'
  obtain ⟨⟨dq, osq⟩, hw''⟩ := hw'
  subst hw''
  have hb3 := below_regrown w dq osq
  go_wp2
  go_ret
  exact ⟨ret_bool HP.out.symm, hb3⟩
set_option maxRecDepth 100000 in
set_option maxHeartbeats 1000000 in
theorem implLeastHeight_any (D A B n : Int) (c : Value) (ts : List T2) (w : World) (hr : RdR c2 2 w c ts) :
    Calls Try.prog 34 #[.agg #[.int .i64 D, .int .i64 A, .int .i64 B, c], .int .i64 n] w fun e w' => e = .returned (.tuple #[.int .i64 (lmV (askB D A B n ts) (hgP D A n ts)), .bool (lmB (askB D A B n ts) (hgP D A n ts))]) ∧ Below w.heap.size w w' := by
  have hm : (ts.length : Int) ≤ 9223372036854775807 := by have := hr.max; unfold maxLen at this; omega
  obtain ⟨a, p, rfl, -⟩ := hr.len
  obtain ⟨N, hn⟩ : ∃ N, N = ts.length := ⟨_, rfl⟩
  rw [← hn] at hm hr
  rw [← hn]
  have HN := Lib.hid hn
  clear hn
  have S0 := SB.start (D := D) (A := A) (B := B) hr 25
  have hmf : ∀ (fn : Fn) (first cap : Array Value) (w : World), (Instr.makeFunc fn first cap).run Try.prog w = .ok (.func fn first cap) w := fun _ _ _ _ => rfl
  have S0 := S0.alloc (.cells #[.int .i64 n] 3)
  have qn : ((w.alloc (.cells #[.int .i64 D, .int .i64 A, .int .i64 B, .slice a N p] 25)).alloc (.cells #[.int .i64 n] 3)).cell? ⟨w.heap.size + 1, 0, none⟩ = some (.int .i64 n) := by simp [go_sem]
  have hlt0 : w.heap.size + 1 < ((w.alloc (.cells #[.int .i64 D, .int .i64 A, .int .i64 B, .slice a N p] 25)).alloc (.cells #[.int .i64 n] 3)).heap.size := by simp
  have q0 := S0.q0
  have q1 := S0.q1
  have q2 := S0.q2
  have q3 := S0.q3
  cases hq : sightB D A B ts with
  | false =>
    have HQ := Lib.hid (askB_no1 (n := n) hq)
    have HS := Lib.hid hq
    clear hq
    go_enter Try.func34, Try.ntmps34
    go_wp2_with fail
    refine (isSight_b D A B _ ts _ S0.rd HS.out).mono ?_
    rintro e w1 ⟨rfl, hb1⟩
    have S1 := S0.next hb1
    go_wp2
    go_ret2
    exact ⟨ret2h (lmV_no HQ.out).symm (lmB_no HQ.out).symm, S1.below⟩
  | true =>
    have HS := Lib.hid hq
    clear hq
    cases hq : inB n 0 3 with
    | false =>
      have HQ := Lib.hid (askB_no2 (D := D) (A := A) (B := B) (ts := ts) hq)
      have HI := Lib.hid hq
      clear hq
      go_enter Try.func34, Try.ntmps34
      go_wp2_with fail
      refine (isSight_b D A B _ ts _ S0.rd HS.out).mono ?_
      rintro e w1 ⟨rfl, hb1⟩
      have qn := (hb1.cell (p := ⟨w.heap.size + 1, 0, none⟩) hlt0).trans qn
      have S1 := S0.next hb1
      have q0 := S1.q0
      have q1 := S1.q1
      have q2 := S1.q2
      have q3 := S1.q3
      go_wp2_with fail
      refine (isRefraction_b n _ HI.out).mono ?_
      rintro e w' ⟨rfl, rfl⟩
      go_wp2
      go_ret2
      exact ⟨ret2h (lmV_no HQ.out).symm (lmB_no HQ.out).symm, S1.below⟩
    | true =>
      have HQ := Lib.hid (askB_yes HS.out hq)
      have HB := SiBn.ask HQ.out
      have ok := sightB_iff.1 HS.out
      have HCL : Hid (∀ (y : World), RdR c2 2 y (.slice a N p) ts → y.cell? ⟨w.heap.size, 0, none⟩ = some (.int .i64 D) → y.cell? ⟨w.heap.size, 1, none⟩ = some (.int .i64 A) → y.cell? ⟨w.heap.size, 2, none⟩ = some (.int .i64 B) → y.cell? ⟨w.heap.size, 3, none⟩ = some (.slice a N p) → y.cell? ⟨w.heap.size + 1, 0, none⟩ = some (.int .i64 n) → ∀ u : Nat, u < 3001 → Calls Try.prog 77 #[.int .i64 u, .pointer (some ⟨w.heap.size, 0, none⟩), .pointer (some ⟨w.heap.size + 1, 0, none⟩)] y fun e w' => e = .returned (.bool (hgP D A n ts u)) ∧ Below y.heap.size y w') := Lib.hid fun y hy y0 y1 y2 y3 yn u hu => clLeastHeight_any D A B n u a N p ts _ _ y HB ok.a3 ok.b3 hu y0 y1 y2 y3 yn hy
      have HM : Hid (∀ i j : Nat, i ≤ j → j < 3001 → hgP D A n ts i = true → hgP D A n ts j = true) := Lib.hid fun i j hij hj hp => seesB_mono (Int.le_refl _) (by omega) (fun k hk => by have := HB.grd k hk; omega) hp
      have eg : ∀ args w, (callFunc 77 args).run Try.prog w = .ok (.enter 77 args) w := enters_of Try.func77 (by kernel_rfl) rfl
      have EG := Lib.hid eg
      have HI := Lib.hid hq
      clear hq HB ok eg
      go_enter Try.func34, Try.ntmps34
      go_wp2_with fail
      refine (isSight_b D A B _ ts _ S0.rd HS.out).mono ?_
      rintro e w1 ⟨rfl, hb1⟩
      have qn := (hb1.cell (p := ⟨w.heap.size + 1, 0, none⟩) hlt0).trans qn
      have hlt1 : w.heap.size + 1 < w1.heap.size := Nat.lt_of_lt_of_le hlt0 hb1.size
      have S1 := S0.next hb1
      have q0 := S1.q0
      have q1 := S1.q1
      have q2 := S1.q2
      have q3 := S1.q3
      go_wp2_with fail
      refine (isRefraction_b n _ HI.out).mono ?_
      rintro e w' ⟨rfl, rfl⟩
      have HL := Lib.hid (leastMetres_any 77 #[.pointer (some ⟨w.heap.size, 0, none⟩), .pointer (some ⟨w.heap.size + 1, 0, none⟩)] (hgP D A n ts) w1 EG.out (fun y i hy hi => HCL.out y (S1.next hy).rd (S1.next hy).q0 (S1.next hy).q1 (S1.next hy).q2 (S1.next hy).q3 ((hy.cell (p := ⟨w.heap.size + 1, 0, none⟩) hlt1).trans qn) i hi) HM.out)
      go_wp2_with fail
      refine (HL.out).mono ?_
      rintro e w2 ⟨rfl, hb2⟩
      have S2 := S1.next hb2
      go_wp2
      go_ret2
      exact ⟨by rw [HQ.out] <;> rfl, S2.below⟩
set_option maxRecDepth 100000 in
set_option maxHeartbeats 1000000 in
theorem specLeastHeight_any (D A B n : Int) (c : Value) (ts : List T2) (w : World) (hr : RdR c2 2 w c ts) :
    Calls Try.prog 35 #[.agg #[.int .i64 D, .int .i64 A, .int .i64 B, c], .int .i64 n] w fun e w' => e = .returned (.tuple #[.int .i64 (lmV (askB D A B n ts) (hgP D A n ts)), .bool (lmB (askB D A B n ts) (hgP D A n ts))]) ∧ Below w.heap.size w w' := by
  have hm : (ts.length : Int) ≤ 9223372036854775807 := by have := hr.max; unfold maxLen at this; omega
  obtain ⟨a, p, rfl, -⟩ := hr.len
  obtain ⟨N, hn⟩ : ∃ N, N = ts.length := ⟨_, rfl⟩
  rw [← hn] at hm hr
  rw [← hn]
  have HN := Lib.hid hn
  clear hn
  have S0 := SB.start (D := D) (A := A) (B := B) hr 25
  have q0 := S0.q0
  have q1 := S0.q1
  have q2 := S0.q2
  have q3 := S0.q3
  cases hq : askB D A B n ts with
  | false =>
    have HQ := Lib.hid hq
    clear hq
    go_enter Try.func35, Try.ntmps35
    go_wp2_with fail
    refine (siAsked_b D A B n _ ts _ S0.rd HQ.out).mono ?_
    rintro e w1 ⟨rfl, hb1⟩
    have S1 := S0.next hb1
    go_wp2
    go_ret2
    exact ⟨ret2h (lmV_no rfl).symm (lmB_no rfl).symm, S1.below⟩
  | true =>
    have HQ := Lib.hid hq
    have HB := Lib.hid (SiBn.ask hq)
    have hok := sightB_iff.1 (by unfold askB at hq; rw [Bool.and_eq_true] at hq; exact hq.1)
    have hA0 := hok.a0
    have hA3 := hok.a3
    have hB0 := hok.b0
    have hB3 := hok.b3
    clear hq hok
    have HR := Lib.hid hr
    clear hr
    have fz0 : ∀ j, (w.alloc (.cells #[.int .i64 D, .int .i64 A, .int .i64 B, .slice a N p] 25)).frozen? ⟨w.heap.size, j, none⟩ = false := fun j => by simp [go_sem]
    have HY : Hid (∀ k : Nat, k ≤ 3000 → (∀ t, t < k → hgP D A n ts t = false) → hgP D A n ts k = true → lmB true (hgP D A n ts) = true ∧ lmV true (hgP D A n ts) = k) := Lib.hid fun k hk ha hb => lm_yes rfl hk (fstP_eq (by omega) ha fun _ => hb)
    have HN0 : Hid ((∀ t, t < 3001 → hgP D A n ts t = false) → lmB true (hgP D A n ts) = false ∧ lmV true (hgP D A n ts) = 0) := Lib.hid fun ha => lm_none (fstP_eq (by omega) ha fun h => absurd h (by omega))
    go_enter Try.func35, Try.ntmps35
    go_wp2_with fail
    refine (siAsked_b D A B n _ ts _ S0.rd HQ.out).mono ?_
    rintro e w1 ⟨rfl, hb1⟩
    have S1 := S0.next hb1
    have fz1 : ∀ j, w1.frozen? ⟨w.heap.size, j, none⟩ = false := fun j => (hb1.frozen (p := ⟨w.heap.size, j, none⟩) S0.lt).trans (fz0 j)
    go_wp2
    go_loopw [6] (fun s6 wr => ∃ k : Nat, ∃ Bx : Int, s6 = .int .i64 k ∧ k ≤ 3001 ∧ SB w wr D A Bx a N p ts ∧ (∀ j, wr.frozen? ⟨w.heap.size, j, none⟩ = false) ∧ Hid (∀ t : Nat, t < k → hgP D A n ts t = false)) (fun s6 wr => 4000 - (intOf s6).toNat)
    case atStart => exact ⟨0, B, rfl, by omega, S1, fz1, Lib.hid fun t ht => by omega⟩
    case round =>
      clear q0 q1 q2 q3 S0 S1 fz0 fz1
      obtain ⟨k, Bx, rfl, hk, SK, fz, hall⟩ := hrel
      have q0 := SK.q0
      have q1 := SK.q1
      have q2 := SK.q2
      have q3 := SK.q3
      by_cases hk3 : k ≤ 3000
      · have f2 := fz 2
        have SX := SK.setB HR.out (k : Int)
        have HT := HB.out.tops (A' := A) (B' := (k : Int)) HB.out.a0 HB.out.a6 (by omega) (by omega)
        have HC := Lib.hid (siSees_any D A (k : Int) n _ ts _ HT SX.rd)
        clear HT
        cases hs : hgP D A n ts k with
        | true =>
          have HW := Lib.hid (HY.out k hk3 hall.out hs)
          have HS : Hid (seesB D A (k : Int) n ts = true) := Lib.hid hs
          clear hs
          go_wp2_with fail
          refine ((HC.out)).mono ?_
          rintro e w2 ⟨rfl, hb2⟩
          rw [HS.out]
          have SY := SX.next hb2
          go_wp2
          go_ret2
          exact ⟨ret2h HW.out.2.symm HW.out.1.symm, SY.below⟩
        | false =>
          have HS : Hid (seesB D A (k : Int) n ts = false) := Lib.hid hs
          have hall' : Hid (∀ t : Nat, t < k + 1 → hgP D A n ts t = false) := Lib.hid fun t ht => by
            by_cases e : t = k
            · rw [e]; exact hs
            · exact hall.out t (by omega)
          clear hs
          go_wp2_with fail
          refine ((HC.out)).mono ?_
          rintro e w2 ⟨rfl, hb2⟩
          rw [HS.out]
          have SY := SX.next hb2
          have fzY : ∀ j, w2.frozen? ⟨w.heap.size, j, none⟩ = false := fun j => (hb2.frozen (p := ⟨w.heap.size, j, none⟩) SX.lt).trans ((World.frozen?_setCell _ _ _ _).trans (fz j))
          go_wp2
          go_roundw
          case rel => exact ⟨k + 1, _, by go_num, by omega, SY, fzY, hall'⟩
          case measure => simp [intOf]; omega
      · have HW := Lib.hid (HN0.out (fun t ht => hall.out t (by omega)))
        go_wp2
        go_ret2
        exact ⟨ret2h HW.out.2.symm HW.out.1.symm, SK.below⟩
set_option maxRecDepth 100000 in
set_option maxHeartbeats 1000000 in
theorem implLeastRaise_any (D A B n : Int) (c : Value) (ts : List T2) (w : World) (hr : RdR c2 2 w c ts) :
    Calls Try.prog 37 #[.agg #[.int .i64 D, .int .i64 A, .int .i64 B, c], .int .i64 n] w fun e w' => e = .returned (.tuple #[.int .i64 (lmV (askB D A B n ts) (rsP D A B n ts)), .bool (lmB (askB D A B n ts) (rsP D A B n ts))]) ∧ Below w.heap.size w w' := by
  have hm : (ts.length : Int) ≤ 9223372036854775807 := by have := hr.max; unfold maxLen at this; omega
  obtain ⟨a, p, rfl, -⟩ := hr.len
  obtain ⟨N, hn⟩ : ∃ N, N = ts.length := ⟨_, rfl⟩
  rw [← hn] at hm hr
  rw [← hn]
  have HN := Lib.hid hn
  clear hn
  have S0 := SB.start (D := D) (A := A) (B := B) hr 25
  have hmf : ∀ (fn : Fn) (first cap : Array Value) (w : World), (Instr.makeFunc fn first cap).run Try.prog w = .ok (.func fn first cap) w := fun _ _ _ _ => rfl
  have S0 := S0.alloc (.cells #[.int .i64 n] 3)
  have qn : ((w.alloc (.cells #[.int .i64 D, .int .i64 A, .int .i64 B, .slice a N p] 25)).alloc (.cells #[.int .i64 n] 3)).cell? ⟨w.heap.size + 1, 0, none⟩ = some (.int .i64 n) := by simp [go_sem]
  have hlt0 : w.heap.size + 1 < ((w.alloc (.cells #[.int .i64 D, .int .i64 A, .int .i64 B, .slice a N p] 25)).alloc (.cells #[.int .i64 n] 3)).heap.size := by simp
  have q0 := S0.q0
  have q1 := S0.q1
  have q2 := S0.q2
  have q3 := S0.q3
  cases hq : sightB D A B ts with
  | false =>
    have HQ := Lib.hid (askB_no1 (n := n) hq)
    have HS := Lib.hid hq
    clear hq
    go_enter Try.func37, Try.ntmps37
    go_wp2_with fail
    refine (isSight_b D A B _ ts _ S0.rd HS.out).mono ?_
    rintro e w1 ⟨rfl, hb1⟩
    have S1 := S0.next hb1
    go_wp2
    go_ret2
    exact ⟨ret2h (lmV_no HQ.out).symm (lmB_no HQ.out).symm, S1.below⟩
  | true =>
    have HS := Lib.hid hq
    clear hq
    cases hq : inB n 0 3 with
    | false =>
      have HQ := Lib.hid (askB_no2 (D := D) (A := A) (B := B) (ts := ts) hq)
      have HI := Lib.hid hq
      clear hq
      go_enter Try.func37, Try.ntmps37
      go_wp2_with fail
      refine (isSight_b D A B _ ts _ S0.rd HS.out).mono ?_
      rintro e w1 ⟨rfl, hb1⟩
      have qn := (hb1.cell (p := ⟨w.heap.size + 1, 0, none⟩) hlt0).trans qn
      have S1 := S0.next hb1
      have q0 := S1.q0
      have q1 := S1.q1
      have q2 := S1.q2
      have q3 := S1.q3
      go_wp2_with fail
      refine (isRefraction_b n _ HI.out).mono ?_
      rintro e w' ⟨rfl, rfl⟩
      go_wp2
      go_ret2
      exact ⟨ret2h (lmV_no HQ.out).symm (lmB_no HQ.out).symm, S1.below⟩
    | true =>
      have HQ := Lib.hid (askB_yes HS.out hq)
      have HB := SiBn.ask HQ.out
      have ok := sightB_iff.1 HS.out
      have HCL : Hid (∀ (y : World), RdR c2 2 y (.slice a N p) ts → y.cell? ⟨w.heap.size, 0, none⟩ = some (.int .i64 D) → y.cell? ⟨w.heap.size, 1, none⟩ = some (.int .i64 A) → y.cell? ⟨w.heap.size, 2, none⟩ = some (.int .i64 B) → y.cell? ⟨w.heap.size, 3, none⟩ = some (.slice a N p) → y.cell? ⟨w.heap.size + 1, 0, none⟩ = some (.int .i64 n) → ∀ u : Nat, u < 3001 → Calls Try.prog 79 #[.int .i64 u, .pointer (some ⟨w.heap.size, 0, none⟩), .pointer (some ⟨w.heap.size + 1, 0, none⟩)] y fun e w' => e = .returned (.bool (rsP D A B n ts u)) ∧ Below y.heap.size y w') := Lib.hid fun y hy y0 y1 y2 y3 yn u hu => clLeastRaise_any D A B n u a N p ts _ _ y HB ok.a3 ok.b3 hu y0 y1 y2 y3 yn hy
      have HM : Hid (∀ i j : Nat, i ≤ j → j < 3001 → rsP D A B n ts i = true → rsP D A B n ts j = true) := Lib.hid fun i j hij hj hp => seesB_mono (by omega) (by omega) (fun k hk => by have := HB.grd k hk; omega) hp
      have eg : ∀ args w, (callFunc 79 args).run Try.prog w = .ok (.enter 79 args) w := enters_of Try.func79 (by kernel_rfl) rfl
      have EG := Lib.hid eg
      have HI := Lib.hid hq
      clear hq HB ok eg
      go_enter Try.func37, Try.ntmps37
      go_wp2_with fail
      refine (isSight_b D A B _ ts _ S0.rd HS.out).mono ?_
      rintro e w1 ⟨rfl, hb1⟩
      have qn := (hb1.cell (p := ⟨w.heap.size + 1, 0, none⟩) hlt0).trans qn
      have hlt1 : w.heap.size + 1 < w1.heap.size := Nat.lt_of_lt_of_le hlt0 hb1.size
      have S1 := S0.next hb1
      have q0 := S1.q0
      have q1 := S1.q1
      have q2 := S1.q2
      have q3 := S1.q3
      go_wp2_with fail
      refine (isRefraction_b n _ HI.out).mono ?_
      rintro e w' ⟨rfl, rfl⟩
      have HL := Lib.hid (leastMetres_any 79 #[.pointer (some ⟨w.heap.size, 0, none⟩), .pointer (some ⟨w.heap.size + 1, 0, none⟩)] (rsP D A B n ts) w1 EG.out (fun y i hy hi => HCL.out y (S1.next hy).rd (S1.next hy).q0 (S1.next hy).q1 (S1.next hy).q2 (S1.next hy).q3 ((hy.cell (p := ⟨w.heap.size + 1, 0, none⟩) hlt1).trans qn) i hi) HM.out)
      go_wp2_with fail
      refine (HL.out).mono ?_
      rintro e w2 ⟨rfl, hb2⟩
      have S2 := S1.next hb2
      go_wp2
      go_ret2
      exact ⟨by rw [HQ.out] <;> rfl, S2.below⟩
set_option maxRecDepth 100000 in
set_option maxHeartbeats 1000000 in
theorem specLeastRaise_any (D A B n : Int) (c : Value) (ts : List T2) (w : World) (hr : RdR c2 2 w c ts) :
    Calls Try.prog 38 #[.agg #[.int .i64 D, .int .i64 A, .int .i64 B, c], .int .i64 n] w fun e w' => e = .returned (.tuple #[.int .i64 (lmV (askB D A B n ts) (rsP D A B n ts)), .bool (lmB (askB D A B n ts) (rsP D A B n ts))]) ∧ Below w.heap.size w w' := by
  have hm : (ts.length : Int) ≤ 9223372036854775807 := by have := hr.max; unfold maxLen at this; omega
  obtain ⟨a, p, rfl, -⟩ := hr.len
  obtain ⟨N, hn⟩ : ∃ N, N = ts.length := ⟨_, rfl⟩
  rw [← hn] at hm hr
  rw [← hn]
  have HN := Lib.hid hn
  clear hn
  have S0 := SB.start (D := D) (A := A) (B := B) hr 25
  have q0 := S0.q0
  have q1 := S0.q1
  have q2 := S0.q2
  have q3 := S0.q3
  cases hq : askB D A B n ts with
  | false =>
    have HQ := Lib.hid hq
    clear hq
    go_enter Try.func38, Try.ntmps38
    go_wp2_with fail
    refine (siAsked_b D A B n _ ts _ S0.rd HQ.out).mono ?_
    rintro e w1 ⟨rfl, hb1⟩
    have S1 := S0.next hb1
    go_wp2
    go_ret2
    exact ⟨ret2h (lmV_no rfl).symm (lmB_no rfl).symm, S1.below⟩
  | true =>
    have HQ := Lib.hid hq
    have HB := Lib.hid (SiBn.ask hq)
    have hok := sightB_iff.1 (by unfold askB at hq; rw [Bool.and_eq_true] at hq; exact hq.1)
    have hA0 := hok.a0
    have hA3 := hok.a3
    have hB0 := hok.b0
    have hB3 := hok.b3
    clear hq hok
    have HR := Lib.hid hr
    clear hr
    have fz0 : ∀ j, (w.alloc (.cells #[.int .i64 D, .int .i64 A, .int .i64 B, .slice a N p] 25)).frozen? ⟨w.heap.size, j, none⟩ = false := fun j => by simp [go_sem]
    have HY : Hid (∀ k : Nat, k ≤ 3000 → (∀ t, t < k → rsP D A B n ts t = false) → rsP D A B n ts k = true → lmB true (rsP D A B n ts) = true ∧ lmV true (rsP D A B n ts) = k) := Lib.hid fun k hk ha hb => lm_yes rfl hk (fstP_eq (by omega) ha fun _ => hb)
    have HN0 : Hid ((∀ t, t < 3001 → rsP D A B n ts t = false) → lmB true (rsP D A B n ts) = false ∧ lmV true (rsP D A B n ts) = 0) := Lib.hid fun ha => lm_none (fstP_eq (by omega) ha fun h => absurd h (by omega))
    go_enter Try.func38, Try.ntmps38
    go_wp2_with fail
    refine (siAsked_b D A B n _ ts _ S0.rd HQ.out).mono ?_
    rintro e w1 ⟨rfl, hb1⟩
    have S1 := S0.next hb1
    have fz1 : ∀ j, w1.frozen? ⟨w.heap.size, j, none⟩ = false := fun j => (hb1.frozen (p := ⟨w.heap.size, j, none⟩) S0.lt).trans (fz0 j)
    go_wp2
    go_loopw [6] (fun s6 wr => ∃ k : Nat, s6 = .int .i64 k ∧ k ≤ 3001 ∧ SB w wr D (A + k) (B + k) a N p ts ∧ (∀ j, wr.frozen? ⟨w.heap.size, j, none⟩ = false) ∧ Hid (∀ t : Nat, t < k → rsP D A B n ts t = false)) (fun s6 wr => 4000 - (intOf s6).toNat)
    case atStart => exact ⟨0, rfl, by omega, by simpa using S1, fz1, Lib.hid fun t ht => by omega⟩
    case round =>
      clear q0 q1 q2 q3 S0 S1 fz0 fz1
      obtain ⟨k, rfl, hk, SK, fz, hall⟩ := hrel
      have q0 := SK.q0
      have q1 := SK.q1
      have q2 := SK.q2
      have q3 := SK.q3
      by_cases hk3 : k ≤ 3000
      · have HC := Lib.hid (fun hk' : k ≤ 3000 => siSees_any D (A + k) (B + k) n _ ts _ (HB.out.tops (A' := A + k) (B' := B + k) (by omega) (by omega) (by omega) (by omega)) SK.rd)
        cases hs : rsP D A B n ts k with
        | true =>
          have HW := Lib.hid (HY.out k hk3 hall.out hs)
          have HS : Hid (seesB D (A + k) (B + k) n ts = true) := Lib.hid hs
          clear hs
          go_wp2_with fail
          refine ((HC.out hk3)).mono ?_
          rintro e w2 ⟨rfl, hb2⟩
          rw [HS.out]
          have SY := SK.next hb2
          go_wp2
          go_ret2
          exact ⟨ret2h HW.out.2.symm HW.out.1.symm, SY.below⟩
        | false =>
          have HS : Hid (seesB D (A + k) (B + k) n ts = false) := Lib.hid hs
          have hall' : Hid (∀ t : Nat, t < k + 1 → rsP D A B n ts t = false) := Lib.hid fun t ht => by
            by_cases e : t = k
            · rw [e]; exact hs
            · exact hall.out t (by omega)
          clear hs
          go_wp2_with fail
          refine ((HC.out hk3)).mono ?_
          rintro e w2 ⟨rfl, hb2⟩
          rw [HS.out]
          have SY := SK.next hb2
          have fzY : ∀ j, w2.frozen? ⟨w.heap.size, j, none⟩ = false := fun j => (hb2.frozen (p := ⟨w.heap.size, j, none⟩) SK.lt).trans (fz j)
          have f1 := fzY 1
          have f2 := fzY 2
          have SZ := (SY.setA HR.out (A + k + 1)).setB HR.out (B + k + 1)
          have fzZ : ∀ j, ((w2.setCell ⟨w.heap.size, 1, none⟩ (.int .i64 (A + k + 1))).setCell ⟨w.heap.size, 2, none⟩ (.int .i64 (B + k + 1))).frozen? ⟨w.heap.size, j, none⟩ = false := fun j => (World.frozen?_setCell _ _ _ _).trans ((World.frozen?_setCell _ _ _ _).trans (fzY j))
          have z1 : (w2.setCell ⟨w.heap.size, 1, none⟩ (.int .i64 (A + k + 1))).cell? ⟨w.heap.size, 2, none⟩ = some (.int .i64 (B + k)) := by rw [setc_far' (.inl (by decide))]; exact SY.q2
          have q0 := SY.q0
          have q1 := SY.q1
          have q2 := SY.q2
          have q3 := SY.q3
          go_wp2
          go_roundw
          case rel => exact ⟨k + 1, by go_num, by omega, by rw [show A + ((k + 1 : Nat) : Int) = A + k + 1 by omega, show B + ((k + 1 : Nat) : Int) = B + k + 1 by omega]; exact SZ, fzZ, hall'⟩
          case measure => simp [intOf]; omega
      · have HW := Lib.hid (HN0.out (fun t ht => hall.out t (by omega)))
        go_wp2
        go_ret2
        exact ⟨ret2h HW.out.2.symm HW.out.1.symm, SK.below⟩
end Go.Proofs.Ytkdmjeonlghnjaa
