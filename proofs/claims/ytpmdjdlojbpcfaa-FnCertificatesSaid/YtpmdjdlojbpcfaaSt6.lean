/- Chapter 8: what is seen from chosen sites, once and twice; covers. -/
import Derived.Test.YtpmdjdlojbpcfaaSt5
namespace Go.Proofs.Ytpmdjdlojbpcfaa
open Go.RowKit
set_option linter.unusedSimpArgs false
set_option linter.unusedVariables false

/-- Three values lie in block b. -/
structure Var3 (W : World) (b : Nat) (q0 q1 q2 : Value) : Prop where
  lt : b < W.heap.size
  c0 : W.cell? ⟨b, 0, none⟩ = some q0
  c1 : W.cell? ⟨b, 1, none⟩ = some q1
  c2 : W.cell? ⟨b, 2, none⟩ = some q2
  fz : ∀ j, W.frozen? ⟨b, j, none⟩ = false
section
variable {W W' : World} {b C : Nat} {q0 q1 q2 : Value}
theorem Var3.new (w : World) (q0 q1 q2 : Value) (t : TypeId) : Var3 (w.alloc (.cells #[q0, q1, q2] t)) w.heap.size q0 q1 q2 := ⟨by simp, by simp [go_sem], by simp [go_sem], by simp [go_sem], fun j => by simp [go_sem]⟩
theorem Var3.below (h : Var3 W b q0 q1 q2) (hb : Below C W W') (hC : b < C) : Var3 W' b q0 q1 q2 :=
  ⟨Nat.lt_of_lt_of_le h.lt hb.size, by rw [hb.cell (p := ⟨b, 0, none⟩) hC]; exact h.c0, by rw [hb.cell (p := ⟨b, 1, none⟩) hC]; exact h.c1, by rw [hb.cell (p := ⟨b, 2, none⟩) hC]; exact h.c2, fun j => by rw [hb.frozen (p := ⟨b, j, none⟩) hC]; exact h.fz j⟩
theorem Var3.next (h : Var3 W b q0 q1 q2) (hb : Below W.heap.size W W') : Var3 W' b q0 q1 q2 := h.below hb h.lt
theorem Var3.set {b' o : Nat} {u : Value} (h : Var3 W b q0 q1 q2) (hne : b' ≠ b) : Var3 (W.setCell ⟨b', o, none⟩ u) b q0 q1 q2 :=
  ⟨by simpa [World.setCell] using h.lt, by rw [setd_far (.inr hne)]; exact h.c0, by rw [setd_far (.inr hne)]; exact h.c1, by rw [setd_far (.inr hne)]; exact h.c2, fun j => (World.frozen?_setCell _ _ _ _).trans (h.fz j)⟩
theorem Var3.put0 {u : Value} (h : Var3 W b q0 q1 q2) : Var3 (W.setCell ⟨b, 0, none⟩ u) b u q1 q2 :=
  ⟨by simpa [World.setCell] using h.lt, setd_same h.c0, by rw [setd_far (.inl (by decide))]; exact h.c1, by rw [setd_far (.inl (by decide))]; exact h.c2, fun j => (World.frozen?_setCell _ _ _ _).trans (h.fz j)⟩
theorem Var3.put1 {u : Value} (h : Var3 W b q0 q1 q2) : Var3 (W.setCell ⟨b, 1, none⟩ u) b q0 u q2 :=
  ⟨by simpa [World.setCell] using h.lt, by rw [setd_far (.inl (by decide))]; exact h.c0, setd_same h.c1, by rw [setd_far (.inl (by decide))]; exact h.c2, fun j => (World.frozen?_setCell _ _ _ _).trans (h.fz j)⟩
theorem Var3.put2 {u : Value} (h : Var3 W b q0 q1 q2) : Var3 (W.setCell ⟨b, 2, none⟩ u) b q0 q1 u :=
  ⟨by simpa [World.setCell] using h.lt, by rw [setd_far (.inl (by decide))]; exact h.c0, by rw [setd_far (.inl (by decide))]; exact h.c1, setd_same h.c2, fun j => (World.frozen?_setCell _ _ _ _).trans (h.fz j)⟩
theorem Var3.drew (h : Var3 W b q0 q1 q2) : Var3 W.drew b q0 q1 q2 := h.next (Below.refl _ _).drew
end
/-- While one looks from the sites: the outlook, the answer's cells, what has been seen. -/
structure SfI (w wr : World) (N : Nat) (u : Value) (a b : Nat) : Prop where
  bel : Below w.heap.size w wr
  box : Var2 wr w.heap.size (.int .u64 N) u
  res : Var3 wr (w.heap.size + 1) (.int .u64 0) (.int .u64 0) (.int .u64 0)
  var : Var3 wr (w.heap.size + 2) (.int .u64 N) (.int .u64 a) (.int .u64 b)
theorem SfI.next {w wr w' : World} {N a b : Nat} {u : Value} (h : SfI w wr N u a b) (hb : Below wr.heap.size wr w') : SfI w w' N u a b :=
  ⟨h.bel.trans (hb.mono h.bel.size), h.box.next hb, h.res.next hb, h.var.next hb⟩
theorem SfI.put1 {w wr : World} {N a b : Nat} {u : Value} (h : SfI w wr N u a b) (x : Nat) : SfI w (wr.setCell ⟨w.heap.size + 2, 1, none⟩ (.int .u64 x)) N u x b :=
  ⟨h.bel.setCell (by show w.heap.size ≤ w.heap.size + 2; omega) _, h.box.set (by omega), h.res.set (by omega), h.var.put1⟩
theorem SfI.put2 {w wr : World} {N a b : Nat} {u : Value} (h : SfI w wr N u a b) (x : Nat) : SfI w (wr.setCell ⟨w.heap.size + 2, 2, none⟩ (.int .u64 x)) N u a x :=
  ⟨h.bel.setCell (by show w.heap.size ≤ w.heap.size + 2; omega) _, h.box.set (by omega), h.res.set (by omega), h.var.put2⟩
theorem bit_step (a c v : Nat) (ha : a < 65536) (hc : c < 65536) (hv : v < 65536) : ∃ p r : Nat, bits BinOp.and IntKind.u64 (a : Int) (v : Int) = (p : Int) ∧ bits BinOp.or IntKind.u64 (c : Int) (p : Int) = (r : Int) ∧ r = c ||| (a &&& v) ∧ r < 65536 := by
  have h1 : a &&& v < 2 ^ 16 := Nat.and_lt_two_pow _ (by omega)
  have h2 : c ||| (a &&& v) < 2 ^ 16 := Nat.or_lt_two_pow (by omega) h1
  exact ⟨a &&& v, c ||| (a &&& v), bits_and_u64_nat a v (by omega) (by omega), bits_or_u64_nat c (a &&& v) (by omega) (by omega), rfl, by omega⟩
set_option maxRecDepth 100000 in
set_option maxHeartbeats 4000000 in
theorem seenFrom_any (u : Value) (L : List (List Int)) (n s : Nat) (w : World) (ok : StOk L n) (hs : s < 65536) (hr : RdV w u L) :
    Calls Try.prog 68 #[.agg #[.int .u64 ((2 ^ n - 1 : Nat) : Int), u], .int .u64 s] w fun e w' => ∃ a b : Nat, e = .returned (.agg #[.int .u64 ((2 ^ n - 1 : Nat) : Int), .int .u64 a, .int .u64 b]) ∧ SeenI L n s L.length a b ∧ Below w.heap.size w w' := by
  have hn2 := ok.n2
  have hm2 := ok.m2
  have h16 := two16 hn2
  obtain ⟨au, cu, rfl⟩ := hr.len
  obtain ⟨m, hme⟩ : ∃ m, m = L.length := ⟨_, rfl⟩
  have HM := Lib.hid hme
  have HR := Lib.hid hr
  have OK := Lib.hid ok
  rw [← hme] at hm2 ⊢
  clear hme hr ok
  obtain ⟨N, hN⟩ : ∃ N : Nat, N = 2 ^ n - 1 := ⟨_, rfl⟩
  rw [← hN]
  have hN16 : N < 65536 := by omega
  have HN := Lib.hid hN
  clear hN h16
  have hb0 := Var2.new w (.int .u64 N) (.slice au m cu) 65
  have hb1 := Var3.new (w.alloc (.cells #[.int .u64 N, .slice au m cu] 65)) (.int .u64 0) (.int .u64 0) (.int .u64 0) 76
  simp only [World.size_alloc] at hb1
  go_enter Try.func68, Try.ntmps68
  go_wp2
  go_loopw [15] (fun i wr => ∃ k a b : Nat, k ≤ m ∧ i = .int .i64 k ∧ SfI w wr N (.slice au m cu) a b ∧ Hid (SeenI L n s k a b)) (fun i wr => m - (intOf i).toNat)
  case atStart =>
    refine ⟨0, 0, 0, Nat.zero_le _, rfl, ?_, Lib.hid (SeenI.zero _ _ _)⟩
    have hb2 := Var3.new ((w.alloc (.cells #[.int .u64 N, .slice au m cu] 65)).alloc (.cells #[.int .u64 0, .int .u64 0, .int .u64 0] 76)) (.int .u64 N) (.int .u64 0) (.int .u64 0) 76
    simp only [World.size_alloc] at hb2
    exact ⟨(((Below.refl w.heap.size w).alloc (Nat.le_refl _) _).alloc (by simp) _).alloc (by simp; omega) _, (hb0.next ((Below.refl _ _).alloc (Nat.le_refl _) _)).next ((Below.refl _ _).alloc (Nat.le_refl _) _), hb1.next ((Below.refl _ _).alloc (Nat.le_refl _) _), hb2⟩
  case round =>
    clear hb0 hb1
    obtain ⟨k, a, b, hk, rfl, hO, hsn⟩ := hrel
    by_cases hlt : k < m
    · obtain ⟨g, off, rfl, hg, q⟩ := HR.out.at_ (by rw [← HM.out]) k (by rw [← HM.out]; exact hlt)
      have hq := (hO.bel.cell (p := ⟨g, off + k, none⟩) hg).trans q
      have hv16 : vw L k < 65536 := Nat.lt_of_lt_of_le (OK.out.vw_lt k) (two16 hn2)
      have HC := Lib.hid (has_any s k wr hs (by omega))
      clear q
      cases hb : s.testBit k with
      | false =>
        have hsn' := Lib.hid (hsn.out.skip hb)
        go_wp2_with (go_at_call 90; refine HC.out.mono ?_; rintro e w' ⟨rfl, rfl⟩; rw [hb])
        go_roundw
        case rel => exact ⟨k + 1, a, b, by omega, by go_num, hO, hsn'⟩
        case measure => simp [intOf]; omega
      | true =>
        have hab := hsn.out.lt
        have h16 := two16 hn2
        obtain ⟨p2, r2, e1, e2, hr2, hl2⟩ := bit_step a b (vw L k) (by omega) (by omega) hv16
        obtain ⟨p1, r1, e3, e4, hr1, hl1⟩ := bit_step N a (vw L k) hN16 (by omega) hv16
        have hsn' : Hid (SeenI L n s (k + 1) r1 r2) := Lib.hid (by
          have := hsn.out.step OK.out hb
          rw [hr1, hr2, HN.out]
          exact this)
        clear hab h16 hr1 hr2 hl1 hl2 hv16
        generalize vw L k = vk at *
        go_wp2_with (go_at_call 90; refine HC.out.mono ?_; rintro e w' ⟨rfl, rfl⟩; rw [hb])
        go_loopw [8] (fun t wq => ∃ T x y : Nat, t = .int .i64 T ∧ SfI w wq N (.slice (some ⟨g, off, none⟩) m cu) x y ∧ ((T = 2 ∧ x = a ∧ y = b) ∨ (T = 1 ∧ x = a ∧ y = r2) ∨ (T = 0 ∧ x = r1 ∧ y = r2))) (fun t wq => (intOf t).toNat)
        case atStart => exact ⟨2, a, b, rfl, hO, .inl ⟨rfl, rfl, rfl⟩⟩
        case round =>
          clear hO hq HC
          obtain ⟨T, x, y, rfl, hO, hT⟩ := hrel
          have c0 := hO.var.c0
          have c1 := hO.var.c1
          have c2 := hO.var.c2
          have f1 := hO.var.fz 1
          have f2 := hO.var.fz 2
          rcases hT with ⟨rfl, rfl, rfl⟩ | ⟨rfl, rfl, rfl⟩ | ⟨rfl, rfl, rfl⟩
          · have hO' := Lib.hid ((hO.next (Below.refl _ _).drew).put2 r2)
            clear hO e3 e4
            go_wp2
            go_region
            all_goals
              go_wp2
              go_roundw
              case rel => exact ⟨1, _, _, by go_num, hO'.out, .inr (.inl ⟨rfl, rfl, rfl⟩)⟩
              case measure => simp [intOf]
          · have hO' := Lib.hid ((hO.next (Below.refl _ _).drew).put1 r1)
            clear hO e1 e2
            go_wp2
            go_region
            all_goals
              go_wp2
              go_roundw
              case rel => exact ⟨0, _, _, by go_num, hO'.out, .inr (.inr ⟨rfl, rfl, rfl⟩)⟩
              case measure => simp [intOf]
          · clear c0 c1 c2 f1 f2
            go_wp2
            go_roundw
            case rel => exact ⟨k + 1, _, _, by omega, by go_num, hO, hsn'⟩
            case measure => simp [intOf]; omega
    · obtain rfl : k = m := by omega
      have c0 := hO.var.c0
      have c1 := hO.var.c1
      have c2 := hO.var.c2
      have r0 := hO.res.c0
      have r1 := hO.res.c1
      have r2 := hO.res.c2
      have f0 := hO.res.fz 0
      have f1 := hO.res.fz 1
      have f2 := hO.res.fz 2
      have HB : Hid (Below w.heap.size w (((wr.setCell ⟨w.heap.size + 1, 0, none⟩ (.int .u64 N)).setCell ⟨w.heap.size + 1, 1, none⟩ (.int .u64 a)).setCell ⟨w.heap.size + 1, 2, none⟩ (.int .u64 b))) := Lib.hid (((hO.bel.setCell (p := ⟨w.heap.size + 1, 0, none⟩) (by show w.heap.size ≤ w.heap.size + 1; omega) _).setCell (p := ⟨w.heap.size + 1, 1, none⟩) (by show w.heap.size ≤ w.heap.size + 1; omega) _).setCell (p := ⟨w.heap.size + 1, 2, none⟩) (by show w.heap.size ≤ w.heap.size + 1; omega) _)
      clear hO
      go_wp2
      refine bodyPost_ret (v := .agg #[.int .u64 N, .int .u64 a, .int .u64 b]) (by simp [results, Try.results68, go_sem, *]) rfl ⟨a, b, rfl, hsn.out, HB.out⟩
end Go.Proofs.Ytpmdjdlojbpcfaa
