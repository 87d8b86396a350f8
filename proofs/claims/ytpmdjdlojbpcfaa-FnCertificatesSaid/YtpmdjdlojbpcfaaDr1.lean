/- Drawing from bytes: the cursor; a number, an element of a list. Loose contracts: bounds, and that nothing but the cursor is written. -/
import Derived.Test.YtpmdjdlojbpcfaaIv
import Derived.IntWalk
import Derived.WalkSmall
namespace Go.Proofs.Ytpmdjdlojbpcfaa
open Go.RowKit
set_option linter.unusedSimpArgs false
set_option linter.unusedVariables false

/-- v reads, in w, as some n bytes below the block C. -/
def RdU (w : World) (C : Nat) (v : Value) (n : Nat) : Prop :=
  n ≤ maxLen ∧ ((n = 0 ∧ ∃ a cap, v = .slice a 0 cap) ∨ ∃ g off cap, v = .slice (some ⟨g, off, none⟩) n cap ∧ g < C ∧ ∀ i, i < n → ∃ b : Int, w.cell? ⟨g, off + i, none⟩ = some (.int .u8 b) ∧ 0 ≤ b ∧ b ≤ 255)
theorem RdU.below {w w' : World} {C : Nat} {v : Value} {n : Nat} (h : RdU w C v n) (hb : Below C w w') : RdU w' C v n := by
  refine ⟨h.1, h.2.imp id ?_⟩
  rintro ⟨g, off, cap, hv, hg, hc⟩
  exact ⟨g, off, cap, hv, hg, fun i hi => by rw [hb.cell (p := ⟨g, off + i, none⟩) hg]; exact hc i hi⟩
theorem RdU.len {w : World} {C : Nat} {v : Value} {n : Nat} (h : RdU w C v n) : ∃ a cap, v = .slice a n cap := by
  rcases h.2 with ⟨rfl, a, cap, rfl⟩ | ⟨g, off, cap, rfl, -⟩
  · exact ⟨_, _, rfl⟩
  · exact ⟨_, _, rfl⟩
theorem RdU.at_ {w : World} {C : Nat} {a : Option Addr} {cap n : Nat} (h : RdU w C (.slice a n cap) n) (i : Nat) (hi : i < n) :
    ∃ g off, ∃ b : Int, a = some ⟨g, off, none⟩ ∧ g < C ∧ w.cell? ⟨g, off + i, none⟩ = some (.int .u8 b) ∧ 0 ≤ b ∧ b ≤ 255 := by
  rcases h.2 with ⟨rfl, -⟩ | ⟨g, off, cap', hv, hg, hc⟩
  · omega
  · simp only [Value.slice.injEq] at hv
    obtain ⟨b, h1, h2, h3⟩ := hc i hi
    exact ⟨g, off, b, hv.1, hg, h1, h2, h3⟩

/-- A cursor lies in block p; it has gone at most K places. -/
structure Cur (w : World) (p K : Nat) : Prop where
  lt : p < w.heap.size
  ex : ∃ a n cap, ∃ A : Nat, ∃ s : Int, w.cell? ⟨p, 0, none⟩ = some (.slice a n cap) ∧ RdU w p (.slice a n cap) n ∧ w.cell? ⟨p, 1, none⟩ = some (.int .i64 A) ∧ A ≤ K ∧ w.cell? ⟨p, 2, none⟩ = some (.int .u64 s) ∧ 0 ≤ s ∧ s ≤ 18446744073709551615 ∧
    w.frozen? ⟨p, 1, none⟩ = false ∧ w.frozen? ⟨p, 2, none⟩ = false
theorem Cur.kp {w w' : World} {p K B : Nat} (h : Cur w p K) (hk : Kp B w.heap.size w w') (hB : p < B) : Cur w' p K := by
  obtain ⟨h1, a, n, cap, A, s, c0, hr, c1, hA, c2, h3, h4, f1, f2⟩ := h
  have hb : Below (p + 1) w w' := ⟨hk.os, hk.tape, hk.output, hk.size, fun k hk' => hk.block k (by omega) (.inl (by omega))⟩
  have e : ∀ o, w'.cell? ⟨p, o, none⟩ = w.cell? ⟨p, o, none⟩ := fun o => hb.cell (p := ⟨p, o, none⟩) (Nat.lt_succ_self p)
  have f : ∀ o, w'.frozen? ⟨p, o, none⟩ = w.frozen? ⟨p, o, none⟩ := fun o => hb.frozen (p := ⟨p, o, none⟩) (Nat.lt_succ_self p)
  exact ⟨by have := hk.size; omega, a, n, cap, A, s, by rw [e]; exact c0, hr.below (hb.mono (Nat.le_succ p)), by rw [e]; exact c1, hA, by rw [e]; exact c2, h3, h4, by rw [f]; exact f1, by rw [f]; exact f2⟩
theorem Cur.later {w w' : World} {p K : Nat} (h : Cur w p K) (hb : Below w.heap.size w w') : Cur w' p K := h.kp (B := w.heap.size) (Kp.of_below hb) h.lt
theorem Cur.more {w : World} {p K K' : Nat} (h : Cur w p K) (hK : K ≤ K') : Cur w p K' := by
  obtain ⟨h1, a, n, cap, A, s, c0, hr, c1, hA, r⟩ := h
  exact ⟨h1, a, n, cap, A, s, c0, hr, c1, by omega, r⟩
theorem Kp.set {w : World} {p o : Nat} (v : Value) : Kp p (p + 1) w (w.setCell ⟨p, o, none⟩ v) := by
  refine ⟨rfl, rfl, rfl, by simp [World.setCell], fun k hk hx => ?_⟩
  have hne : k ≠ p := by omega
  exact Below.heap_setCell w ⟨p, o, none⟩ v k hne
theorem Kp.drew {B C : Nat} {a b : World} (h : Kp B C a b) : Kp B C a b.drew := ⟨h.os, h.tape, h.output, h.size, h.block⟩

theorem and255 (E : Int) (h0 : 0 ≤ E) (h1 : E ≤ 18446744073709551615) : 0 ≤ bits BinOp.and IntKind.u64 E 255 ∧ bits BinOp.and IntKind.u64 E 255 ≤ 255 := by
  have h := bits_and_u64_nat E.toNat 255 (by omega) (by omega)
  rw [Int.toNat_of_nonneg h0] at h
  have h2 : E.toNat &&& 255 ≤ 255 := Nat.and_le_right
  rw [show bits BinOp.and IntKind.u64 E 255 = ((E.toNat &&& 255 : Nat) : Int) from h]
  omega

theorem u64_bounds (n : Int) : 0 ≤ IntKind.u64.wrap n ∧ IntKind.u64.wrap n ≤ 18446744073709551615 := by rw [IntKind.wrap_u64]; omega
theorem Cur.step {w : World} {p K : Nat} (h : Cur w p K) {A : Nat} (hA : A ≤ K) (e : Int) (h0 : 0 ≤ e) (h1 : e ≤ 18446744073709551615) :
    Cur ((w.setCell ⟨p, 1, none⟩ (.int .i64 ((A : Int) + 1))).setCell ⟨p, 2, none⟩ (.int .u64 e)) p (K + 1) := by
  obtain ⟨hp, a, n, cap, A', s, c0, hr, c1, hA', c2, h3, h4, f1, f2⟩ := h
  have hb : Below p w ((w.setCell ⟨p, 1, none⟩ (.int .i64 ((A : Int) + 1))).setCell ⟨p, 2, none⟩ (.int .u64 e)) := ((Below.refl p w).setCell (p := ⟨p, 1, none⟩) (Nat.le_refl _) _).setCell (p := ⟨p, 2, none⟩) (Nat.le_refl _) _
  refine ⟨by simp [World.setCell]; exact hp, a, n, cap, A + 1, e, ?_, hr.below hb, ?_, by omega, ?_, h0, h1, by simp [go_sem, f1], by simp [go_sem, f2]⟩
  · simp [go_sem, c0]
  · simp [go_sem, c1]
  · simp [go_sem, c2]

set_option maxRecDepth 100000 in
set_option maxHeartbeats 1600000 in
theorem next_any (p K : Nat) (w : World) (h : Cur w p K) (hK : K ≤ 1000000) :
    Calls Try.prog 97 #[.pointer (some ⟨p, 0, none⟩)] w fun e w' => ∃ r : Nat, e = .returned (.int .i64 r) ∧ r ≤ 255 ∧ Cur w' p (K + 1) ∧ Kp p (p + 1) w w' := by
  have HC := Lib.hid h
  obtain ⟨hp, a, n, cap, A, s, c0, hr, c1, hA, c2, h3, h4, f1, f2⟩ := h
  have hn := hr.1
  have HR := Lib.hid hr
  have wA : IntKind.i64.wrap ((A : Int) + 1) = (A : Int) + 1 := IntWalk.i64_in _ (by omega)
  by_cases hlt : A < n
  · obtain ⟨g, off, b, rfl, hg, hcb, hb0, hb1⟩ := hr.at_ A hlt
    clear hr
    obtain ⟨b, rfl⟩ := Int.eq_ofNat_of_zero_le hb0
    have ht : decide ((A : Int) < (n : Int)) = true := by simp; omega
    have ht2 : decide ((A : Int) + 1 ≤ (n : Int)) = true := by simp; omega
    go_enter Try.func97, Try.ntmps97
    go_wp2
    go_region
    go_wp2
    go_region
    go_wp2
    go_region
    go_wp2
    go_ret
    refine ⟨b, rfl, by omega, ?_, ?_⟩
    · exact (HC.out.step hA _ (u64_bounds _).1 (u64_bounds _).2).later (((Below.refl _ _).drew).drew.drew)
    · exact (((Kp.set _).trans (Kp.set _)).drew).drew.drew
  · have ht : decide ((A : Int) < (n : Int)) = false := by simp; omega
    have ht2 : decide ((A : Int) + 1 ≤ (n : Int)) = false := by simp; omega
    clear hr
    go_enter Try.func97, Try.ntmps97
    go_wp2
    go_region
    go_wp2
    go_region
    go_wp2
    go_ret
    obtain ⟨hq0, hq1⟩ := and255 (IntKind.u64.wrap (IntKind.u64.wrap (IntKind.u64.wrap (s * 6364136223846793005)) + 1442695040888963407) / 1099511627776) (by have := (u64_bounds (IntKind.u64.wrap (IntKind.u64.wrap (s * 6364136223846793005)) + 1442695040888963407)).1; omega) (by have := (u64_bounds (IntKind.u64.wrap (IntKind.u64.wrap (s * 6364136223846793005)) + 1442695040888963407)).2; omega)
    obtain ⟨q, hq⟩ := Int.eq_ofNat_of_zero_le hq0
    refine ⟨q, ?_, by omega, ?_, ?_⟩
    · rw [← hq]
      exact ret_int (by rw [← IntWalk.i64_left]; exact IntWalk.i64_in _ (by omega))
    · exact (HC.out.step hA _ (u64_bounds _).1 (u64_bounds _).2).later (((Below.refl _ _).drew).drew)
    · exact (((Kp.set _).trans (Kp.set _)).drew).drew
theorem i64_nat {n : Nat} (h : n ≤ 1000000) : IntKind.i64.wrap (n : Int) = n := IntWalk.i64_in _ (by omega)

set_option maxHeartbeats 1600000 in
theorem pick_any (p K n : Nat) (w : World) (h : Cur w p K) (hK : K ≤ 900000) (h1 : 1 ≤ n) (hn : n ≤ 60000) :
    Calls Try.prog 87 #[.pointer (some ⟨p, 0, none⟩), .int .i64 n] w fun e w' => ∃ r : Nat, e = .returned (.int .i64 r) ∧ r < n ∧ Cur w' p (K + 2) ∧ Kp p (p + 1) w w' := by
  by_cases hn1 : n ≤ 1
  · have ht : decide ((n : Int) ≤ 1) = true := by simp; omega
    go_enter Try.func87, Try.ntmps87
    go_wp2
    go_ret
    exact ⟨0, rfl, by omega, h.more (by omega), Kp.refl _ _ _⟩
  · have ht : decide ((n : Int) ≤ 1) = false := by simp; omega
    have hz : ((n : Int) == 0) = false := by simp; omega
    by_cases hb : n ≤ 200
    · have ht2 : decide ((200 : Int) < (n : Int)) = false := by simp; omega
      go_enter Try.func87, Try.ntmps87
      go_wp2_with fail
      refine (next_any p K _ h (by omega)).mono ?_
      rintro e w1 ⟨r, rfl, hr, hC, hk⟩
      go_wp2
      go_ret
      exact ⟨r % n, ret_int (by simp [Int.tmod]), Nat.mod_lt _ (by omega), hC.more (by omega), hk⟩
    · have ht2 : decide ((200 : Int) < (n : Int)) = true := by simp; omega
      go_enter Try.func87, Try.ntmps87
      go_wp2_with fail
      refine (next_any p K _ h (by omega)).mono ?_
      rintro e w1 ⟨r, rfl, hr, hC, hk⟩
      go_wp2_with fail
      refine (next_any p (K + 1) _ hC (by omega)).mono ?_
      rintro e w2 ⟨r2, rfl, hr2, hC2, hk2⟩
      have hm : IntKind.i64.wrap (r : Int) = r := IntWalk.i64_in _ (by omega)
      go_wp2
      go_ret
      exact ⟨(r * 256 + r2) % n, ret_int (by simp [Int.tmod]), Nat.mod_lt _ (by omega), hC2, hk.trans hk2⟩
theorem one_any (p K n : Nat) (w : World) (h : Cur w p K) (hK : K ≤ 900000) (h1 : 1 ≤ n) (hn : n ≤ 60000) :
    Calls Try.prog 83 #[.pointer (some ⟨p, 0, none⟩), .int .i64 n] w fun e w' => ∃ b : Bool, e = .returned (.bool b) ∧ Cur w' p (K + 2) ∧ Kp p (p + 1) w w' := by
  go_enter Try.func83, Try.ntmps83
  go_wp2_with fail
  refine (pick_any p K n _ h hK h1 hn).mono ?_
  rintro e w1 ⟨r, rfl, hr, hC, hk⟩
  obtain ⟨b, hb⟩ : ∃ b : Bool, ((r : Int) == 0) = b := ⟨_, rfl⟩
  go_wp2
  go_ret
  exact ⟨b, rfl, hC, hk⟩
/-- The list does not lie in the cursor's block. -/
theorem among_any (p K g m cap : Nat) (zs : Nat → Int) (w : World) (h : Cur w p K) (hK : K ≤ 900000) (h1 : 1 ≤ m) (hm : m ≤ 60000) (hg : g ≠ p) (hgs : g < w.heap.size) (hc : ∀ i, i < m → w.cell? ⟨g, i, none⟩ = some (.int .i64 (zs i))) :
    Calls Try.prog 53 #[.pointer (some ⟨p, 0, none⟩), .slice (some ⟨g, 0, none⟩) m cap] w fun e w' => ∃ r : Nat, e = .returned (.int .i64 (zs r)) ∧ r < m ∧ Cur w' p (K + 2) ∧ Kp p (p + 1) w w' := by
  have H := Lib.hid hc
  clear hc
  go_enter Try.func53, Try.ntmps53
  go_wp2_with fail
  refine (pick_any p K m _ h hK h1 hm).mono ?_
  rintro e w1 ⟨r, rfl, hr, hC, hk⟩
  have hcr : w1.cell? ⟨g, r, none⟩ = some (.int .i64 (zs r)) := by rw [World.cell?_of_block (w := w) (hk.block g hgs (by omega))]; exact H.out r hr
  go_wp2
  go_ret
  exact ⟨r, rfl, hr, hC, hk⟩
end Go.Proofs.Ytpmdjdlojbpcfaa
