/- Chapter 8: a range over slices.Backward of numbers: the iterator's contract. -/
import Derived.RangeFuncNested
import Derived.RangeFuncBound
import Derived.RangeFuncCalls
import Derived.RangeFuncLeaves
import Derived.Shelf.Abstract
import Derived.Shelf.RegionOpen
import Derived.OwnWalkIn
import Derived.TacticsInMore
import Derived.LoopNIn
import Derived.LoopIn
import Derived.Test.YtpmdjdlojbpcfaaStO
namespace Go.Proofs.Ytpmdjdlojbpcfaa
open Go.RowKit Go.Shelf Go.Proofs
set_option linter.unusedSimpArgs false
set_option linter.unusedVariables false

attribute [local go_sem] Oper.semAt_some

/-- The places from the last one down, k of them. -/
def downs (N k : Nat) : List Nat := (List.range k).map fun j => N - 1 - j
theorem downs_succ (N k : Nat) : downs N (k + 1) = downs N k ++ [N - 1 - k] := by simp [downs, List.range_succ]
theorem downs_len (N k : Nat) : (downs N k).length = k := by simp [downs]
/-- What a round keeps: what was there at the call, and the iterator's box. -/
def KpI (n₀ bs : Nat) (W W' : World) : Prop := Below n₀ W W' ∧ ∀ v, W.cell? ⟨bs, 0, none⟩ = some v → W'.cell? ⟨bs, 0, none⟩ = some v
theorem KpI.t {n₀ bs : Nat} {A B C : World} (h : KpI n₀ bs A B) (k : KpI n₀ bs B C) : KpI n₀ bs A C := ⟨h.1.trans k.1, fun v hv => k.2 v (h.2 v hv)⟩
theorem KpI.b {n₀ bs : Nat} {w : World} (hn : n₀ ≤ w.heap.size) (hb : bs < w.heap.size) (W : World) (l : Nat) (o o' : Obj) (hl : w.heap.size ≤ l) (h : W.heap[l]? = some o) (h1 : o.isCells = false) (h2 : o.isWalk = false) : KpI n₀ bs W (W.putObj l o') :=
  ⟨belowK_b hn W l o o' hl h h1 h2, fun v hv => ((belowK_b (n₀ := bs + 1) (w := w) (by omega) W l o o' hl h h1 h2).cell (p := ⟨bs, 0, none⟩) (by show bs < bs + 1; omega)).trans hv⟩
/-- What is handed to a round. -/
def encZ (zs : List Int) (x : Nat) : Array Value := #[.int .i64 x, .int .i64 (zs[x]?.getD 0)]

set_option maxRecDepth 100000 in
set_option maxHeartbeats 2000000 in
theorem back1_in (F : Fence) (n : Nat) (hF : F.fn 91) (hro : F.round = none) (hn : 1 ≤ n) (l bs N p : Nat) (a : Option Addr) (zs : List Int) (w : World) (hr : Rd w (.slice a N p) zs) (hN : N = zs.length) (hsm : N ≤ 20) (J Jx : List Nat → World → Prop)
    (hY : ∀ pre x W, J pre W → pre.length < N → x < N → YieldAt F (n - 1) Try.prog l (encZ zs x) W fun e W' =>
      (e = .returned (.bool true) ∧ J (pre ++ [x]) W' ∧ KpI w.heap.size bs W W') ∨ (e = .returned (.bool false) ∧ Jx (pre ++ [x]) W'))
    (W : World) (hb : Below w.heap.size w W) (hBs : W.cell? ⟨bs, 0, none⟩ = some (.slice a N p)) (h0 : J [] W) :
    CallsIn F n Try.prog 91 #[.func (.yield l) #[] #[], .pointer (some ⟨bs, 0, none⟩)] W fun e W' => (∃ v, e = .returned v) ∧
      ((∃ ys, ys = downs N N ∧ J ys W') ∨ (∃ pre, True ∧ Jx pre W')) := by
  have HR := Lib.hid hr
  have HN := Lib.hid hN
  clear hr hN
  refine callsIn_of_wp Try.func91 rfl hF ?_ hro
  simp only [Try.ntmps91, List.size_toArray, List.length_cons, List.length_nil, Nat.reduceAdd, Nat.reduceSub, Array.replicate_succ, Array.replicate_zero, List.push_toArray, List.append_toArray, List.nil_append, List.cons_append]
  gi_wp2
  gi_loopw [3] (fun s3 wr => ∃ k : Nat, k ≤ N ∧ s3 = .int .i64 ((N : Int) - 1 - k) ∧ J (downs N k) wr ∧ Below w.heap.size w wr ∧ wr.cell? ⟨bs, 0, none⟩ = some (.slice a N p))
    (fun s3 _ => (intOf s3 + 1).toNat)
  case atStart => exact ⟨0, Nat.zero_le _, by simp, h0, hb, hBs⟩
  case round =>
    clear hb hBs h0
    obtain ⟨k, hk, rfl, hJs, hb, hBs⟩ := hrel
    by_cases hlt : k < N
    · obtain ⟨I, hI⟩ : ∃ I : Nat, (N : Int) - 1 - k = I := ⟨N - 1 - k, by omega⟩
      have hIk : I = N - 1 - k := by omega
      have hIN : I < N := by omega
      obtain ⟨g, off, rfl, hg, x0⟩ := (HR.out.below hb (Nat.le_refl _)).at_ HN.out I hIN
      obtain ⟨fn, tmps, assign, body, hy, hR⟩ := hY _ I wr hJs (by rw [downs_len]; exact hlt) hIN
      unfold encZ at hy
      have E1 : Hid (downs N k ++ [I] = downs N (k + 1)) := Lib.hid (by rw [downs_succ, hIk])
      clear hIk
      rw [hI]
      gi_wp2
      refine hR.mono ?_
      rintro e W3 (⟨rfl, hJ3, hk3⟩ | ⟨rfl, hJx3⟩)
      · rw [E1.out] at hJ3
        have hb3 := hb.trans hk3.1
        have hc3 := hk3.2 _ hBs
        gi_wp2
        go_roundw
        case rel => exact ⟨k + 1, by omega, by congr 1; push_cast; omega, hJ3, hb3, hc3⟩
        case measure => simp only [intOf]; omega
      · gi_wp2
        refine bodyPost_ret (results_none rfl _ _ _) rfl ?_
        exact ⟨⟨_, rfl⟩, .inr ⟨_, trivial, hJx3⟩⟩
    · obtain rfl : k = N := by omega
      have hneg : ¬ (0 : Int) ≤ (k : Int) - 1 - k := by omega
      gi_wp2
      go_end0
      first | exact ⟨⟨_, rfl⟩, .inl hJs⟩ | exact ⟨⟨_, rfl⟩, .inl ⟨_, rfl, hJs⟩⟩

theorem back_in (F : Fence) (n : Nat) (hF : F.fn 74) (hro : F.round = none) (a : Option Addr) (N p : Nat) (w : World) :
    CallsIn F n Try.prog 74 #[.slice a N p] w fun e w' => e = .returned (.func (.func 91) #[] #[.pointer (some ⟨w.heap.size, 0, none⟩)]) ∧ w' = w.alloc (.cells #[.slice a N p] 26) := by
  refine callsIn_of_wp Try.func74 rfl hF ?_ hro
  simp only [Try.ntmps74, List.size_toArray, List.length_cons, List.length_nil, Nat.reduceAdd, Nat.reduceSub, Array.replicate_succ, Array.replicate_zero, List.push_toArray, List.append_toArray, List.nil_append, List.cons_append]
  gi_wp2
  go_ret
  exact ⟨rfl, rfl⟩
end Go.Proofs.Ytpmdjdlojbpcfaa
