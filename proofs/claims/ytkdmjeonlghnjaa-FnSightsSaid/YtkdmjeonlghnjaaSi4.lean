/- Chapter 7: no Ground is too high: the program's isClear, the model's siBlocked and siSees; the program's BlockedBy. -/
import Derived.Test.YtkdmjeonlghnjaaSi3
namespace Go.Proofs.Ytkdmjeonlghnjaa
open Go.RowKit Go.Sort
set_option linter.unusedSimpArgs false
set_option linter.unusedVariables false

/-- Under this the sums over all Grounds are exact. -/
structure SiBn (D A B n : Int) (ts : List T2) : Prop where
  d1 : 1 ≤ D
  d9 : D ≤ 999
  a0 : 0 ≤ A
  a6 : A ≤ 6001
  b0 : 0 ≤ B
  b6 : B ≤ 6001
  n0 : 0 ≤ n
  n3 : n ≤ 3
  l : ts.length ≤ 20
  grd : ∀ i, i < ts.length → 1 ≤ (rAt ts i).x0 ∧ (rAt ts i).x0 < D ∧ 0 ≤ (rAt ts i).x1 ∧ (rAt ts i).x1 ≤ 3000
theorem SiBn.at_ {D A B n : Int} {ts : List T2} (h : SiBn D A B n ts) {i : Nat} (hi : i < ts.length) : Bnd D A B n ⟨(rAt ts i).x0, (rAt ts i).x1⟩ :=
  ⟨h.d1, h.d9, h.a0, h.a6, h.b0, h.b6, h.n0, h.n3, (h.grd i hi).1, (h.grd i hi).2.1, (h.grd i hi).2.2.1, (h.grd i hi).2.2.2⟩
theorem SiBn.of {D A B n : Int} {ts : List T2} (h : sightB D A B ts = true) (h0 : 0 ≤ n) (h3 : n ≤ 3) : SiBn D A B n ts := by
  have ok := sightB_iff.1 h
  exact ⟨ok.d1, ok.d9, ok.a0, by have := ok.a3; omega, ok.b0, by have := ok.b3; omega, h0, h3, ok.n, ok.grd⟩
theorem SiBn.ask {D A B n : Int} {ts : List T2} (h : askB D A B n ts = true) : SiBn D A B n ts := by
  unfold askB at h
  rw [Bool.and_eq_true] at h
  exact SiBn.of h.1 (inB_iff.1 h.2).1 (inB_iff.1 h.2).2
theorem SiBn.tops {D A B n A' B' : Int} {ts : List T2} (h : SiBn D A B n ts) (h1 : 0 ≤ A') (h2 : A' ≤ 6001) (h3 : 0 ≤ B') (h4 : B' ≤ 6001) : SiBn D A' B' n ts :=
  ⟨h.d1, h.d9, h1, h2, h3, h4, h.n0, h.n3, h.l, h.grd⟩

theorem clear1_any (D A B n x0 x1 : Int) (c : Value) (b b' : Nat) (w : World) (h : Bnd D A B n ⟨x0, x1⟩) (q0 : w.cell? ⟨b, 0, none⟩ = some (.int .i64 D)) (q1 : w.cell? ⟨b, 1, none⟩ = some (.int .i64 A)) (q2 : w.cell? ⟨b, 2, none⟩ = some (.int .i64 B)) (q3 : w.cell? ⟨b, 3, none⟩ = some c) (qn : w.cell? ⟨b', 0, none⟩ = some (.int .i64 n)) :
    Calls Try.prog 92 #[.agg #[.int .i64 x0, .int .i64 x1], .pointer (some ⟨b, 0, none⟩), .pointer (some ⟨b', 0, none⟩)] w fun e w' => e = .returned (.bool (decide (ovr D A B n ⟨x0, x1⟩ < 0))) ∧ Below w.heap.size w w' := by
  have hb := World.block_lt_of_cell? _ _ q0
  have hb' := World.block_lt_of_cell? _ _ qn
  have hB := (Below.refl w.heap.size w).alloc (Nat.le_refl _) (.cells #[.int .i64 x0, .int .i64 x1] 72)
  have H := Lib.hid h
  clear h
  dsimp only at hb hb'
  have r0 : (w.alloc (.cells #[.int .i64 x0, .int .i64 x1] 72)).cell? ⟨b, 0, none⟩ = some (.int .i64 D) := (hB.cell (p := ⟨b, 0, none⟩) hb).trans q0
  have r1 : (w.alloc (.cells #[.int .i64 x0, .int .i64 x1] 72)).cell? ⟨b, 1, none⟩ = some (.int .i64 A) := (hB.cell (p := ⟨b, 1, none⟩) hb).trans q1
  have r2 : (w.alloc (.cells #[.int .i64 x0, .int .i64 x1] 72)).cell? ⟨b, 2, none⟩ = some (.int .i64 B) := (hB.cell (p := ⟨b, 2, none⟩) hb).trans q2
  have r3 : (w.alloc (.cells #[.int .i64 x0, .int .i64 x1] 72)).cell? ⟨b, 3, none⟩ = some c := (hB.cell (p := ⟨b, 3, none⟩) hb).trans q3
  have rn : (w.alloc (.cells #[.int .i64 x0, .int .i64 x1] 72)).cell? ⟨b', 0, none⟩ = some (.int .i64 n) := (hB.cell (p := ⟨b', 0, none⟩) hb').trans qn
  go_enter Try.func92, Try.ntmps92
  go_wp2_with fail
  refine (roomAbove_any D A B n x0 x1 c _ H.out).mono ?_
  rintro e w1 ⟨rfl, hb1⟩
  have hB1 := hB.trans (hb1.mono hB.size)
  go_wp2
  go_ret
  exact ⟨rfl, hB1⟩

set_option maxHeartbeats 400000 in
theorem indexG_any (D A B n : Int) (c v : Value) (ts : List T2) (b b' : Nat) (w : World) (h : SiBn D A B n ts) (q0 : w.cell? ⟨b, 0, none⟩ = some (.int .i64 D)) (q1 : w.cell? ⟨b, 1, none⟩ = some (.int .i64 A)) (q2 : w.cell? ⟨b, 2, none⟩ = some (.int .i64 B)) (q3 : w.cell? ⟨b, 3, none⟩ = some c) (qn : w.cell? ⟨b', 0, none⟩ = some (.int .i64 n)) (hr : RdR c2 2 w v ts) :
    Calls Try.prog 100 #[v, .func (.func 92) #[] #[.pointer (some ⟨b, 0, none⟩), .pointer (some ⟨b', 0, none⟩)]] w fun e w' => ∃ z : Int, e = .returned (.int .i64 z) ∧ (0 ≤ z ↔ seesB D A B n ts = false) ∧ Below w.heap.size w w' := by
  have hb := World.block_lt_of_cell? _ _ q0
  have hb' := World.block_lt_of_cell? _ _ qn
  dsimp only at hb hb'
  have hm := h.l
  have HK : Hid (∀ y : World, Below w.heap.size w y → y.cell? ⟨b, 0, none⟩ = some (.int .i64 D) ∧ y.cell? ⟨b, 1, none⟩ = some (.int .i64 A) ∧ y.cell? ⟨b, 2, none⟩ = some (.int .i64 B) ∧ y.cell? ⟨b, 3, none⟩ = some c ∧ y.cell? ⟨b', 0, none⟩ = some (.int .i64 n)) := Lib.hid fun y hy =>
    ⟨(hy.cell (p := ⟨b, 0, none⟩) hb).trans q0, (hy.cell (p := ⟨b, 1, none⟩) hb).trans q1, (hy.cell (p := ⟨b, 2, none⟩) hb).trans q2, (hy.cell (p := ⟨b, 3, none⟩) hb).trans q3, (hy.cell (p := ⟨b', 0, none⟩) hb').trans qn⟩
  have H := Lib.hid h
  clear h q0 q1 q2 q3 qn
  obtain ⟨a, cap, rfl, hcap⟩ := hr.len
  obtain ⟨N, hn⟩ : ∃ N, N = ts.length := ⟨_, rfl⟩
  have HN := Lib.hid hn
  have HR := Lib.hid hr
  rw [← hn] at HR hcap hm ⊢
  clear hn hr
  go_enter Try.func100, Try.ntmps100
  go_wp2
  go_loopw [8] (fun i wr => ∃ k : Nat, k ≤ N ∧ i = .int .i64 k ∧ Below w.heap.size w wr ∧ Hid (∀ j, j < k → 0 ≤ ovr D A B n (rAt ts j))) (fun i wr => N - (intOf i).toNat)
  case atStart => exact ⟨0, Nat.zero_le _, rfl, Below.refl _ _, Lib.hid fun j hj => by omega⟩
  case round =>
    obtain ⟨k, hk, rfl, hbl, hall⟩ := hrel
    by_cases hlt : k < N
    · obtain ⟨g, off, rfl, hg, x0, x1⟩ := (HR.out.below hbl (Nat.le_refl _)).at2 HN.out k hlt
      have HC := Lib.hid (H.out.at_ (i := k) (by rw [← HN.out]; exact hlt))
      have hkI : (k : Int) < (N : Int) := by omega
      by_cases hs : ovr D A B n (rAt ts k) < 0
      · have hf : Hid (0 ≤ (k : Int) ↔ seesB D A B n ts = false) := Lib.hid ⟨fun _ => by
          cases e : seesB D A B n ts with
          | false => rfl
          | true => have := seesB_iff.1 e k (by rw [← HN.out]; exact hlt); omega, fun _ => by omega⟩
        have hd : Hid (decide (ovr D A B n (rAt ts k) < 0) = true) := Lib.hid (decide_eq_true hs)
        clear hs
        go_wp2_with (go_at_call 92; refine (clear1_any D A B n (rAt ts k).x0 (rAt ts k).x1 c b b' _ HC.out (HK.out _ hbl).1 (HK.out _ hbl).2.1 (HK.out _ hbl).2.2.1 (HK.out _ hbl).2.2.2.1 (HK.out _ hbl).2.2.2.2).mono ?_; rintro e w1 ⟨rfl, hb'⟩; rw [show (⟨(rAt ts k).x0, (rAt ts k).x1⟩ : T2) = rAt ts k from rfl, hd.out])
        go_ret
        exact ⟨_, rfl, hf.out, hbl.trans (hb'.mono hbl.size)⟩
      · have hd : Hid (decide (ovr D A B n (rAt ts k) < 0) = false) := Lib.hid (decide_eq_false hs)
        have hall' : Hid (∀ j, j < k + 1 → 0 ≤ ovr D A B n (rAt ts j)) := Lib.hid fun j hj => by
          by_cases e : j = k
          · subst e; omega
          · exact hall.out j (by omega)
        clear hs
        go_wp2_with (go_at_call 92; refine (clear1_any D A B n (rAt ts k).x0 (rAt ts k).x1 c b b' _ HC.out (HK.out _ hbl).1 (HK.out _ hbl).2.1 (HK.out _ hbl).2.2.1 (HK.out _ hbl).2.2.2.1 (HK.out _ hbl).2.2.2.2).mono ?_; rintro e w1 ⟨rfl, hb'⟩; rw [show (⟨(rAt ts k).x0, (rAt ts k).x1⟩ : T2) = rAt ts k from rfl, hd.out])
        go_roundw
        case rel => exact ⟨k + 1, by omega, by go_num, hbl.trans (hb'.mono hbl.size), hall'⟩
        case measure => simp [intOf]; omega
    · have hf : Hid (0 ≤ (-1 : Int) ↔ seesB D A B n ts = false) := Lib.hid ⟨fun h => by omega, fun h => by
        have := seesB_iff.2 (fun i hi => hall.out i (by rw [← HN.out] at hi; omega))
        rw [this] at h; cases h⟩
      go_wp2
      go_ret
      exact ⟨_, rfl, hf.out, hbl⟩

theorem containsG_any (D A B n : Int) (c v : Value) (ts : List T2) (b b' : Nat) (w : World) (h : SiBn D A B n ts) (q0 : w.cell? ⟨b, 0, none⟩ = some (.int .i64 D)) (q1 : w.cell? ⟨b, 1, none⟩ = some (.int .i64 A)) (q2 : w.cell? ⟨b, 2, none⟩ = some (.int .i64 B)) (q3 : w.cell? ⟨b, 3, none⟩ = some c) (qn : w.cell? ⟨b', 0, none⟩ = some (.int .i64 n)) (hr : RdR c2 2 w v ts) :
    Calls Try.prog 91 #[v, .func (.func 92) #[] #[.pointer (some ⟨b, 0, none⟩), .pointer (some ⟨b', 0, none⟩)]] w fun e w' => e = .returned (.bool (!seesB D A B n ts)) ∧ Below w.heap.size w w' := by
  go_enter Try.func91, Try.ntmps91
  go_wp2_with fail
  refine (indexG_any D A B n c v ts b b' w h q0 q1 q2 q3 qn hr).mono ?_
  rintro e w1 ⟨z, rfl, hz, hb1⟩
  cases h : seesB D A B n ts with
  | false =>
    have hz1 : 0 ≤ z := hz.2 h
    have HS := Lib.hid h
    clear hz h
    go_wp2
    go_ret
    exact ⟨ret_bool (by rw [HS.out] <;> simp <;> omega), hb1⟩
  | true =>
    have hz1 : ¬ 0 ≤ z := fun h' => by have := hz.1 h'; rw [h] at this; cases this
    have HS := Lib.hid h
    clear hz h
    go_wp2
    go_ret
    exact ⟨ret_bool (by rw [HS.out] <;> simp <;> omega), hb1⟩

theorem isClear_any (D A B n : Int) (c : Value) (ts : List T2) (w : World) (h : SiBn D A B n ts) (hr : RdR c2 2 w c ts) :
    Calls Try.prog 54 #[.agg #[.int .i64 D, .int .i64 A, .int .i64 B, c], .int .i64 n] w fun e w' => e = .returned (.bool (seesB D A B n ts)) ∧ Below w.heap.size w w' := by
  have hmf : ∀ (fn : Fn) (first cap : Array Value) (w : World), (Instr.makeFunc fn first cap).run Try.prog w = .ok (.func fn first cap) w := fun _ _ _ _ => rfl
  have hB := ((Below.refl w.heap.size w).alloc (Nat.le_refl _) (.cells #[.int .i64 D, .int .i64 A, .int .i64 B, c] 25)).alloc (by simp) (.cells #[.int .i64 n] 3)
  have H := Lib.hid h
  have hr1 := Lib.hid (hr.later hB)
  obtain ⟨a, p, rfl, -⟩ := hr.len
  clear h hr
  go_enter Try.func54, Try.ntmps54
  go_wp2_with fail
  refine (containsG_any D A B n (.slice a ts.length p) (.slice a ts.length p) ts w.heap.size (w.heap.size + 1) _ H.out (by simp [go_sem]) (by simp [go_sem]) (by simp [go_sem]) (by simp [go_sem]) (by simp [go_sem]) hr1.out).mono ?_
  rintro e w1 ⟨rfl, hb1⟩
  have hB1 := hB.trans (hb1.mono hB.size)
  go_wp2
  go_ret
  exact ⟨rfl, hB1⟩
end Go.Proofs.Ytkdmjeonlghnjaa
