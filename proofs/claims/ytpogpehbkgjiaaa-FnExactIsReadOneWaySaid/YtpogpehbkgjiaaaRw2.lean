/- Chapter 2: read in one way: the program's note of a rest. -/
import Derived.Test.YtpogpehbkgjiaaaRw1
namespace Go.Proofs.Ytpogpehbkgjiaaa
open Go.RowKit
set_option linter.unusedSimpArgs false
set_option linter.unusedVariables false

theorem Rows.set {f : Bool} {w0 w : World} {B b : Nat} {v x y : Value} {L : List (List Int)} {fr : Nat × Nat} (h : Rows f w0 w B v L) (hb : w.heap[b]? = some (.cells #[x] 84 fr)) (hB : w0.heap.size ≤ b) : Rows f w0 (w.setCell ⟨b, 0, none⟩ y) B v L := by
  obtain ⟨hB0, hb0, hw, us, h1, h2⟩ := h
  have hg : w.grownBy (w.setCell ⟨b, 0, none⟩ y) (some b) := ⟨rfl, rfl, rfl, by simp [World.setCell], fun k _ hk => Below.heap_setCell _ _ _ _ (fun e => hk (by simp [e]))⟩
  have hne : ∀ {e : TypeId} {n : Nat} {u : Value} {xs : List Value}, e ≠ 84 → w.ownsRow B e 1 u n xs → u.ownBlock = none ∨ u.ownBlock ≠ some b := by
    intro e n u xs he hr
    rcases hr.2 with ⟨rfl, -⟩ | ⟨g, cap, cur, rfl, hg, hh, -⟩
    · exact .inl rfl
    · refine .inr fun hx => ?_
      simp only [Value.ownBlock, Option.some.injEq] at hx
      subst hx
      rw [hb] at hh
      simp only [Option.some.injEq, Obj.cells.injEq] at hh
      exact he hh.2.1.symm
  exact ⟨hB0, hb0.setCell (p := ⟨b, 0, none⟩) hB _, by simpa [World.setCell] using hw, us, h1.kept hg (hne (by decide) h1), fun i hi => (h2 i hi).imp (fun h => ⟨h.1, h.2.kept hg (hne (by decide) h.2)⟩) id⟩

theorem Rows.apart {f : Bool} {w0 w : World} {B b : Nat} {v : Value} {L : List (List Int)} {cs : Array Value} {T : TypeId} {fr : Nat × Nat} (h : Rows f w0 w B v L) (hT : 26 ≠ T) (hb : w.heap[b]? = some (.cells cs T fr)) : some b ≠ v.ownBlock := by
  obtain ⟨-, -, -, us, h1, -⟩ := h
  rcases h1.2 with ⟨rfl, -⟩ | ⟨g, cap, cur, rfl, hg, hh, -⟩
  · simp [Value.ownBlock]
  · intro hx
    simp only [Value.ownBlock, Option.some.injEq] at hx
    subst hx
    rw [hb] at hh
    simp only [Option.some.injEq, Obj.cells.injEq] at hh
    exact hT hh.2.1.symm
theorem eq1_any (u u2 : Value) (zs ls : List Int) (b : Nat) (w : World) (hc : w.cell? ⟨b, 0, none⟩ = some u2) (h1 : Rd w u zs) (h2 : Rd w u2 ls) :
    Calls Try.prog 104 #[u, .pointer (some ⟨b, 0, none⟩)] w fun e w' => e = .returned (.bool (sameB zs ls)) ∧ Below w.heap.size w w' := by
  go_enter Try.func104, Try.ntmps104
  go_wp2_with fail
  refine (slEqual_any _ _ zs ls _ h1 h2).mono ?_
  rintro e w1 ⟨rfl, n, rfl⟩
  go_wp2
  go_ret
  exact ⟨rfl, below_drewN (Below.refl _ _) n⟩

def inL (L : List (List Int)) (ls : List Int) : Bool := decide (ls ∈ L)
theorem inL_yes {L : List (List Int)} {ls : List Int} (h : ls ∈ L) : inL L ls = true := by simp [inL, h]
theorem inL_no {L : List (List Int)} {ls : List Int} (h : ls ∉ L) : inL L ls = false := by simp [inL, h]

set_option maxHeartbeats 400000 in
theorem indexRows_any (w0 : World) (B : Nat) (v u2 : Value) (L : List (List Int)) (ls : List Int) (b : Nat) (w : World) (hL : L.length ≤ 1048576) (hb : b < w.heap.size) (hc : w.cell? ⟨b, 0, none⟩ = some u2) (hr : Rows false w0 w B v L) (h2 : Rd w u2 ls) :
    Calls Try.prog 120 #[v, .func (.func 104) #[] #[.pointer (some ⟨b, 0, none⟩)]] w fun e w' => ∃ z : Int, e = .returned (.int .i64 z) ∧ (0 ≤ z ↔ ls ∈ L) ∧ Below w.heap.size w w' := by
  obtain ⟨a, cap, rfl, hcap⟩ := hr.len
  obtain ⟨n, hn⟩ : ∃ n, n = L.length := ⟨_, rfl⟩
  have HN := Lib.hid hn
  have HR := Lib.hid hr
  have HC := Lib.hid hc
  rw [← hn] at hL HR hcap ⊢
  clear hn hr hc
  go_enter Try.func120, Try.ntmps120
  go_wp2
  go_loopw [8] (fun i wr => ∃ k : Nat, k ≤ n ∧ i = .int .i64 k ∧ Below w.heap.size w wr ∧ Hid (∀ j, j < k → L[j]?.getD [] ≠ ls)) (fun i wr => n - (intOf i).toNat)
  case atStart => exact ⟨0, Nat.zero_le _, rfl, Below.refl _ _, Lib.hid fun j hj => by omega⟩
  case round =>
    obtain ⟨k, hk, rfl, hbl, hall⟩ := hrel
    by_cases hlt : k < n
    · obtain ⟨g, u, rfl, hcz, hru, -⟩ := (HR.out.later hbl).at_ k hlt
      have hcb : wr.cell? ⟨b, 0, none⟩ = some u2 := by rw [hbl.cell (p := ⟨b, 0, none⟩) hb]; exact HC.out
      have hkI : (k : Int) < (n : Int) := by omega
      cases hs : sameB (L[k]?.getD []) ls with
      | true =>
        have hf : Hid (0 ≤ (k : Int) ↔ ls ∈ L) := Lib.hid (by
          have e := sameB_iff.1 hs
          have hkl : k < L.length := by rw [← HN.out]; exact hlt
          rw [List.getElem?_eq_getElem hkl] at e
          exact ⟨fun _ => e ▸ List.getElem_mem hkl, fun _ => by omega⟩)
        have hru' := Lib.hid hru
        clear hru
        go_wp2_with (go_at_call 104; refine (eq1_any u u2 (L[k]?.getD []) ls b _ hcb hru'.out.rd (h2.later hbl)).mono ?_; rintro e w1 ⟨rfl, hb'⟩)
        go_ret
        exact ⟨_, rfl, hf.out, hbl.trans (hb'.mono hbl.size)⟩
      | false =>
        have hall' : Hid (∀ j, j < k + 1 → L[j]?.getD [] ≠ ls) := Lib.hid fun j hj => by
          by_cases e : j = k
          · subst e; intro e; rw [sameB_iff.2 e] at hs; cases hs
          · exact hall.out j (by omega)
        have hru' := Lib.hid hru
        clear hru
        go_wp2_with (go_at_call 104; refine (eq1_any u u2 (L[k]?.getD []) ls b _ hcb hru'.out.rd (h2.later hbl)).mono ?_; rintro e w1 ⟨rfl, hb'⟩)
        go_roundw
        case rel => exact ⟨k + 1, by omega, by go_num, hbl.trans (hb'.mono hbl.size), hall'⟩
        case measure => simp [intOf]; omega
    · have hf : Hid (0 ≤ (-1 : Int) ↔ ls ∈ L) := Lib.hid ⟨fun h => by omega, fun h => by
        obtain ⟨m, hm, e⟩ := List.mem_iff_getElem.1 h
        have := hall.out m (by rw [← HN.out] at hm; omega)
        rw [List.getElem?_eq_getElem hm] at this
        exact absurd e this⟩
      go_wp2
      go_ret
      exact ⟨_, rfl, hf.out, hbl⟩

theorem containsRows_any (w0 : World) (B : Nat) (v u2 : Value) (L : List (List Int)) (ls : List Int) (b : Nat) (w : World) (hL : L.length ≤ 1048576) (hb : b < w.heap.size) (hc : w.cell? ⟨b, 0, none⟩ = some u2) (hr : Rows false w0 w B v L) (h2 : Rd w u2 ls) :
    Calls Try.prog 103 #[v, .func (.func 104) #[] #[.pointer (some ⟨b, 0, none⟩)]] w fun e w' => e = .returned (.bool (inL L ls)) ∧ Below w.heap.size w w' := by
  go_enter Try.func103, Try.ntmps103
  go_wp2_with fail
  refine (indexRows_any w0 B v u2 L ls b w hL hb hc hr h2).mono ?_
  rintro e w1 ⟨z, rfl, hz, hb1⟩
  by_cases h : ls ∈ L
  · have hz1 : 0 ≤ z := hz.2 h
    have hf := Lib.hid (inL_yes h)
    clear hz h
    go_wp2
    go_ret
    exact ⟨ret_bool hf.out.symm, hb1⟩
  · have hz1 : ¬ 0 ≤ z := fun h' => h (hz.1 h')
    have hf := Lib.hid (inL_no h)
    clear hz h
    go_wp2
    go_ret
    exact ⟨ret_bool (by rw [hf.out]; exact decide_eq_false (by omega)), hb1⟩

set_option maxHeartbeats 800000 in
theorem note_any (w0 : World) (B b : Nat) (v u : Value) (L : List (List Int)) (z : List Int) (w : World) (hL : L.length ≤ 1048000) (hB : w0.heap.size ≤ b) (hbk : w.heap[b]? = some (.cells #[v] 84 (0, 0))) (hr : Rows false w0 w B v L) (hu : RdC w0 u z) :
    Calls Try.prog 102 #[u, .pointer (some ⟨b, 0, none⟩)] w fun e w' => e = .returned (.tuple #[]) ∧ ∃ v', w'.heap[b]? = some (.cells #[v'] 84 (0, 0)) ∧ Rows false w0 w' B v' (putL L z) ∧ w.heap.size ≤ w'.heap.size ∧ ∀ k, k < w.heap.size → k ≠ b → some k ≠ v.ownBlock → w'.heap[k]? = w.heap[k]? := by
  have hmf : ∀ (fn : Fn) (first cap : Array Value) (w : World), (Instr.makeFunc fn first cap).run Try.prog w = .ok (.func fn first cap) w := fun _ _ _ _ => rfl
  have huw := hu.later hr.below
  obtain ⟨-, au, cu, rfl, hcu⟩ := id hu
  obtain ⟨av, cv, rfl, hcv⟩ := hr.len
  obtain ⟨nz, hnz⟩ : ∃ nz, nz = z.length := ⟨_, rfl⟩
  obtain ⟨nl, hnl⟩ : ∃ nl, nl = L.length := ⟨_, rfl⟩
  have HNL := Lib.hid hnl
  have HU := Lib.hid hu
  have HUW := Lib.hid huw
  have HR := Lib.hid hr
  rw [← hnz] at hcu HU HUW ⊢
  rw [← hnl] at hcv hbk HR
  have hL' : L.length ≤ 1048576 := by omega
  have HL := Lib.hid hL'
  clear hnz hnl hu huw hr hL hL'
  have hlt : b < w.heap.size := by
    rcases Nat.lt_or_ge b w.heap.size with h' | h'
    · exact h'
    · simp [Array.getElem?_eq_none h'] at hbk
  have hb0 := (Below.refl w.heap.size w).alloc (Nat.le_refl _) (.cells #[.slice au nz cu] 26)
  have c0 : (w.alloc (.cells #[.slice au nz cu] 26)).cell? ⟨b, 0, none⟩ = some (.slice av nl cv) := by
    rw [hb0.cell (p := ⟨b, 0, none⟩) hlt, Lib.cell_of_heap hbk]; rfl
  have cu0 : (w.alloc (.cells #[.slice au nz cu] 26)).cell? ⟨w.heap.size, 0, none⟩ = some (.slice au nz cu) := by simp [go_sem]
  have hsz : w.heap.size < (w.alloc (.cells #[.slice au nz cu] 26)).heap.size := by simp
  have HBK : Hid ((w.alloc (.cells #[.slice au nz cu] 26)).heap[b]? = some (.cells #[.slice av nl cv] 84 (0, 0))) := Lib.hid (by rw [Lib.alloc_old w _ b hlt]; exact hbk)
  go_enter Try.func102, Try.ntmps102
  go_wp2_with fail
  generalize w.alloc (.cells #[.slice au nz cu] 26) = W at *
  refine (containsRows_any w0 B _ (.slice au nz cu) L z w.heap.size W HL.out hsz cu0 (HR.out.later hb0) (HUW.out.later hb0).rd).mono ?_
  rintro e w1 ⟨rfl, hb1⟩
  have hR1 := (HR.out.later hb0).later hb1
  have hltW : b < W.heap.size := Nat.lt_trans hlt hsz
  have hk1 : w1.heap[b]? = some (.cells #[.slice av nl cv] 84 (0, 0)) := by rw [hb1.block b hltW]; exact HBK.out
  by_cases h : z ∈ L
  · have hf := Lib.hid (inL_yes h)
    have hp := Lib.hid (putL_old h)
    rw [hf.out]
    clear h
    go_wp2
    go_end0
    exact ⟨rfl, _, hk1, by rw [hp.out]; exact hR1, Nat.le_trans hb0.size hb1.size, fun k hk _ _ => by rw [hb1.block k (Nat.lt_trans hk hsz), hb0.block k hk]⟩
  · have hf := Lib.hid (inL_no h)
    have hp := Lib.hid (putL_new h)
    rw [hf.out]
    have c1 : w1.cell? ⟨b, 0, none⟩ = some (.slice av nl cv) := by rw [Lib.cell_of_heap hk1]; rfl
    have cu1 : w1.cell? ⟨w.heap.size, 0, none⟩ = some (.slice au nz cu) := by rw [hb1.cell (p := ⟨w.heap.size, 0, none⟩) hsz]; exact cu0
    have HR1 := Lib.hid hR1
    have HK1 := Lib.hid hk1
    have HK1A : Hid ((w1.alloc (.cells #[.slice au nz cu] 26)).heap[b]? = some (.cells #[.slice av nl cv] 84 (0, 0))) := Lib.hid (by rw [Lib.alloc_old w1 _ b (Nat.lt_of_lt_of_le hltW hb1.size)]; exact hk1)
    have hlt1 : b < w1.heap.size := Nat.lt_of_lt_of_le hltW hb1.size
    have HA := Lib.hid (HR1.out.apart (by decide) HK1.out)
    clear h hk1 hR1
    go_wp2_with (at_builtin; refine append_rows (w0 := w0) rfl _ _ rfl B (.slice av nl cv) L z (.slice au nz cu) w1.heap.size rfl rfl (HR1.out.later ((Below.refl _ w1).alloc (Nat.le_refl _) _)) (by simp [go_sem]) (.inr HU.out) HL.out ?_; intro v2 w2 hr2 hg2; obtain ⟨a2, n2, c2, rfl⟩ : ∃ a2 n2 c2, v2 = .slice a2 n2 c2 := (by obtain ⟨a, c, h, -⟩ := hr2.len; exact ⟨a, _, c, h⟩); have hk2 := (hg2.block b (by simp; omega) HA.out).trans HK1A.out; have d2 : w2.cell? ⟨b, 0, none⟩ = some (.slice av nl cv) := (by rw [Lib.cell_of_heap hk2]; rfl); have f2 : w2.frozen? ⟨b, 0, none⟩ = false := Lib.frozen_of_heap hk2 0; have HR2 := Lib.hid hr2; have HK2 := Lib.hid hk2; clear hr2 hk2)
    go_end0
    refine ⟨rfl, .slice a2 n2 c2, ?_, ?_, ?_, ?_⟩
    · have := HK2.out
      simp [World.setCell, Array.getElem?_modify, this]
    · rw [hp.out]
      exact HR2.out.set HK2.out hB
    · have h1 := hg2.size
      have h2 := hb1.size
      have h3 := hb0.size
      simp [World.setCell] at h1 ⊢
      omega
    · intro k hk hkb hka
      rw [Below.heap_setCell _ _ _ _ (fun e => hkb (by simp [e])), hg2.block k (by have := hb1.size; simp; omega) (by rw [HNL.out]; exact hka), Lib.alloc_old w1 _ k (by have := hb1.size; omega), hb1.block k (Nat.lt_trans hk hsz), hb0.block k hk]
def WhichLow (a b : List Int) (w0 w : World) (e : Ending) (w' : World) : Prop := ∃ v, e = .returned (.tuple #[.int .i64 (kindOf a b), v]) ∧ RdC w0 v (restOf a b) ∧ ∃ n, w' = w.drewN n
set_option maxHeartbeats 800000 in
theorem whichLow_any (w0 : World) (v1 v2 : Value) (xs ys : List Int) (w : World) (hbw : Below w0.heap.size w0 w) (h1 : RdC w0 v1 xs) (h2 : RdC w0 v2 ys) :
    Calls Try.prog 96 #[v1, v2] w (WhichLow xs ys w0 w) := by
  have m1 := h1.rd.max
  have m2 := h2.rd.max
  unfold maxLen at m1 m2
  have h1' := h1
  have h2' := h2
  obtain ⟨-, a1, c1, rfl, l1⟩ := h1
  obtain ⟨-, a2, c2, rfl, l2⟩ := h2
  obtain ⟨n1, hn1⟩ : ∃ n, n = xs.length := ⟨_, rfl⟩
  obtain ⟨n2, hn2⟩ : ∃ n, n = ys.length := ⟨_, rfl⟩
  have HM := Lib.hid (min_take xs ys)
  have R1 : ∀ k, k ≤ n1 → RdC w (.slice a1 k c1) (xs.take k) := fun k hk => (h1'.take k (by rw [← hn1]; exact hk)).later hbw
  have R2 : ∀ k, k ≤ n2 → RdC w (.slice a2 k c2) (ys.take k) := fun k hk => (h2'.take k (by rw [← hn2]; exact hk)).later hbw
  have H1 := Lib.hid h1'
  have H2 := Lib.hid h2'
  have R1' := Lib.hid R1
  have R2' := Lib.hid R2
  have N1 := Lib.hid hn1
  have N2 := Lib.hid hn2
  rw [← hn1] at m1 l1 ⊢
  rw [← hn2] at m2 l2 ⊢
  clear h1' h2' hn1 hn2 R1 R2
  rcases Nat.lt_trichotomy n1 n2 with hlt | heq | hgt
  · have hk1 : n1 ≤ c1 := l1
    have hk2 : n1 ≤ c2 := by omega
    have hk3 : ¬ c2 = n1 := by omega
    have hmin : min (n1 : Int) (n2 : Int) = (n1 : Int) := by omega
    obtain ⟨g, off, rfl⟩ := H2.out.some_ (by rw [← N2.out]; omega)
    have hs1 : Hid (begsB xs ys = sameB (xs.take n1) (ys.take n1)) := Lib.hid (by rw [begsB_short (by rw [← N1.out, ← N2.out]; omega), N1.out, List.take_length])
    have hs2 : Hid (begsB ys xs = false) := Lib.hid (begsB_long (by rw [← N1.out, ← N2.out]; omega))
    cases hb : sameB (xs.take n1) (ys.take n1) with
    | true =>
      have hk : Hid (kindOf xs ys = 1) := Lib.hid (by unfold kindOf; rw [hs1.out, hb, if_pos rfl, if_neg (by rw [← N1.out, ← N2.out]; omega)])
      have hre : Hid (restOf xs ys = ys.drop n1) := Lib.hid (by unfold restOf; rw [hs1.out, hb, if_pos rfl, N1.out])
      have RD : Hid (RdC w0 (.slice (some ⟨g, off + n1, none⟩) (n2 - n1) (c2 - n1)) (ys.drop n1)) := Lib.hid (by have := H2.out; rw [← N2.out] at this; exact this.drop n1 hlt)
      go_enter Try.func96, Try.ntmps96
      go_wp2
      go_quiet ((go_at_call 105; exact Calls.quiet_of (slEqual_any _ _ (xs.take n1) (ys.take n1) _ ((R1'.out n1 (by omega)).drewN _).rd ((R2'.out n1 (by omega)).drewN _).rd)))
      go_wp2
      go_quiet (fail)
      go_wp2
      go_ret2
      exact ⟨_, by rw [hk.out]; rfl, by rw [hre.out]; exact RD.out, _, World.drewN_drewN _ _ _⟩
    | false =>
      have hk : Hid (kindOf xs ys = 0) := Lib.hid (by unfold kindOf; rw [hs1.out, hs2.out]; simp [hb])
      have hre : Hid (restOf xs ys = []) := Lib.hid (by unfold restOf; rw [hs1.out, hs2.out]; simp [hb])
      go_enter Try.func96, Try.ntmps96
      go_wp2
      go_quiet ((go_at_call 105; exact Calls.quiet_of (slEqual_any _ _ (xs.take n1) (ys.take n1) _ ((R1'.out n1 (by omega)).drewN _).rd ((R2'.out n1 (by omega)).drewN _).rd)))
      go_wp2
      go_ret2
      exact ⟨_, by rw [hk.out]; rfl, by rw [hre.out]; exact RdC.nil _, _, rfl⟩
  · obtain rfl : n2 = n1 := heq.symm
    have hk1 : n2 ≤ c1 := l1
    have hs1 : Hid (begsB xs ys = sameB (xs.take n2) (ys.take n2)) := Lib.hid (by rw [begsB_short (by rw [← N1.out, ← N2.out]; exact Nat.le_refl _), N1.out, List.take_length])
    have hs2 : Hid (begsB ys xs = sameB (ys.take n2) (xs.take n2)) := Lib.hid (by rw [begsB_short (by rw [← N1.out, ← N2.out]; exact Nat.le_refl _), N2.out, List.take_length])
    cases hb : sameB (xs.take n2) (ys.take n2) with
    | true =>
      have hk : Hid (kindOf xs ys = 3) := Lib.hid (by unfold kindOf; rw [hs1.out, hb, if_pos rfl, if_pos (by rw [← N1.out, ← N2.out])])
      have hre : Hid (restOf xs ys = []) := Lib.hid (by unfold restOf; rw [hs1.out, hb, if_pos rfl, ← N1.out, N2.out, List.drop_length])
      go_enter Try.func96, Try.ntmps96
      go_wp2
      go_quiet ((go_at_call 105; exact Calls.quiet_of (slEqual_any _ _ (xs.take n2) (ys.take n2) _ ((R1'.out n2 (by omega)).drewN _).rd ((R2'.out n2 (by omega)).drewN _).rd)))
      go_wp2
      go_ret2
      exact ⟨_, by rw [hk.out]; rfl, by rw [hre.out]; exact RdC.nil _, _, rfl⟩
    | false =>
      have hb' : sameB (ys.take n2) (xs.take n2) = false := by
        simp only [sameB, decide_eq_false_iff_not] at hb ⊢; exact fun e => hb e.symm
      have hk : Hid (kindOf xs ys = 0) := Lib.hid (by unfold kindOf; rw [hs1.out, hs2.out]; simp [hb, hb'])
      have hre : Hid (restOf xs ys = []) := Lib.hid (by unfold restOf; rw [hs1.out, hs2.out]; simp [hb, hb'])
      go_enter Try.func96, Try.ntmps96
      go_wp2
      go_quiet ((go_at_call 105; exact Calls.quiet_of (slEqual_any _ _ (xs.take n2) (ys.take n2) _ ((R1'.out n2 (by omega)).drewN _).rd ((R2'.out n2 (by omega)).drewN _).rd)))
      go_wp2
      go_ret2
      exact ⟨_, by rw [hk.out]; rfl, by rw [hre.out]; exact RdC.nil _, _, rfl⟩
  · have hk2 : n2 ≤ c2 := l2
    have hk1 : n2 ≤ c1 := by omega
    have hk3 : ¬ c1 = n2 := by omega
    have hmin : min (n1 : Int) (n2 : Int) = (n2 : Int) := by omega
    obtain ⟨g, off, rfl⟩ := H1.out.some_ (by rw [← N1.out]; omega)
    have hs1 : Hid (begsB xs ys = false) := Lib.hid (begsB_long (by rw [← N1.out, ← N2.out]; omega))
    have hs2 : Hid (begsB ys xs = sameB (xs.take n2) (ys.take n2)) := Lib.hid (by rw [begsB_short (by rw [← N1.out, ← N2.out]; omega), N2.out, List.take_length, Bool.eq_iff_iff]; simp [sameB]; exact ⟨fun h => h.symm, fun h => h.symm⟩)
    cases hb : sameB (xs.take n2) (ys.take n2) with
    | true =>
      have hk : Hid (kindOf xs ys = 2) := Lib.hid (by unfold kindOf; rw [hs1.out, hs2.out, hb]; rfl)
      have hre : Hid (restOf xs ys = xs.drop n2) := Lib.hid (by unfold restOf; rw [hs1.out, hs2.out, hb, N2.out]; rfl)
      have RD : Hid (RdC w0 (.slice (some ⟨g, off + n2, none⟩) (n1 - n2) (c1 - n2)) (xs.drop n2)) := Lib.hid (by have := H1.out; rw [← N1.out] at this; exact this.drop n2 hgt)
      go_enter Try.func96, Try.ntmps96
      go_wp2
      go_quiet ((go_at_call 105; exact Calls.quiet_of (slEqual_any _ _ (xs.take n2) (ys.take n2) _ ((R1'.out n2 (by omega)).drewN _).rd ((R2'.out n2 (by omega)).drewN _).rd)))
      go_wp2
      go_quiet (fail)
      go_wp2
      go_ret2
      exact ⟨_, by rw [hk.out]; rfl, by rw [hre.out]; exact RD.out, _, World.drewN_drewN _ _ _⟩
    | false =>
      have hk : Hid (kindOf xs ys = 0) := Lib.hid (by unfold kindOf; rw [hs1.out, hs2.out]; simp [hb])
      have hre : Hid (restOf xs ys = []) := Lib.hid (by unfold restOf; rw [hs1.out, hs2.out]; simp [hb])
      go_enter Try.func96, Try.ntmps96
      go_wp2
      go_quiet ((go_at_call 105; exact Calls.quiet_of (slEqual_any _ _ (xs.take n2) (ys.take n2) _ ((R1'.out n2 (by omega)).drewN _).rd ((R2'.out n2 (by omega)).drewN _).rd)))
      go_wp2
      go_ret2
      exact ⟨_, by rw [hk.out]; rfl, by rw [hre.out]; exact RdC.nil _, _, rfl⟩
end Go.Proofs.Ytpogpehbkgjiaaa
