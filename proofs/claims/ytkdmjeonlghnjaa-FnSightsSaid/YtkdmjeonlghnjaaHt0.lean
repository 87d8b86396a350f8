/- Heights: what the least ones mean. No program in sight but its words. -/
import Derived.Test.YtkdmjeonlghnjaaSi7
import Derived.Test.YtkdmjeonlghnjaaSi8
import Derived.Test.YtkdmjeonlghnjaaDs3
namespace Go.Proofs.Ytkdmjeonlghnjaa
open Go.RowKit
set_option linter.unusedSimpArgs false
set_option linter.unusedVariables false

theorem fstP_spec {p : Nat → Bool} {n : Nat} (h : fstP p n < n) : p (fstP p n) = true ∧ ∀ t, t < fstP p n → p t = false := by
  unfold fstP at *
  have hl : List.findIdx p (List.range n) < (List.range n).length := by simpa using h
  constructor
  · have := List.findIdx_getElem (w := hl)
    simpa using this
  · intro t ht
    have h1 := List.not_of_lt_findIdx ht
    simpa using h1
theorem lm_spec {b : Bool} {p : Nat → Bool} (h : lmB b p = true) : b = true ∧ ∃ k : Nat, lmV b p = k ∧ k ≤ 3000 ∧ p k = true ∧ ∀ t, t < k → p t = false := by
  have hv : lmV b p = fstP p 3001 := by unfold lmV; rw [h]; rfl
  unfold lmB at h
  rw [Bool.and_eq_true, decide_eq_true_eq] at h
  have := fstP_spec (p := p) (n := 3001) (by omega)
  exact ⟨h.1, fstP p 3001, hv, h.2, this⟩
theorem ask_split {D A B n : Int} {ts : List T2} : askB D A B n ts = true ↔ sightB D A B ts = true ∧ inB n 0 3 = true := by unfold askB; rw [Bool.and_eq_true]
theorem SiOk.tops {D A B A' B' : Int} {ts : List T2} (h : SiOk D A B ts) (h1 : 0 ≤ A') (h2 : A' ≤ 3000) (h3 : 0 ≤ B') (h4 : B' ≤ 3000) : SiOk D A' B' ts := ⟨h.d1, h.d9, h1, h2, h3, h4, h.n, h.grd, h.stp⟩
theorem ask_tops {D A B A' B' n : Int} {ts : List T2} (h : askB D A B n ts = true) (h1 : 0 ≤ A') (h2 : A' ≤ 3000) (h3 : 0 ≤ B') (h4 : B' ≤ 3000) : askB D A' B' n ts = true := by
  rw [ask_split] at h ⊢
  exact ⟨sightB_iff.2 ((sightB_iff.1 h.1).tops h1 h2 h3 h4), h.2⟩

/-- The least height just suffices. -/
theorem height_spec {D A B n : Int} {ts : List T2} (h : lmB (askB D A B n ts) (hgP D A n ts) = true) : ∃ k : Nat, lmV (askB D A B n ts) (hgP D A n ts) = k ∧ k ≤ 3000 ∧ askB D A k n ts = true ∧ seesB D A k n ts = true ∧ (k ≠ 0 → askB D A ((k : Int) - 1) n ts = true ∧ seesB D A ((k : Int) - 1) n ts = false) := by
  obtain ⟨ha, k, hk, hk3, hp, hq⟩ := lm_spec h
  have ok := sightB_iff.1 (ask_split.1 ha).1
  refine ⟨k, hk, hk3, ask_tops ha ok.a0 ok.a3 (by omega) (by omega), hp, fun h0 => ⟨ask_tops ha ok.a0 ok.a3 (by omega) (by omega), ?_⟩⟩
  have := hq (k - 1) (by omega)
  unfold hgP at this
  rw [show (((k - 1 : Nat) : Int)) = (k : Int) - 1 by omega] at this
  exact this
/-- The least raise just suffices. -/
theorem raise_spec {D A B n : Int} {ts : List T2} (h : lmB (askB D A B n ts) (rsP D A B n ts) = true) : askB D A B n ts = true ∧ (0 ≤ A ∧ A ≤ 3000) ∧ (0 ≤ B ∧ B ≤ 3000) ∧ ∃ k : Nat, lmV (askB D A B n ts) (rsP D A B n ts) = k ∧ k ≤ 3000 ∧ seesB D A B n ts = ((k : Int) == 0) ∧ seesB D (A + k) (B + k) n ts = true ∧ (A + k ≤ 3000 → B + k ≤ 3000 → askB D (A + k) (B + k) n ts = true) := by
  obtain ⟨ha, k, hk, hk3, hp, hq⟩ := lm_spec h
  have ok := sightB_iff.1 (ask_split.1 ha).1
  have a0 := ok.a0
  have b0 := ok.b0
  refine ⟨ha, ⟨a0, ok.a3⟩, ⟨b0, ok.b3⟩, k, hk, hk3, ?_, hp, fun h1 h2 => ask_tops ha (by omega) h1 (by omega) h2⟩
  rcases Nat.eq_zero_or_pos k with rfl | hpos
  · unfold rsP at hp
    simpa using hp
  · have := hq 0 hpos
    unfold rsP at this
    simp only [Int.natCast_zero, Int.add_zero] at this
    rw [this, eq_comm, beq_eq_false_iff_ne]
    omega
/-- A horizon does not fall with the height. -/
theorem horizon_spec {h n : Int} (hb : hzB h n = true) (h3 : h < 3000) : hzB (h + 1) n = true ∧ hzV h n ≤ hzV (h + 1) n ∧ 0 ≤ hzV h n := by
  unfold hzB at hb
  rw [Bool.and_eq_true] at hb
  have hh := inB_iff.1 hb.1
  have hn := inB_iff.1 hb.2
  have hb1 : hzB (h + 1) n = true := by unfold hzB; rw [hb.2, inB_yes (by omega) (by omega)]; rfl
  have hb0 : hzB h n = true := by unfold hzB; rw [hb.1, hb.2]; rfl
  rw [hzV_yes hb1, hzV_yes hb0]
  refine ⟨hb1, ?_, by omega⟩
  have : hzN h n ≤ hzN (h + 1) n := by
    rcases Nat.lt_or_ge (hzN (h + 1) n) (hzN h n) with hlt | hge
    · exfalso
      have hle : hzN h n ≤ 999 := by unfold hzN fstP; exact Nat.le_trans List.findIdx_le_length (by simp)
      have h1 := (fstP_spec (p := fun d => !decide (5 * (8 - n) * ((d : Int) + 1) * ((d : Int) + 1) ≤ 50968 * (h + 1))) (n := 999) (by show hzN (h + 1) n < 999; omega)).1
      have h2 : (fun d : Nat => !decide (5 * (8 - n) * ((d : Int) + 1) * ((d : Int) + 1) ≤ 50968 * h)) (hzN (h + 1) n) = false := by
        have hx : ∀ t, t < hzN h n → (fun d : Nat => !decide (5 * (8 - n) * ((d : Int) + 1) * ((d : Int) + 1) ≤ 50968 * h)) t = false := by
          intro t ht
          have := List.not_of_lt_findIdx (show t < List.findIdx (fun d : Nat => !decide (5 * (8 - n) * ((d : Int) + 1) * ((d : Int) + 1) ≤ 50968 * h)) (List.range 999) from ht)
          simpa using this
        exact hx _ hlt
      change (!decide (5 * (8 - n) * ((hzN (h + 1) n : Int) + 1) * ((hzN (h + 1) n : Int) + 1) ≤ 50968 * (h + 1))) = true at h1
      simp at h1 h2
      omega
    · exact hge
  omega
theorem Var4.put1v {W : World} {b : Nat} {q0 q1 q2 q3 : Value} (h : Var4 W b q0 q1 q2 q3) (u : Value) : Var4 (W.setCell ⟨b, 1, none⟩ u) b q0 u q2 q3 :=
  ⟨by simpa [World.setCell] using h.lt, by rw [setd_far (.inl (by decide))]; exact h.c0, setd_same h.c1, by rw [setd_far (.inl (by decide))]; exact h.c2, by rw [setd_far (.inl (by decide))]; exact h.c3, fun j => (World.frozen?_setCell _ _ _ _).trans (h.fz j)⟩
theorem Var4.put2v {W : World} {b : Nat} {q0 q1 q2 q3 : Value} (h : Var4 W b q0 q1 q2 q3) (u : Value) : Var4 (W.setCell ⟨b, 2, none⟩ u) b q0 q1 u q3 :=
  ⟨by simpa [World.setCell] using h.lt, by rw [setd_far (.inl (by decide))]; exact h.c0, by rw [setd_far (.inl (by decide))]; exact h.c1, setd_same h.c2, by rw [setd_far (.inl (by decide))]; exact h.c3, fun j => (World.frozen?_setCell _ _ _ _).trans (h.fz j)⟩
theorem seesAt_c {x y : Bool} (D A B n : Int) (c : Value) (ts : List T2) (w : World) (hr : RdR c2 2 w c ts) (hy : askB D A B n ts = y) (hx : (y && seesB D A B n ts) = x) :
    Calls Try.prog 16 #[.agg #[.int .i64 D, .int .i64 A, .int .i64 B, c], .int .i64 n] w fun e w' => e = .returned (.tuple #[.bool x, .bool y]) ∧ Below w.heap.size w w' := by
  subst hy; subst hx; exact implSeesAt_any D A B n c ts w hr
theorem RdU.of_row {w : World} {a : Option Addr} {n cap : Nat} {zs : List Int} (h : IsRow .u8 w a n cap zs) : RdU w w.heap.size (.slice a n cap) n := by
  rcases h with ⟨rfl, rfl, rfl, rfl⟩ | ⟨x, rfl, hl, hm, hz, hc, hw⟩
  · exact ⟨by simp, .inl ⟨rfl, _, _, rfl⟩⟩
  · by_cases h0 : n = 0
    · subst h0; exact ⟨by simp, .inl ⟨rfl, _, _, rfl⟩⟩
    · obtain ⟨b, off, spot⟩ := x
      have hc0 := hc 0 (by omega)
      have hspot : spot = none := by simpa [Addr.add] using World.cell?_spot hc0
      subst hspot
      have hadd : ∀ i, (⟨b, off, none⟩ : Addr).add i = ⟨b, off + i, none⟩ := by intro i; unfold Addr.add; split <;> simp_all
      refine ⟨by omega, .inr ⟨b, off, cap, rfl, ?_, fun i hi => ?_⟩⟩
      · have := World.block_lt_of_cell? w _ hc0
        simpa [Addr.add] using this
      · have := hc i (by omega)
        rw [hadd] at this
        refine ⟨_, this, ?_⟩
        have hmem : zs.getD i 0 ∈ zs := by
          rw [List.getD_eq_getElem?_getD, List.getElem?_eq_getElem (by omega)]
          exact List.getElem_mem _
        have := hw _ hmem
        simp only [Lit.wf, Bool.and_eq_true, decide_eq_true_eq] at this
        have h1 : IntKind.u8.min = 0 := by rfl
        have h2 : IntKind.u8.max = 255 := by rfl
        rw [h1, h2] at this
        exact this
end Go.Proofs.Ytkdmjeonlghnjaa
