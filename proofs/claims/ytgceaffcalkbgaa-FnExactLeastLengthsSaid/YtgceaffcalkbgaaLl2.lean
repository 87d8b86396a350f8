/- Chapter 4: the model's table of least costs: what is known stays right. -/
import Derived.Test.YtgceaffcalkbgaaLl1
import Derived.Deep.RegionHeld3
import Derived.IntWalk
namespace Go.Proofs.Ytgceaffcalkbgaa
open Go.RowKit
set_option linter.unusedSimpArgs false
set_option linter.unusedVariables false

theorem l1Least_any (a b : Int) (w : World) : Calls Try.prog 95 #[.int .i64 a, .int .i64 b] w fun e w' => e = .returned (.int .i64 (min a b)) ∧ w = w' := by
  by_cases h : a < b
  · go_enter Try.func95, Try.ntmps95
    go_wp2
    go_ret
    exact ⟨ret_int (by omega), rfl⟩
  · have h : b ≤ a := by omega
    go_enter Try.func95, Try.ntmps95
    go_wp2
    go_ret
    exact ⟨ret_int (by omega), rfl⟩

/-- Where the table lies. -/
structure TbA where
  gr : Nat
  gk : Nat
  ck : Nat
  L : Nat → Nat
  cl : Nat → Nat
  G : Nat → Nat → Nat
  cG : Nat → Nat → Nat
/-- What of the table does not change. -/
structure TbS (w : World) (t : Nat) (S : List Int) (R lim B C : Nat) (A : TbA) : Prop where
  c0 : w.cell? ⟨t, 0, none⟩ = some (.slice (some ⟨A.gr, 0, none⟩) (S.length + 1) (S.length + 1))
  c1 : w.cell? ⟨t, 1, none⟩ = some (.int .i64 (R : Int))
  c2 : w.cell? ⟨t, 2, none⟩ = some (.int .i64 (lim : Int))
  c3 : w.cell? ⟨t, 3, none⟩ = some (.slice (some ⟨A.gk, 0, none⟩) (lim + 1) A.ck)
  rs : ∀ i, i ≤ S.length → w.cell? ⟨A.gr, i, none⟩ = some (.int .i64 (rest S i))
  kn : ∀ l, l ≤ lim → w.cell? ⟨A.gk, l, none⟩ = some (.slice (some ⟨A.L l, 0, none⟩) (S.length + 1) (A.cl l))
  lv : ∀ l i, l ≤ lim → i ≤ S.length → w.cell? ⟨A.L l, i, none⟩ = some (.slice (some ⟨A.G l i, 0, none⟩) (S.length + 1) (A.cG l i))
  inj : ∀ l i l' i', l ≤ lim → i ≤ S.length → l' ≤ lim → i' ≤ S.length → A.G l i = A.G l' i' → l = l' ∧ i = i'
  ne : ∀ l i, l ≤ lim → i ≤ S.length → A.G l i ≠ t ∧ A.G l i ≠ A.gr ∧ A.G l i ≠ A.gk ∧ ∀ l', l' ≤ lim → A.G l i ≠ A.L l'
  low : ∀ l i, l ≤ lim → i ≤ S.length → B ≤ A.G l i ∧ A.G l i < C
  bd : t < C ∧ A.gr < C ∧ A.gk < C ∧ ∀ l, l ≤ lim → A.L l < C
/-- What is known. -/
def TbK (w : World) (S : List Int) (R lim : Nat) (A : TbA) : Prop :=
  ∀ l i f, l ≤ lim → i ≤ S.length → f ≤ S.length → ∃ v : Int, w.cell? ⟨A.G l i, f, none⟩ = some (.int .i64 v) ∧ w.frozen? ⟨A.G l i, f, none⟩ = false ∧ (v = 0 ∨ v = cC S R (lim + 1 - l) i f + 1)
def Tb (w : World) (t : Nat) (S : List Int) (R lim B C : Nat) (A : TbA) : Prop := TbS w t S R lim B C A ∧ TbK w S R lim A
theorem Tb.set {w : World} {t : Nat} {S : List Int} {R lim B C : Nat} {A : TbA} (h : Tb w t S R lim B C A) {l i f : Nat} (hl : l ≤ lim) (hi : i ≤ S.length) (hf : f ≤ S.length) :
    Tb (w.setCell ⟨A.G l i, f, none⟩ (.int .i64 (cC S R (lim + 1 - l) i f + 1))) t S R lim B C A := by
  obtain ⟨s, k⟩ := h
  obtain ⟨n1, n2, n3, n4⟩ := s.ne l i hl hi
  refine ⟨⟨by rw [setc_far n1]; exact s.c0, by rw [setc_far n1]; exact s.c1, by rw [setc_far n1]; exact s.c2, by rw [setc_far n1]; exact s.c3, fun j hj => by rw [setc_far n2]; exact s.rs j hj,
    fun l' hl' => by rw [setc_far n3]; exact s.kn l' hl', fun l' i' hl' hi' => by rw [setc_far (n4 l' hl')]; exact s.lv l' i' hl' hi', s.inj, s.ne, s.low, s.bd⟩, ?_⟩
  intro l' i' f' hl' hi' hf'
  obtain ⟨v, h1, h2, h3⟩ := k l' i' f' hl' hi' hf'
  by_cases e : A.G l i = A.G l' i'
  · obtain ⟨rfl, rfl⟩ := s.inj l i l' i' hl hi hl' hi' e
    by_cases ef : f = f'
    · subst ef
      exact ⟨_, setc_same h1, by rw [World.frozen?_setCell]; exact h2, .inr rfl⟩
    · exact ⟨v, by rw [World.cell?_setCell_other (h := fun he => ef (by injection he))]; exact h1, by rw [World.frozen?_setCell]; exact h2, h3⟩
  · exact ⟨v, by rw [setc_far e]; exact h1, by rw [World.frozen?_setCell]; exact h2, h3⟩
theorem Tb.later {w w' : World} {t : Nat} {S : List Int} {R lim B C : Nat} {A : TbA} (h : Tb w t S R lim B C A) (hb : Below w.heap.size w w') : Tb w' t S R lim B C A := by
  obtain ⟨s, k⟩ := h
  have hh : ∀ (p : Addr) (v : Value), w.cell? p = some v → w'.cell? p = some v := fun p v hp => by rw [hb.cell (p := p) (World.block_lt_of_cell? w _ hp)]; exact hp
  refine ⟨⟨hh _ _ s.c0, hh _ _ s.c1, hh _ _ s.c2, hh _ _ s.c3, fun j hj => hh _ _ (s.rs j hj), fun l hl => hh _ _ (s.kn l hl), fun l i hl hi => hh _ _ (s.lv l i hl hi), s.inj, s.ne, s.low, s.bd⟩, ?_⟩
  intro l i f hl hi hf
  obtain ⟨v, h1, h2, h3⟩ := k l i f hl hi hf
  exact ⟨v, hh _ _ h1, by rw [hb.frozen (p := ⟨A.G l i, f, none⟩) (World.block_lt_of_cell? w _ h1)]; exact h2, h3⟩
theorem Tb.kp {w w' : World} {t : Nat} {S : List Int} {R lim B C B' C' : Nat} {A : TbA} (h : Tb w t S R lim B C A) (hb : Kp B' C' w w') (hC : C ≤ B') : Tb w' t S R lim B C A := by
  obtain ⟨s, k⟩ := h
  obtain ⟨b1, b2, b3, b4⟩ := s.bd
  have hh : ∀ (x i : Nat) (v : Value), x < C → w.cell? ⟨x, i, none⟩ = some v → w'.cell? ⟨x, i, none⟩ = some v := fun x i v hx hp => by
    rw [World.cell?_of_block (hb.block x (World.block_lt_of_cell? w _ hp) (by omega))]; exact hp
  refine ⟨⟨hh _ _ _ b1 s.c0, hh _ _ _ b1 s.c1, hh _ _ _ b1 s.c2, hh _ _ _ b1 s.c3, fun j hj => hh _ _ _ b2 (s.rs j hj), fun l hl => hh _ _ _ b3 (s.kn l hl), fun l i hl hi => hh _ _ _ (b4 l hl) (s.lv l i hl hi), s.inj, s.ne, s.low, s.bd⟩, ?_⟩
  intro l i f hl hi hf
  obtain ⟨v, h1, h2, h3⟩ := k l i f hl hi hf
  have hG := (s.low l i hl hi).2
  exact ⟨v, hh _ _ _ hG h1, by rw [World.frozen?_of_block (hb.block _ (World.block_lt_of_cell? w _ h1) (by show A.G l i < B' ∨ _; omega))]; exact h2, h3⟩
theorem Kp.setCell {B C : Nat} {w w' : World} (h : Kp B C w w') {p : Addr} (hp : B ≤ p.block ∧ p.block < C) (v : Value) : Kp B C w (w'.setCell p v) :=
  h.trans ⟨rfl, rfl, rfl, by simp, fun k hk hx => Below.heap_setCell _ _ _ _ (by omega)⟩

/-- What a call of cost does. -/
def CostOk (S : List Int) (R lim B C : Nat) (A : TbA) (t h : Nat) : Prop := ∀ (d f : Nat) (w : World), d ≤ S.length → f ≤ 2000 → Tb w t S R lim B C A →
  Calls Try.prog 96 #[.pointer (some ⟨t, 0, none⟩), .int .i64 ((lim + 1 - h : Nat) : Int), .int .i64 (d : Int), .int .i64 (f : Int)] w fun e w' =>
    e = .returned (.int .i64 (cC S R h d f)) ∧ Tb w' t S R lim B C A ∧ Kp B C w w'
def WithOk (S : List Int) (R lim B C : Nat) (A : TbA) (t h : Nat) : Prop := ∀ (d f k : Nat) (w : World), d < S.length → k ≤ f → d + k ≤ S.length → f ≤ S.length → Tb w t S R lim B C A →
  Calls Try.prog 97 #[.pointer (some ⟨t, 0, none⟩), .int .i64 ((lim - h : Nat) : Int), .int .i64 (d : Int), .int .i64 (f : Int), .int .i64 (k : Int)] w fun e w' =>
    e = .returned (.int .i64 (wC S R h d f k)) ∧ Tb w' t S R lim B C A ∧ Kp B C w w'

set_option maxRecDepth 100000 in
set_option maxHeartbeats 2000000 in
theorem with_any {S : List Int} {R lim B C t h : Nat} {A : TbA} (hS : SmW S) (hR : R ≤ 60) (hlim : lim ≤ 6) (hh : h + 1 ≤ lim) (hc : CostOk S R lim B C A t h) : WithOk S R lim B C A t h := by
  intro d f k w hd hkf hdk hfn hT
  have h20 := hS.1
  have hcb := cC_le (R := R) hS (show h ≤ 6 by omega) (d + k) ((f - k) * R) hdk
  have hrl := rest_le hS d
  have hfR : (f - k) * R ≤ 2000 := by
    have := Nat.mul_le_mul (show f - k ≤ 20 by omega) hR
    omega
  have hI : ((f : Int) - (k : Int)) * (R : Int) = (((f - k) * R : Nat) : Int) := by
    rw [Int.natCast_mul, Int.natCast_sub hkf]
  have hTd : Tb w.drew t S R lim B C A := hT.later (Below.refl _ _).drew
  obtain ⟨l0, hl0⟩ : ∃ x : Int, x = ((lim - h : Nat) : Int) := ⟨_, rfl⟩
  obtain ⟨l1, hl1⟩ : ∃ x : Int, x = ((lim + 1 - h : Nat) : Int) := ⟨_, rfl⟩
  obtain ⟨dk, hdk'⟩ : ∃ x : Int, x = ((d + k : Nat) : Int) := ⟨_, rfl⟩
  obtain ⟨fk, hfk⟩ : ∃ x : Int, x = ((f - k : Nat) : Int) := ⟨_, rfl⟩
  obtain ⟨fr, hfr⟩ : ∃ x : Int, x = (((f - k) * R : Nat) : Int) := ⟨_, rfl⟩
  obtain ⟨rs, hrs⟩ : ∃ x, x = rest S d := ⟨_, rfl⟩
  obtain ⟨cc, hcc⟩ : ∃ x, x = cC S R h (d + k) ((f - k) * R) := ⟨_, rfl⟩
  obtain ⟨sm, hsm⟩ : ∃ x, x = rs + cc := ⟨_, rfl⟩
  obtain ⟨n, hn⟩ : ∃ n, n = S.length := ⟨_, rfl⟩
  have HCALL : Hid (Calls Try.prog 96 #[.pointer (some ⟨t, 0, none⟩), .int .i64 l1, .int .i64 dk, .int .i64 fr] w.drew fun e w' => e = .returned (.int .i64 cc) ∧ Tb w' t S R lim B C A ∧ Kp B C w.drew w') := Lib.hid (by
    have := hc (d + k) ((f - k) * R) w.drew hdk hfR hTd
    rw [← hl1, ← hdk', ← hfr, ← hcc] at this
    exact this)
  have HW : Hid (wC S R h d f k = min never sm) := Lib.hid (by rw [hsm, hrs, hcc]; rfl)
  have HF : Hid (∀ W, Tb W t S R lim B C A → W.cell? ⟨t, 0, none⟩ = some (.slice (some ⟨A.gr, 0, none⟩) (n + 1) (n + 1)) ∧ W.cell? ⟨t, 1, none⟩ = some (.int .i64 (R : Int)) ∧ W.cell? ⟨A.gr, d, none⟩ = some (.int .i64 rs)) :=
    Lib.hid fun W hW => ⟨hn ▸ hW.1.c0, hW.1.c1, hrs ▸ hW.1.rs d (by omega)⟩
  obtain ⟨f0, f1, f2⟩ := HF.out _ hTd
  have hdn : (d : Int) < (n : Int) + 1 := by omega
  have hd0 : (0 : Int) ≤ (d : Int) := by omega
  have hdn1 : (d : Int) < ((n + 1 : Nat) : Int) := by omega
  have hdN : d < n + 1 := by omega
  have hn20 : n ≤ 20 := by omega
  have w1' : IntKind.i64.wrap (l0 + 1) = l1 := by rw [IntWalk.i64_in _ (by omega)]; omega
  have w2' : IntKind.i64.wrap ((d : Int) + (k : Int)) = dk := by rw [IntWalk.i64_in _ (by omega)]; omega
  have w3' : IntKind.i64.wrap ((f : Int) - (k : Int)) = fk := by rw [IntWalk.i64_in _ (by omega)]; omega
  have w4' : IntKind.i64.wrap (fk * (R : Int)) = fr := by
    rw [← Int.natCast_sub hkf] at hI
    rw [hfk, hI, ← hfr, IntWalk.i64_in _ (by omega)]
  have w5' : IntKind.i64.wrap (rs + cc) = sm := by unfold never at hcb; rw [IntWalk.i64_in _ (by omega)]; omega
  have hkd : Kp B C w w.drew := Kp.of_below (Below.refl _ _).drew
  rw [← hl0]
  clear hcc hrs hI hc hn hl0 hl1 hdk' hfk hfr hsm hT hcb hrl hfR hkf hdk hfn hh hlim hR h20
  go_enter Try.func97, Try.ntmps97
  go_wp2
  go_region_held3 (fun w' => w'.cell? ⟨t, 0, none⟩ = some (.slice (some ⟨A.gr, 0, none⟩) (n + 1) (n + 1)) ∧ w'.cell? ⟨t, 1, none⟩ = some (.int .i64 (R : Int)) ∧ w'.cell? ⟨A.gr, d, none⟩ = some (.int .i64 rs))
    (first | go_keep | exact HF.out _ hT1)
    (first | (go_at_call 96; refine HCALL.out.mono ?_; rintro e w1 ⟨rfl, hT1, hk1⟩) | (go_at_call 95; refine (l1Least_any _ _ _).mono ?_; rintro e w2 ⟨rfl, rfl⟩))
  go_wp2
  go_ret
  exact ⟨by rw [HW.out]; rfl, hT1, hkd.trans hk1⟩
end Go.Proofs.Ytgceaffcalkbgaa
