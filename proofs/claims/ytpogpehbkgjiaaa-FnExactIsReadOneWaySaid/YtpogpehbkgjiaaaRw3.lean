/- Chapter 2: read in one way, by the program. -/
import Derived.Test.YtpogpehbkgjiaaaRw2
import Derived.Deep.RegionHeld3
namespace Go.Proofs.Ytpogpehbkgjiaaa
open Go.RowKit
set_option linter.unusedSimpArgs false
set_option linter.unusedVariables false

theorem whichLow_is (w0 : World) (v1 v2 : Value) (xs ys r : List Int) (k : Int) (w : World) (hk : kindOf xs ys = k) (hre : restOf xs ys = r) (hbw : Below w0.heap.size w0 w) (h1 : RdC w0 v1 xs) (h2 : RdC w0 v2 ys) :
    Calls Try.prog 96 #[v1, v2] w fun e w' => ∃ a m c, e = .returned (.tuple #[.int .i64 k, .slice a m c]) ∧ Hid (RdC w0 (.slice a m c) r) ∧ Below w.heap.size w w' := by
  refine (whichLow_any w0 v1 v2 xs ys w hbw h1 h2).mono ?_
  rintro e w' ⟨v, rfl, h3, n, rfl⟩
  rw [hre] at h3
  obtain ⟨-, a, c, rfl, -⟩ := id h3
  exact ⟨a, _, c, by rw [hk], h3, below_drewN (Below.refl _ _) n⟩

structure Nt (ps : List Ph) (L : List (List Int)) : Prop where
  good : Good ps L
  ne : ∀ r ∈ L, r ≠ []
theorem Nt.put {ps : List Ph} {L : List (List Int)} {r : List Int} (h : Nt ps L) (h1 : Rch ps r) (h2 : Suf ps r) (h3 : r ≠ []) : Nt ps (putL L r) :=
  ⟨h.good.put h1 h2, fun x hx => (mem_putL.1 hx).elim (h.ne x) fun e => e ▸ h3⟩
theorem kind1 {a b : List Int} (h : kindOf a b = 1) : begsB a b = true ∧ a.length < b.length ∧ restOf a b = b.drop a.length := by
  unfold kindOf at h
  cases hb : begsB a b with
  | true =>
    rw [hb, if_pos rfl] at h
    have hl := begs_len hb
    refine ⟨rfl, ?_, by simp [restOf, hb]⟩
    split at h
    · cases h
    · omega
  | false => rw [hb, if_neg (by simp)] at h; split at h <;> cases h
theorem kind2 {a b : List Int} (h : kindOf a b = 2) : begsB a b = false ∧ begsB b a = true ∧ b.length < a.length ∧ restOf a b = a.drop b.length := by
  unfold kindOf at h
  cases hb : begsB a b with
  | true => rw [hb, if_pos rfl] at h; split at h <;> cases h
  | false =>
    rw [hb, if_neg (by simp)] at h
    cases hc : begsB b a with
    | true =>
      have hl := begs_len hc
      refine ⟨rfl, rfl, ?_, by simp [restOf, hb, hc]⟩
      rcases Nat.lt_or_ge b.length a.length with h' | h'
      · exact h'
      · have e := begsB_eq hc (by omega)
        rw [e, begsB_self] at hb; cases hb
    | false => rw [hc] at h; cases h
theorem kind3 {a b : List Int} (h : kindOf a b = 3) : begsB a b = true ∧ a.length = b.length := by
  unfold kindOf at h
  cases hb : begsB a b with
  | true =>
    rw [hb, if_pos rfl] at h
    split at h
    · next e => exact ⟨rfl, e⟩
    · cases h
  | false => rw [hb, if_neg (by simp)] at h; split at h <;> cases h
theorem kind0 {a b : List Int} (h : kindOf a b = 0) : begsB a b = false ∧ begsB b a = false := by
  unfold kindOf at h
  cases hb : begsB a b with
  | true => rw [hb, if_pos rfl] at h; split at h <;> cases h
  | false =>
    rw [hb, if_neg (by simp)] at h
    cases hc : begsB b a with
    | true => rw [hc, if_pos rfl] at h; cases h
    | false => exact ⟨rfl, rfl⟩
theorem drop_ne {a : List Int} {k : Nat} (h : k < a.length) : a.drop k ≠ [] := by
  intro e
  have := congrArg List.length e
  rw [List.length_drop] at this
  simp at this
  omega
theorem kind_in (a b : List Int) : kindOf a b = 0 ∨ kindOf a b = 1 ∨ kindOf a b = 2 ∨ kindOf a b = 3 := by
  unfold kindOf
  split
  · split <;> simp
  · split <;> simp

/-- The parts of a phrase, where they lie. -/
theorem RdPs.old {w w' : World} {n cap : Nat} {a : Option Addr} {ps : List Ph} (h : RdPs w (.slice a n cap) ps) (hn : n = ps.length) (i : Nat) (hi : i < n) (hb : Below w.heap.size w w') :
    ∃ g off ua uc, a = some ⟨g, off, none⟩ ∧ (phAt ps i).txt.size ≤ maxLen ∧ w'.cell? ⟨g, off + i * 2, none⟩ = some (.string (phAt ps i).txt) ∧ w'.cell? ⟨g, off + i * 2 + 1, none⟩ = some (.slice ua (phAt ps i).sig.length uc) ∧ RdC w (.slice ua (phAt ps i).sig.length uc) (phAt ps i).sig := by
  obtain ⟨g, off, u, rfl, hg, hts, hd0, hd1, hru⟩ := h.at_ hn i hi
  obtain ⟨ua, uc, rfl⟩ := hru.rd.len
  exact ⟨g, off, ua, uc, rfl, hts, by rw [hb.cell (p := ⟨g, off + i * 2, none⟩) hg]; exact hd0, by rw [hb.cell (p := ⟨g, off + i * 2 + 1, none⟩) hg]; exact hd1, hru⟩
end Go.Proofs.Ytpogpehbkgjiaaa
