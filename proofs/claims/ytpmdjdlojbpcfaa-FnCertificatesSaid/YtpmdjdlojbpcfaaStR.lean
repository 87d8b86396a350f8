/- Chapter 8: what spots that are apart and counts of covers tell of least covers; equality of lists as the laws ask it. -/
import Derived.Test.YtpmdjdlojbpcfaaStV
import Derived.Test.YtpmdjdlojbpcfaaSt9
namespace Go.Proofs.Ytpmdjdlojbpcfaa
open Go.RowKit
set_option linter.unusedSimpArgs false
set_option linter.unusedVariables false

theorem dsum_cons {α β : Type} (R : α → β → Bool) (j : β) (zs : List β) : ∀ c : List α, (c.map fun i => (j :: zs).countP (R i)).sum = (c.map fun i => zs.countP (R i)).sum + c.countP (fun i => R i j)
  | [] => by simp
  | i :: c => by
    have ih := dsum_cons R j zs c
    simp only [List.map_cons, List.sum_cons, List.countP_cons] at ih ⊢
    omega
theorem dsum {α β : Type} (R : α → β → Bool) (c : List α) : ∀ zs : List β, (∀ j ∈ zs, ∃ i ∈ c, R i j = true) → zs.length ≤ (c.map fun i => zs.countP (R i)).sum
  | [], _ => by simp
  | j :: zs, h => by
    have ih := dsum R c zs fun j hj => h j (List.mem_cons_of_mem _ hj)
    obtain ⟨i, hi, hij⟩ := h j (List.mem_cons_self ..)
    have h1 : 0 < c.countP (fun i => R i j) := List.countP_pos_iff.2 ⟨i, hi, hij⟩
    rw [dsum_cons, List.length_cons]
    omega
theorem sum_one {α : Type} (f : α → Nat) : ∀ c : List α, (∀ i ∈ c, f i ≤ 1) → (c.map f).sum ≤ c.length
  | [], _ => by simp
  | i :: c, h => by
    have ih := sum_one f c fun i hi => h i (List.mem_cons_of_mem _ hi)
    have h1 := h i (List.mem_cons_self ..)
    simp only [List.map_cons, List.sum_cons, List.length_cons]
    omega
/-- Spots that are apart are no more than the sites of a cover. -/
theorem apart_le {L : List (List Int)} {n : Nat} {zs c : List Int} (hz : Ris zs 0 n) (ha : apB L zs = true) (hc : covB L n c 1 = true) : zs.length ≤ c.length := by
  refine Nat.le_trans (dsum (fun i j => hsB L i.toNat j.toNat) c zs fun j hj => ?_) (sum_one _ c fun i _ => ?_)
  · have hj' := hz.2 j hj
    have h1 := covB_iff.1 hc j.toNat (by omega)
    unfold cntS at h1
    obtain ⟨i, hi, hij⟩ := List.countP_pos_iff.1 (show 0 < _ from h1)
    exact ⟨i, hi, hij⟩
  · by_cases hi : i.toNat < L.length
    · exact apB_iff.1 ha i.toNat hi
    · rw [List.countP_eq_zero.2 fun j _ => by
        intro hb
        exact hi (hs_len hb)]
      omega
theorem lc_is {L : List (List Int)} {n : Int} (h : stB L n = true) : IsL (lcP L n.toNat 1) L.length (2 ^ L.length) (lcR L n 1) := by
  have ha : lcA L n 1 = true := by simp [lcA, h, inB]
  rw [lcR_yes ha]
  exact lcTo_is _ _ _
theorem cert_le {L : List (List Int)} {n : Int} {r c : List Int} (h : stB L n = true) (hm : IsMost L n.toNat r) (hc : lcR L n 1 = some c) : r.length ≤ c.length := by
  have hi := lc_is h
  rw [hc] at hi
  exact apart_le hm.1 hm.2.1 hi.2.1
theorem cert_cc {L : List (List Int)} {n k : Int} (h : ccA L n k = true) : 0 ≤ ccV L n k ∧ (lcR L n 1 = none → ccV L n k = 0) ∧ ∀ c, lcR L n 1 = some c → ((k < (c.length : Int) → ccV L n k = 0) ∧ (k = (c.length : Int) → 1 ≤ ccV L n k)) := by
  have hs : stB L n = true := by simp only [ccA, Bool.and_eq_true] at h; exact h.1
  have hk : 0 ≤ k := by simp only [ccA, Bool.and_eq_true, inB_iff] at h; exact h.2.1
  have hi := lc_is hs
  rw [cc_yes h]
  refine ⟨by omega, fun hn => ?_, fun c hc => ⟨fun hlt => ?_, fun heq => ?_⟩⟩
  · rw [hn] at hi
    have : ccT L n.toNat L.length k.toNat (2 ^ L.length) = 0 := by
      unfold ccT
      refine List.countP_eq_zero.2 fun s hs' => ?_
      have := hi s (List.mem_range.1 hs')
      unfold lcP at this
      simp [ccP, this]
    rw [this]; rfl
  · rw [hc] at hi
    have : ccT L n.toNat L.length k.toNat (2 ^ L.length) = 0 := by
      unfold ccT
      refine List.countP_eq_zero.2 fun s hs' hb => ?_
      simp only [ccP, Bool.and_eq_true, beq_iff_eq] at hb
      exact hi.2.2 s (List.mem_range.1 hs') hb.2 (.inl (by omega))
    rw [this]; rfl
  · rw [hc] at hi
    obtain ⟨⟨s, hs', rfl⟩, hp, -⟩ := hi
    have : 0 < ccT L n.toNat L.length k.toNat (2 ^ L.length) := by
      unfold ccT
      refine List.countP_pos_iff.2 ⟨s, List.mem_range.2 hs', ?_⟩
      unfold lcP at hp
      simp only [ccP, hp, Bool.and_true, beq_iff_eq]
      omega
    omega
theorem cert_ap {L : List (List Int)} {n : Int} {zs r : List Int} (h : aaB L n zs = true) (hm : IsMost L n.toNat r) : zs.length ≤ r.length := by
  simp only [aaB, Bool.and_eq_true] at h
  obtain ⟨⟨-, hn⟩, hz⟩ := aaA_iff.1 h.1
  rw [hn] at hz
  exact (hm.2.2 zs hz h.2).1
theorem aa_st {L : List (List Int)} {n : Int} {zs : List Int} (h : aaA L n zs = true) : stB L n = true := by
  simp only [aaA, Bool.and_eq_true] at h; exact h.1
theorem cert_most {L : List (List Int)} {n : Int} {r : List Int} (h : stB L n = true) (hm : IsMost L n.toNat r) : aaA L n r = true ∧ aaB L n r = true := by
  have ha : aaA L n r = true := aaA_iff.2 ⟨stB_iff.1 h, by rw [(stB_iff.1 h).2]; exact hm.1⟩
  exact ⟨ha, by simp [aaB, ha, hm.2.1]⟩
theorem rd_nil0 (w : World) : Rd w (.slice none 0 0) [] := .inl ⟨rfl, none, 0, rfl, fun _ => rfl⟩
/-- The list of spots that MostApart hands back is the greatest. -/
theorem isMost_maL (v : Value) {L : List (List Int)} {n : Int} (w : World) (h : stB L n = true) (hr : RdJ w v L) : IsMost L n.toNat (maL L n) := by
  obtain ⟨ok, hn⟩ := stB_iff.1 h
  obtain ⟨e, w', fr, ⟨v', d, -, ⟨h1, h2, h3⟩, -⟩, -⟩ := stMost_any v L n.toNat ok n.toNat (.slice none 0 0) [] 0 w (by omega) (Nat.zero_le _) (Ris.nil _ _) (by simp [apB]) hr ⟨rd_nil0 w, none, 0, rfl, Nat.le_refl _⟩ []
  have hm : IsMost L n.toNat d := ⟨h1, h2, h3⟩
  rw [maL_yes h hm]; exact hm
end Go.Proofs.Ytpmdjdlojbpcfaa
