/- Texts: ReadSignals of the program; that both sides read the same. -/
import Derived.Test.YtkmdionldaejjaaDoorTx8
namespace Go.Proofs.YtkmdionldaejjaaDoor
open Go.RowKit
set_option linter.unusedSimpArgs false
set_option linter.unusedVariables false

theorem rn_of_rd {l : List UInt8} (h0 : 0 ≤ rd6 l) : rnO l = some (rd6 l) := by
  obtain ⟨hd, hb⟩ := dec_of_rd6 h0
  obtain ⟨n, hn⟩ : ∃ n : Nat, rd6 l = (n : Int) := ⟨(rd6 l).toNat, by omega⟩
  rw [hn] at hd hb ⊢
  have hd' : dec n = l := by simpa using hd
  have ha : Lib.atoiAll l = .ok (n : Int) := by rw [← hd']; exact atoi_dec (by omega)
  rw [rnO_ok ha, if_pos (by rw [itoa_nat, hd'])]
theorem rd_of_rn {l : List UInt8} {n : Int} (h : rnO l = some n) (h0 : 0 ≤ n) (h1 : n < 1000000) : rd6 l = n := by
  cases ha : Lib.atoiAll l with
  | «syntax» => rw [rnO_syn ha] at h; cases h
  | range => rw [rnO_rng ha] at h; cases h
  | ok m =>
    rw [rnO_ok ha] at h
    by_cases hi : Lib.itoa m = l
    · rw [if_pos hi] at h
      simp only [Option.some.injEq] at h
      subst h
      obtain ⟨k, rfl⟩ : ∃ k : Nat, m = (k : Int) := ⟨m.toNat, by omega⟩
      rw [itoa_nat] at hi
      rw [← hi]
      exact rd6_dec (by omega)
    · rw [if_neg hi] at h; cases h
theorem lsB_nil : lsB [] = true := rfl
theorem lsB_of {zs : List Int} (hl : zs.length ≤ 100) (h : ∀ i, i < zs.length → 0 ≤ zs[i]?.getD 0 ∧ zs[i]?.getD 0 ≤ 63) : lsB zs = true := by
  simp only [lsB, Bool.and_eq_true, decide_eq_true_eq]
  exact ⟨hl, allIn_true _ _ _ fun k hk => by have := h k hk; exact inB_yes this.1 this.2⟩
theorem same_yes {s : ByteArray} (hz : ¬ s.size = 0) (h : lsB (rsV s) = true) : rnsB 100 32 s = true ∧ rnsV 32 s = rsV s := by
  have hl := lsB_len h
  rw [rsV_len] at hl
  have hw : ∀ x ∈ wdB 32 s, rnO x.data.toList = some (rd6 x.data.toList) := fun x hx => by
    obtain ⟨i, hi, rfl⟩ := List.getElem_of_mem hx
    have hv := rsV_at (s := s) (k := i) (List.getElem?_eq_getElem hi)
    have hg := lsB_get h i (by rw [rsV_len]; exact hi)
    rw [hv] at hg
    exact rn_of_rd hg.1
  refine ⟨?_, ?_⟩
  · have hg : rnsG 32 s = true := by
      unfold rnsG
      rw [List.all_eq_true]
      intro x hx
      rw [hw x hx]; rfl
    simp [rnsB, hg, hl]
  · unfold rnsV rsV
    apply List.map_congr_left
    intro x hx
    rw [hw x hx]; rfl
theorem same_no {s : ByteArray} (hz : ¬ s.size = 0) (hb : rnsB 100 32 s = true) (h : lsB (rnsV 32 s) = true) : lsB (rsV s) = true := by
  have e : rsV s = rnsV 32 s := by
    simp only [rnsB, hz, decide_false, Bool.false_or, Bool.and_eq_true, decide_eq_true_eq] at hb
    obtain ⟨-, hg⟩ := hb
    unfold rnsG at hg
    rw [List.all_eq_true] at hg
    unfold rsV rnsV
    apply List.map_congr_left
    intro x hx
    have h1 := hg x hx
    obtain ⟨i, hi, hxe⟩ := List.getElem_of_mem hx
    have hv := rnsV_at (b := 32) (s := s) (k := i) (List.getElem?_eq_getElem hi)
    have hgt := lsB_get h i (by rw [rnsV_len]; exact hi)
    rw [hv, hxe] at hgt
    cases ho : rnO x.data.toList with
    | none => rw [ho] at h1; cases h1
    | some n =>
      rw [ho] at hgt
      simp only [Option.getD_some] at hgt ⊢
      exact rd_of_rn ho hgt.1 (by omega)
  rw [e]; exact h

theorem specReadSignals_any (s : ByteArray) (w : World) (hs : s.size ≤ 1073741824) :
    Calls Tryd.prog 11 #[.string s] w fun e w' => ∃ v, e = .returned (.tuple #[v, .bool (rsB s)]) ∧ OwnI w' w.heap.size w'.heap.size v (rsL s) ∧ Below w.heap.size w w' := by
  go_enter Tryd.func11, Tryd.ntmps11
  go_wp2_with fail
  refine (sgParse_any s w hs).mono ?_
  rintro e w1 ⟨v, rfl, ho, hb⟩
  go_wp2
  go_ret2
  exact ⟨_, rfl, ho, hb⟩
set_option maxRecDepth 100000 in
theorem implReadSignals_any (s : ByteArray) (w : World) (hs : s.size ≤ 1073741824) (hT : TxW w) :
    Calls Tryd.prog 12 #[.string s] w fun e w' => ∃ v, e = .returned (.tuple #[v, .bool (rsB s)]) ∧ OwnI w' w.heap.size w'.heap.size v (rsL s) ∧ Below w.heap.size w w' := by
  have hrn := readNumbers_any s 32 100 w hs (by decide) hT
  have e100 : ((100 : Nat) : Int) = 100 := rfl
  rw [e100] at hrn
  have HRN := Lib.hid hrn
  clear hrn e100 hT
  cases hb : rnsB 100 32 s with
  | false =>
    have hf : Hid (rsB s = false ∧ rsL s = []) := Lib.hid (by
      have hz : ¬ s.size = 0 := fun h => by simp [rnsB, h] at hb
      have hl : lsB (rsV s) = false := by
        cases h : lsB (rsV s) with
        | false => rfl
        | true => have := (same_yes hz h).1; rw [hb] at this; cases this
      exact ⟨by simp [rsB, hz, hl], by simp [rsL, hz, hl]⟩)
    go_enter Tryd.func12, Tryd.ntmps12
    go_wp2_with fail
    refine HRN.out.mono ?_
    rintro e w1 ⟨v, rfl, ho, hb1⟩
    rw [hb]
    go_wp2
    go_ret2
    exact ⟨_, by rw [hf.out.1]; rfl, by rw [hf.out.2]; exact (Own.nil _ _).iv, hb1⟩
  | true =>
    cases hl : lsB (rnsL 100 32 s) with
    | false =>
      have hf : Hid (rsB s = false ∧ rsL s = []) := Lib.hid (by
        have hz : ¬ s.size = 0 := fun h => by
          have : rnsL 100 32 s = [] := by simp [rnsL, h]
          rw [this, lsB_nil] at hl; cases hl
        have hL : rnsL 100 32 s = rnsV 32 s := by simp [rnsL, hz, hb]
        have hl2 : lsB (rsV s) = false := by
          cases h : lsB (rsV s) with
          | false => rfl
          | true => rw [hL, (same_yes hz h).2, h] at hl; cases hl
        exact ⟨by simp [rsB, hz, hl2], by simp [rsL, hz, hl2]⟩)
      go_enter Tryd.func12, Tryd.ntmps12
      go_wp2_with fail
      refine HRN.out.mono ?_
      rintro e w1 ⟨v, rfl, ho, hb1⟩
      rw [hb]
      obtain ⟨av, cv, hv⟩ := ho.rd.len
      subst hv
      have hr := Lib.hid ho.rd
      go_wp2_with (go_at_call 26; refine (areSignals_any _ (rnsL 100 32 s) _ hr.out).mono ?_; rintro e w' ⟨rfl, rfl⟩)
      go_ret2
      exact ⟨_, by rw [hf.out.1]; rfl, by rw [hf.out.2]; exact (Own.nil _ _).iv, hb1⟩
    | true =>
      have hf : Hid (rsB s = true ∧ rsL s = rnsL 100 32 s) := Lib.hid (by
        by_cases hz : s.size = 0
        · exact ⟨by simp [rsB, hz], by simp [rsL, rnsL, hz]⟩
        · have hL : rnsL 100 32 s = rnsV 32 s := by simp [rnsL, hz, hb]
          rw [hL] at hl
          have h := same_no hz hb hl
          exact ⟨by simp [rsB, h], by rw [hL, (same_yes hz h).2]; simp [rsL, hz, h]⟩)
      go_enter Tryd.func12, Tryd.ntmps12
      go_wp2_with fail
      refine HRN.out.mono ?_
      rintro e w1 ⟨v, rfl, ho, hb1⟩
      rw [hb]
      obtain ⟨av, cv, hv⟩ := ho.rd.len
      subst hv
      have hr := Lib.hid ho.rd
      go_wp2_with (go_at_call 26; refine (areSignals_any _ (rnsL 100 32 s) _ hr.out).mono ?_; rintro e w' ⟨rfl, rfl⟩)
      go_ret2
      exact ⟨_, by rw [hf.out.1]; rfl, by rw [hf.out.2]; exact ho, hb1⟩
end Go.Proofs.YtkmdionldaejjaaDoor
