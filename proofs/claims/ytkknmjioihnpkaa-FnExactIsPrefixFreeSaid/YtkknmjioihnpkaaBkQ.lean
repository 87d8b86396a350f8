/- Chapter 2: the first prefix, and whether there is none. -/
import Derived.Test.YtkknmjioihnpkaaBkP
namespace Go.Proofs.Ytkknmjioihnpkaa
open Go.RowKit
set_option linter.unusedSimpArgs false
set_option linter.unusedVariables false

/-- Phrase i begins phrase j, another one. -/
def preB (ps : List Ph) (i j : Nat) : Bool := !(i == j) && begsB (phAt ps i).sig (phAt ps j).sig
def rowPre (ps : List Ph) (i : Nat) : Bool := (List.range ps.length).any fun j => preB ps i j
def preI (ps : List Ph) : Nat := (List.range ps.length).findIdx fun i => rowPre ps i
def preJ (ps : List Ph) : Nat := (List.range ps.length).findIdx fun j => preB ps (preI ps) j
theorem range_idx {n k : Nat} {p : Nat → Bool} (hk : k < n) (h : p k = true) (hm : ∀ j, j < k → p j = false) : (List.range n).findIdx p = k := by
  rw [List.findIdx_eq (by simpa using hk)]
  refine ⟨by simpa using h, fun j hj => ?_⟩
  simpa using hm j hj
theorem rowPre_no {ps : List Ph} {i : Nat} (h : ∀ j, j < ps.length → preB ps i j = false) : rowPre ps i = false := by
  unfold rowPre
  rw [List.any_eq_false]
  intro x hx
  rw [h x (by simpa using hx)]
  simp
theorem rowPre_yes {ps : List Ph} {i j : Nat} (hj : j < ps.length) (h : preB ps i j = true) : rowPre ps i = true := by
  unfold rowPre
  rw [List.any_eq_true]
  exact ⟨j, by simpa using hj, h⟩
theorem preI_hit {ps : List Ph} {i k : Nat} (hi : i < ps.length) (hk : k < ps.length) (h : preB ps i k = true) (hr : ∀ m, m < i → rowPre ps m = false) : preI ps = i :=
  range_idx hi (rowPre_yes hk h) hr
theorem preJ_hit {ps : List Ph} {i k : Nat} (hi : i < ps.length) (hk : k < ps.length) (h : preB ps i k = true) (hr : ∀ m, m < i → rowPre ps m = false) (hm : ∀ j, j < k → preB ps i j = false) : preJ ps = k := by
  unfold preJ
  rw [preI_hit hi hk h hr]
  exact range_idx hk h hm
theorem preI_none {ps : List Ph} (hr : ∀ m, m < ps.length → rowPre ps m = false) : preI ps = ps.length := by
  unfold preI
  have := List.findIdx_eq_length (p := fun i => rowPre ps i) (xs := List.range ps.length)
  rw [this.2 (fun x hx => by simpa using hr x (by simpa using hx))]
  simp
def preIZ (ps : List Ph) : Int := if preI ps < ps.length then (preI ps : Int) else -1
def preJZ (ps : List Ph) : Int := if preI ps < ps.length then (preJ ps : Int) else -1
theorem preIZ_hit {ps : List Ph} {i k : Nat} (hi : i < ps.length) (hk : k < ps.length) (h : preB ps i k = true) (hr : ∀ m, m < i → rowPre ps m = false) : preIZ ps = i := by
  unfold preIZ; rw [preI_hit hi hk h hr, if_pos hi]
theorem preJZ_hit {ps : List Ph} {i k : Nat} (hi : i < ps.length) (hk : k < ps.length) (h : preB ps i k = true) (hr : ∀ m, m < i → rowPre ps m = false) (hm : ∀ j, j < k → preB ps i j = false) : preJZ ps = k := by
  unfold preJZ; rw [preI_hit hi hk h hr, if_pos hi, preJ_hit hi hk h hr hm]
theorem preIZ_none {ps : List Ph} (hr : ∀ m, m < ps.length → rowPre ps m = false) : preIZ ps = -1 := by
  unfold preIZ; rw [preI_none hr, if_neg (by omega)]
theorem preJZ_none {ps : List Ph} (hr : ∀ m, m < ps.length → rowPre ps m = false) : preJZ ps = -1 := by
  unfold preJZ; rw [preI_none hr, if_neg (by omega)]
theorem preB_self (ps : List Ph) (i : Nat) : preB ps i i = false := by simp [preB]
theorem preB_other {ps : List Ph} {i j : Nat} (h : i ≠ j) : preB ps i j = begsB (phAt ps i).sig (phAt ps j).sig := by simp [preB, h]
theorem book_sigs {ps : List Ph} (hb : bookB ps = true) {i j : Nat} (hi : i < ps.length) (hj : j < ps.length) (h : (phAt ps i).sig = (phAt ps j).sig) : i = j := by
  have h1 := goodAt_idx (bookB_at hb hi)
  have h2 := goodAt_idx (bookB_at hb hj)
  rw [h] at h1
  omega
/-- In a book the kind 'the first begins' is just a prefix of another phrase. -/
theorem kind_pre {ps : List Ph} (hb : bookB ps = true) {i j : Nat} (hi : i < ps.length) (hj : j < ps.length) : (kindOf (phAt ps i).sig (phAt ps j).sig == 1) = preB ps i j := by
  by_cases h : i = j
  · subst h
    rw [preB_self]
    unfold kindOf
    rw [begsB_self, if_pos rfl, if_pos rfl]
    rfl
  · rw [preB_other h]
    unfold kindOf
    cases hbg : begsB (phAt ps i).sig (phAt ps j).sig with
    | true =>
      have : ¬ (phAt ps i).sig.length = (phAt ps j).sig.length := fun e => h (book_sigs hb hi hj (begsB_eq hbg e))
      rw [if_pos rfl, if_neg this]
      rfl
    | false =>
      rw [if_neg (by simp)]
      split <;> rfl

set_option maxHeartbeats 1000000 in
theorem bkPrefix_any (v : Value) (ps : List Ph) (w : World) (hr : RdPs w v ps) :
    Calls Try.prog 55 #[.agg #[v]] w fun e w' => e = .returned (.tuple #[.int .i64 (preIZ ps), .int .i64 (preJZ ps)]) ∧ Below w.heap.size w w' := by
  have hm := hr.max
  obtain ⟨a, cap, rfl, -⟩ := hr.len
  obtain ⟨n, hn⟩ : ∃ n, n = ps.length := ⟨_, rfl⟩
  have HN := Lib.hid hn
  have HR := Lib.hid hr
  rw [← hn] at hm ⊢
  clear hn hr
  go_enter Try.func55, Try.ntmps55
  go_wp2
  go_loopw [11] (fun i wr => ∃ k : Nat, k ≤ n ∧ i = .int .i64 k ∧ Below w.heap.size w wr ∧ wr.cell? ⟨w.heap.size, 0, none⟩ = some (.slice a n cap) ∧ w.heap.size < wr.heap.size ∧ Hid (∀ m, m < k → rowPre ps m = false)) (fun i wr => n - (intOf i).toNat)
  case atStart => exact ⟨0, Nat.zero_le _, rfl, (Below.refl _ _).alloc (Nat.le_refl _) _, by simp [go_sem], by simp, Lib.hid fun j hj => by omega⟩
  case round =>
    obtain ⟨i, hi, rfl, hbl, hbc, hbs, hall⟩ := hrel
    by_cases hlt : i < n
    · obtain ⟨g, off, u, rfl, hg, hts, hc0, hc1, hru⟩ := (HR.out.below hbl (Nat.le_refl _)).at_ (by rw [← HN.out]) i (by rw [← HN.out]; exact hlt)
      obtain ⟨ua, uc, rfl⟩ := hru.rd.len
      have hruW := hru.later ((Below.refl _ wr).alloc (Nat.le_refl _) (.cells #[.string (phAt ps i).txt, .slice ua (phAt ps i).sig.length uc] 33))
      have hblW := hbl.alloc hbl.size (.cells #[.string (phAt ps i).txt, .slice ua (phAt ps i).sig.length uc] 33)
      have hb1 : (wr.alloc (.cells #[.string (phAt ps i).txt, .slice ua (phAt ps i).sig.length uc] 33)).cell? ⟨w.heap.size, 0, none⟩ = some (.slice (some ⟨g, off, none⟩) n cap) := by rw [((Below.refl _ wr).alloc (Nat.le_refl _) _).cell (p := ⟨w.heap.size, 0, none⟩) hbs]; exact hbc
      have hx1 : (wr.alloc (.cells #[.string (phAt ps i).txt, .slice ua (phAt ps i).sig.length uc] 33)).cell? ⟨wr.heap.size, 1, none⟩ = some (.slice ua (phAt ps i).sig.length uc) := by simp [go_sem]
      have hsz : wr.heap.size < (wr.alloc (.cells #[.string (phAt ps i).txt, .slice ua (phAt ps i).sig.length uc] 33)).heap.size := by simp
      have hsw : w.heap.size < (wr.alloc (.cells #[.string (phAt ps i).txt, .slice ua (phAt ps i).sig.length uc] 33)).heap.size := by simp; omega
      have HU := Lib.hid hruW
      clear hru hruW
      go_wp2
      generalize wr.alloc (.cells #[.string (phAt ps i).txt, .slice ua (phAt ps i).sig.length uc] 33) = W at *
      generalize wr.heap.size = B at *
      clear hbl hbc hc0 hc1
      go_loopw [19] (fun k wr => ∃ j : Nat, j ≤ n ∧ k = .int .i64 j ∧ Below W.heap.size W wr ∧ Hid (∀ m, m < j → preB ps i m = false)) (fun k wr => n - (intOf k).toNat)
      case atStart => exact ⟨0, Nat.zero_le _, rfl, Below.refl _ _, Lib.hid fun j hj => by omega⟩
      case round =>
        obtain ⟨j, hj, rfl, hbj, hallj⟩ := hrel
        have hblj := hblW.trans (hbj.mono hblW.size)
        by_cases hltj : j < n
        · obtain ⟨g', off', u2, hge, hg', hts', hd0, hd1, hru2⟩ := (HR.out.below hblj (Nat.le_refl _)).at_ (by rw [← HN.out]) j (by rw [← HN.out]; exact hltj)
          simp only [Option.some.injEq, Addr.mk.injEq, and_true] at hge
          obtain ⟨rfl, rfl⟩ := hge
          obtain ⟨ua2, uc2, rfl⟩ := hru2.rd.len
          have x1 := hx1 ▸ hbj.cell (p := ⟨B, 1, none⟩) hsz
          have hba := fun o => (Below.refl wr.heap.size wr).alloc (Nat.le_refl _) o
          have x2 : ∀ o, (wr.alloc o).cell? ⟨B, 1, none⟩ = some (.slice ua (phAt ps i).sig.length uc) := fun o => by rw [(hba o).cell (p := ⟨B, 1, none⟩) (Nat.lt_of_lt_of_le hsz hbj.size)]; exact x1
          have hbja := fun o => hbj.alloc hbj.size o
          by_cases hij : i = j
          · subst hij
            have hallj' : Hid (∀ m, m < i + 1 → preB ps i m = false) := Lib.hid fun m hm => by
              by_cases e : m = i
              · subst e; exact preB_self _ _
              · exact hallj.out m (by omega)
            go_wp2
            go_roundw
            case rel => exact ⟨i + 1, by omega, by go_num, hbja _, hallj'⟩
            case measure => simp [intOf]; omega
          · have hnej : ((i : Int) != (j : Int)) = true := by rw [bne_iff_ne]; omega
            have hu1 := fun o => (HU.out.later hbj).later (hba o)
            have hu2 := fun o => hru2.later (hba o)
            cases hpb : begsB (phAt ps i).sig (phAt ps j).sig with
            | true =>
              have hp : preB ps i j = true := by rw [preB_other hij]; exact hpb
              have hI : Hid (preIZ ps = i) := Lib.hid (preIZ_hit (by rw [← HN.out]; exact hlt) (by rw [← HN.out]; exact hltj) hp hall.out)
              have hJ : Hid (preJZ ps = j) := Lib.hid (preJZ_hit (by rw [← HN.out]; exact hlt) (by rw [← HN.out]; exact hltj) hp hall.out hallj.out)
              clear hij
              go_wp2_with (go_at_call 84; refine (bkBegins_any _ _ (phAt ps i).sig (phAt ps j).sig _ (hu1 _) (hu2 _)).mono ?_; rintro e w1 ⟨rfl, n1, rfl⟩)
              go_ret2
              exact ⟨by rw [hI.out, hJ.out]; rfl, hblW.trans ((below_drewN (hbja _) n1).mono hblW.size)⟩
            | false =>
              have hallj' : Hid (∀ m, m < j + 1 → preB ps i m = false) := Lib.hid fun m hm => by
                by_cases e : m = j
                · subst e; rw [preB_other hij]; exact hpb
                · exact hallj.out m (by omega)
              clear hij
              go_wp2_with (go_at_call 84; refine (bkBegins_any _ _ (phAt ps i).sig (phAt ps j).sig _ (hu1 _) (hu2 _)).mono ?_; rintro e w1 ⟨rfl, n1, rfl⟩)
              go_roundw
              case rel => exact ⟨j + 1, by omega, by go_num, below_drewN (hbja _) n1, hallj'⟩
              case measure => simp [intOf]; omega
        · have hb2 := hb1 ▸ hbj.cell (p := ⟨w.heap.size, 0, none⟩) hsw
          have hs2 := Nat.lt_of_lt_of_le hsw hbj.size
          have hall' : Hid (∀ m, m < i + 1 → rowPre ps m = false) := Lib.hid fun m hm => by
            by_cases e : m = i
            · subst e; exact rowPre_no fun q hq => hallj.out q (by rw [← HN.out] at hq; omega)
            · exact hall.out m (by omega)
          go_wp2
          go_roundw
          case rel => exact ⟨i + 1, by omega, by go_num, hblj, hb2, hs2, hall'⟩
          case measure => simp [intOf]; omega
    · have hI : Hid (preIZ ps = -1) := Lib.hid (preIZ_none fun m hm => hall.out m (by rw [← HN.out] at hm; omega))
      have hJ : Hid (preJZ ps = -1) := Lib.hid (preJZ_none fun m hm => hall.out m (by rw [← HN.out] at hm; omega))
      go_wp2
      go_ret2
      exact ⟨by rw [hI.out, hJ.out]; rfl, hbl⟩
end Go.Proofs.Ytkknmjioihnpkaa
