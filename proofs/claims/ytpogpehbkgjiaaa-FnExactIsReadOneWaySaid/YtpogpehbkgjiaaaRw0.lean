/- Chapter 2: read in one way: the rests that can stick out. -/
import Derived.Test.YtpogpehbkgjiaaaBkQ
namespace Go.Proofs.Ytpogpehbkgjiaaa
open Go.RowKit
set_option linter.unusedSimpArgs false
set_option linter.unusedVariables false

def sg (ps : List Ph) (i : Nat) : List Int := (phAt ps i).sig
def ClosedR (ps : List Ph) (S : List Int → Prop) : Prop :=
  (∀ i j, i < ps.length → j < ps.length → preB ps i j = true → S ((sg ps j).drop (sg ps i).length)) ∧
  ∀ a j, S a → j < ps.length → (begsB a (sg ps j) = true → S ((sg ps j).drop a.length)) ∧ (begsB (sg ps j) a = true → S (a.drop (sg ps j).length))
/-- A rest that can stick out. -/
def Rch (ps : List Ph) (r : List Int) : Prop := ∀ S, ClosedR ps S → S r
theorem rch_closed (ps : List Ph) : ClosedR ps (Rch ps) :=
  ⟨fun i j hi hj h S hS => hS.1 i j hi hj h, fun a j ha hj => ⟨fun h S hS => (hS.2 a j (ha S hS) hj).1 h, fun h S hS => (hS.2 a j (ha S hS) hj).2 h⟩⟩
noncomputable def oneB (ps : List Ph) : Bool := @decide (¬ Rch ps []) (Classical.propDecidable _)
theorem oneB_no {ps : List Ph} (h : Rch ps []) : oneB ps = false := by simp [oneB, h]
theorem oneB_yes {ps : List Ph} {S : List Int → Prop} (hS : ClosedR ps S) (h : ¬ S []) : oneB ps = true := by
  have : ¬ Rch ps [] := fun hr => h (hr S hS)
  simp [oneB, this]
/-- The end of a phrase. -/
def Suf (ps : List Ph) (r : List Int) : Prop := ∃ i k, i < ps.length ∧ k ≤ (sg ps i).length ∧ r = (sg ps i).drop k
def allSuf (ps : List Ph) : List (List Int) := (List.range ps.length).flatMap fun i => (List.range 4).map fun k => (sg ps i).drop k
theorem suf_mem {ps : List Ph} (h3 : ∀ i, i < ps.length → (sg ps i).length ≤ 3) {r : List Int} (h : Suf ps r) : r ∈ allSuf ps := by
  obtain ⟨i, k, hi, hk, rfl⟩ := h
  have := h3 i hi
  simp only [allSuf, List.mem_flatMap, List.mem_map, List.mem_range]
  exact ⟨i, hi, k, by omega, rfl⟩
theorem allSuf_len (ps : List Ph) : (allSuf ps).length = 4 * ps.length := by
  have : ∀ n, ((List.range n).flatMap fun i => (List.range 4).map fun k => (sg ps i).drop k).length = 4 * n := by
    intro n
    induction n with
    | zero => simp
    | succ n ih => rw [List.range_succ (n := n), List.flatMap_append, List.length_append, ih]; simp; omega
  exact this _
/-- A list of rests with a further one, if it is new. -/
def putL (L : List (List Int)) (r : List Int) : List (List Int) := if r ∈ L then L else L ++ [r]
theorem putL_old {L : List (List Int)} {r : List Int} (h : r ∈ L) : putL L r = L := by simp [putL, h]
theorem putL_new {L : List (List Int)} {r : List Int} (h : r ∉ L) : putL L r = L ++ [r] := by simp [putL, h]
theorem mem_putL {L : List (List Int)} {r x : List Int} : x ∈ putL L r ↔ x ∈ L ∨ x = r := by
  unfold putL
  split
  · next h => exact ⟨.inl, fun h' => h'.elim id fun e => e ▸ h⟩
  · simp
theorem putL_get {L : List (List Int)} {r : List Int} {m : Nat} (h : m < L.length) : (putL L r)[m]? = L[m]? := by
  unfold putL
  split
  · rfl
  · rw [List.getElem?_append_left h]
theorem putL_len (L : List (List Int)) (r : List Int) : L.length ≤ (putL L r).length := by
  unfold putL; split <;> simp
/-- What the lists of rests keep. -/
structure Good (ps : List Ph) (L : List (List Int)) : Prop where
  nodup : L.Nodup
  rch : ∀ r ∈ L, Rch ps r
  suf : ∀ r ∈ L, Suf ps r
theorem Good.nil (ps : List Ph) : Good ps [] := ⟨List.nodup_nil, fun r h => by simp at h, fun r h => by simp at h⟩
theorem Good.put {ps : List Ph} {L : List (List Int)} {r : List Int} (h : Good ps L) (h1 : Rch ps r) (h2 : Suf ps r) : Good ps (putL L r) := by
  refine ⟨?_, fun x hx => (mem_putL.1 hx).elim (h.rch x) fun e => e ▸ h1, fun x hx => (mem_putL.1 hx).elim (h.suf x) fun e => e ▸ h2⟩
  unfold putL
  split
  · exact h.nodup
  · next hn => exact List.nodup_append.2 ⟨h.nodup, by simp, fun a ha b hb => by simp at hb; subst hb; exact fun e => hn (e ▸ ha)⟩
theorem Good.len {ps : List Ph} {L : List (List Int)} (h : Good ps L) (h3 : ∀ i, i < ps.length → (sg ps i).length ≤ 3) : L.length ≤ 4 * ps.length := by
  rw [← allSuf_len]
  exact h.nodup.length_le_of_subset fun r hr => suf_mem h3 (h.suf r hr)
theorem preB_begs {ps : List Ph} {i j : Nat} (h : preB ps i j = true) : i ≠ j ∧ begsB (sg ps i) (sg ps j) = true := by
  by_cases e : i = j
  · rw [e, preB_self] at h; cases h
  · rw [preB_other e] at h; exact ⟨e, h⟩
theorem begs_len {a b : List Int} (h : begsB a b = true) : a.length ≤ b.length := by
  simp [begsB] at h; exact h.1
theorem suf_pair {ps : List Ph} {i j : Nat} (hj : j < ps.length) (h : preB ps i j = true) : Suf ps ((sg ps j).drop (sg ps i).length) :=
  ⟨j, _, hj, begs_len (preB_begs h).2, rfl⟩
theorem suf_on {ps : List Ph} {a : List Int} {j : Nat} (hj : j < ps.length) (h : begsB a (sg ps j) = true) : Suf ps ((sg ps j).drop a.length) :=
  ⟨j, _, hj, begs_len h, rfl⟩
theorem suf_off {ps : List Ph} {a : List Int} {j : Nat} (ha : Suf ps a) (h : begsB (sg ps j) a = true) : Suf ps (a.drop (sg ps j).length) := by
  obtain ⟨i, k, hi, hk, rfl⟩ := ha
  have := begs_len h
  rw [List.length_drop] at this
  exact ⟨i, k + (sg ps j).length, hi, by omega, by rw [List.drop_drop]⟩
/-- The pairs of phrases up to (i, k) are noted. -/
def Pairs (ps : List Ph) (L : List (List Int)) (i k : Nat) : Prop := ∀ m j, m < ps.length → j < ps.length → (m < i ∨ (m = i ∧ j < k)) → preB ps m j = true → (sg ps j).drop (sg ps m).length ∈ L
/-- What the rests up to (n, k) lead to is noted. -/
def Han (ps : List Ph) (L : List (List Int)) (n k : Nat) : Prop := ∀ m a, L[m]? = some a → ∀ j, j < ps.length → (m < n ∨ (m = n ∧ j < k)) →
  (begsB a (sg ps j) = true → (sg ps j).drop a.length ∈ L) ∧ (begsB (sg ps j) a = true → a.drop (sg ps j).length ∈ L)
theorem Pairs.more {ps : List Ph} {L L' : List (List Int)} {i k : Nat} (h : Pairs ps L i k) (hs : ∀ x ∈ L, x ∈ L') : Pairs ps L' i k := fun m j h1 h2 h3 h4 => hs _ (h m j h1 h2 h3 h4)
theorem Pairs.step {ps : List Ph} {L : List (List Int)} {i k : Nat} (h : Pairs ps L i k) (hk : preB ps i k = true → (sg ps k).drop (sg ps i).length ∈ L) : Pairs ps L i (k + 1) := fun m j h1 h2 h3 h4 => by
  by_cases e : m = i ∧ j = k
  · obtain ⟨rfl, rfl⟩ := e; exact hk h4
  · exact h m j h1 h2 (by omega) h4
theorem Pairs.next {ps : List Ph} {L : List (List Int)} {i : Nat} (h : Pairs ps L i ps.length) : Pairs ps L (i + 1) 0 := fun m j h1 h2 h3 h4 => h m j h1 h2 (by omega) h4
theorem Han.next {ps : List Ph} {L : List (List Int)} {n : Nat} (h : Han ps L n ps.length) : Han ps L (n + 1) 0 := fun m a ha j h2 h3 => h m a ha j h2 (by omega)
theorem Han.start (ps : List Ph) (L : List (List Int)) : Han ps L 0 0 := fun m a ha j h2 h3 => by omega
theorem Han.step {ps : List Ph} {L L' : List (List Int)} {n k : Nat} {a : List Int} (h : Han ps L n k) (hn : n < L.length) (ha : L[n]? = some a) (hs : ∀ x ∈ L, x ∈ L') (hg : ∀ m, m < L.length → L'[m]? = L[m]?)
    (h1 : begsB a (sg ps k) = true → (sg ps k).drop a.length ∈ L') (h2 : begsB (sg ps k) a = true → a.drop (sg ps k).length ∈ L') : Han ps L' n (k + 1) := fun m b hb j hj hm => by
  by_cases e : m = n ∧ j = k
  · obtain ⟨rfl, rfl⟩ := e
    rw [hg m hn, ha] at hb
    cases hb
    exact ⟨h1, h2⟩
  · rw [hg m (by omega)] at hb
    have := h m b hb j hj (by omega)
    exact ⟨fun x => hs _ (this.1 x), fun x => hs _ (this.2 x)⟩
theorem closed_all {ps : List Ph} {L : List (List Int)} (h1 : Pairs ps L ps.length 0) (h2 : Han ps L L.length 0) : ClosedR ps (· ∈ L) :=
  ⟨fun i j hi hj h => h1 i j hi hj (.inl hi) h, fun a j ha hj => by
    obtain ⟨m, hm, rfl⟩ := List.mem_iff_getElem.1 ha
    exact h2 m _ (List.getElem?_eq_getElem hm) j hj (.inl hm)⟩
end Go.Proofs.Ytpogpehbkgjiaaa
