/- Slices of phrases (a text and its signals): how they read; what a valid book is. No program in sight. -/
import Derived.Test.YtpmdjdlojbpcfaaLib2
import Derived.WalkLawsBesides
namespace Go.Proofs.Ytpmdjdlojbpcfaa
open Go.RowKit
set_option linter.unusedSimpArgs false
set_option linter.unusedVariables false

/-- A phrase. -/
structure Ph where
  txt : ByteArray
  sig : List Int
instance : Inhabited Ph := ⟨⟨ByteArray.empty, []⟩⟩
def phAt (ps : List Ph) (i : Nat) : Ph := ps[i]?.getD default
theorem phAt_mem {ps : List Ph} {i : Nat} (h : i < ps.length) : phAt ps i ∈ ps := by simp [phAt, h]
theorem phAt_eq {ps : List Ph} {i : Nat} (h : i < ps.length) : phAt ps i = ps[i] := by simp [phAt, h]
theorem mem_phAt {ps : List Ph} {p : Ph} (h : p ∈ ps) : ∃ i, i < ps.length ∧ phAt ps i = p := by
  obtain ⟨i, hi, rfl⟩ := List.getElem_of_mem h
  exact ⟨i, hi, phAt_eq hi⟩

/-- A slice of integers, the capacity at hand. -/
def RdC (w : World) (v : Value) (zs : List Int) : Prop := Rd w v zs ∧ ∃ a cap, v = .slice a zs.length cap ∧ zs.length ≤ cap
theorem RdC.rd {w : World} {v : Value} {zs : List Int} (h : RdC w v zs) : Rd w v zs := h.1
theorem RdC.later {w w' : World} {v : Value} {zs : List Int} (h : RdC w v zs) (hb : Below w.heap.size w w') : RdC w' v zs := ⟨h.1.later hb, h.2⟩
theorem RdC.below {w w' : World} {C : Nat} {v : Value} {zs : List Int} (h : RdC w v zs) (hb : Below C w w') (hC : w.heap.size ≤ C) : RdC w' v zs := ⟨h.1.below hb hC, h.2⟩
theorem Own.rdc {w : World} {B : Nat} {v : Value} {zs : List Int} (h : Own w B v zs) : RdC w v zs := by
  refine ⟨h.rd, ?_⟩
  obtain ⟨h1, h2⟩ := h
  rcases h2 with ⟨rfl, h3⟩ | ⟨g, cap, cur, rfl, hg, hh, hc, r⟩
  · exact ⟨_, _, by rw [h3], by omega⟩
  · exact ⟨_, _, rfl, hc⟩
theorem IsRow.rdc {w : World} {a : Option Addr} {len cap : Nat} {zs : List Int} (h : IsRow .i64 w a len cap zs) : RdC w (.slice a len cap) (zs.take len) := by
  refine ⟨h.rd, a, cap, by rw [h.len], ?_⟩
  rw [h.len]
  rcases h with ⟨rfl, rfl, rfl, rfl⟩ | ⟨x, rfl, hl, _⟩
  · omega
  · exact hl

/-- The slice value v reads, in w, as the phrases ps: two cells an element. -/
def RdPs (w : World) (v : Value) (ps : List Ph) : Prop :=
  (ps = [] ∧ ∃ a cap, v = .slice a 0 cap ∧ (a = none → cap = 0)) ∨
  ∃ g off cap, v = .slice (some ⟨g, off, none⟩) ps.length cap ∧ g < w.heap.size ∧ ps.length ≤ cap ∧ cap ≤ maxLen ∧
    ∀ i, i < ps.length → (phAt ps i).txt.size ≤ maxLen ∧ w.cell? ⟨g, off + i * 2, none⟩ = some (.string (phAt ps i).txt) ∧ ∃ u, w.cell? ⟨g, off + i * 2 + 1, none⟩ = some u ∧ RdC w u (phAt ps i).sig
theorem RdPs.below {w w' : World} {C : Nat} {v : Value} {ps : List Ph} (h : RdPs w v ps) (hb : Below C w w') (hC : w.heap.size ≤ C) : RdPs w' v ps := by
  rcases h with h | ⟨g, off, cap, hv, hg, hl, hm, hc⟩
  · exact .inl h
  · refine .inr ⟨g, off, cap, hv, by have := hb.size; omega, hl, hm, fun i hi => ?_⟩
    obtain ⟨h1, h2, u, h3, h4⟩ := hc i hi
    exact ⟨h1, by rw [hb.cell (p := ⟨g, off + i * 2, none⟩) (by show g < C; omega)]; exact h2, u, by rw [hb.cell (p := ⟨g, off + i * 2 + 1, none⟩) (by show g < C; omega)]; exact h3, h4.below hb hC⟩
theorem RdPs.later {w w' : World} {v : Value} {ps : List Ph} (h : RdPs w v ps) (hb : Below w.heap.size w w') : RdPs w' v ps := h.below hb (Nat.le_refl _)
theorem RdPs.len {w : World} {v : Value} {ps : List Ph} (h : RdPs w v ps) : ∃ a cap, v = .slice a ps.length cap ∧ ps.length ≤ cap := by
  rcases h with ⟨rfl, a, cap, hv, -⟩ | ⟨g, off, cap, hv, _, hl, _⟩
  · exact ⟨_, _, hv, by simp⟩
  · exact ⟨_, _, hv, hl⟩
/-- What a round reads. -/
theorem RdPs.at_ {w : World} {a : Option Addr} {n cap : Nat} {ps : List Ph} (h : RdPs w (.slice a n cap) ps) (hn : n = ps.length) (i : Nat) (hi : i < n) :
    ∃ g off u, a = some ⟨g, off, none⟩ ∧ g < w.heap.size ∧ (phAt ps i).txt.size ≤ maxLen ∧ w.cell? ⟨g, off + i * 2, none⟩ = some (.string (phAt ps i).txt) ∧ w.cell? ⟨g, off + i * 2 + 1, none⟩ = some u ∧ RdC w u (phAt ps i).sig := by
  rcases h with ⟨rfl, -⟩ | ⟨g, off, cap', hv, hg, hl, hm, hc⟩
  · simp at hn; omega
  · simp only [Value.slice.injEq] at hv
    obtain ⟨rfl, -, -⟩ := hv
    obtain ⟨h1, h2, u, h3, h4⟩ := hc i (by omega)
    exact ⟨g, off, u, rfl, hg, h1, h2, h3, h4⟩
/-- Not too large: what the laws' own look at the size leaves. -/
def SmallPs (ps : List Ph) : Prop := ps.length ≤ 1048576 ∧ ∀ i, i < ps.length → (phAt ps i).txt.size ≤ 1048576 ∧ (phAt ps i).sig.length ≤ 1048576

/-! ### What a valid book is -/
def letB (l : List UInt8) : Bool := l.all fun c => decide (97 ≤ (c.toNat : Int)) && decide ((c.toNat : Int) ≤ 122)
def begB (s : ByteArray) : Bool := decide (s.size ≤ 12) && letB s.data.toList
def textB (s : ByteArray) : Bool := begB s && decide (0 < s.size)
def allIn (zs : List Int) (lo hi : Int) : Bool := zs.all fun n => inB n lo hi
def sigB (l : List Int) : Bool := decide (1 ≤ l.length) && decide (l.length ≤ 3) && allIn l 1 60
theorem allIn_false (zs : List Int) (lo hi : Int) (k : Nat) (hk : k < zs.length) (h : inB (zs[k]?.getD 0) lo hi = false) : allIn zs lo hi = false := by
  simp only [allIn, List.all_eq_false]
  refine ⟨zs[k], List.getElem_mem hk, ?_⟩
  simpa [hk] using h
theorem allIn_true (zs : List Int) (lo hi : Int) (h : ∀ k, k < zs.length → inB (zs[k]?.getD 0) lo hi = true) : allIn zs lo hi = true := by
  simp only [allIn, List.all_eq_true]
  intro x hx
  obtain ⟨i, hi, rfl⟩ := List.mem_iff_getElem.1 hx
  have := h i hi
  simpa [hi] using this
theorem allIn_get {zs : List Int} {lo hi : Int} (h : allIn zs lo hi = true) (i : Nat) (hi' : i < zs.length) : lo ≤ zs[i]?.getD 0 ∧ zs[i]?.getD 0 ≤ hi := by
  simp [allIn, inB] at h
  have := h zs[i] (List.getElem_mem hi')
  simp [hi', this]
theorem letB_no {s : ByteArray} {k : Nat} (hk : k < s.size) (h : (s[k].toNat : Int) < 97 ∨ 122 < (s[k].toNat : Int)) : letB s.data.toList = false := by
  unfold letB
  rw [List.all_eq_false]
  refine ⟨s[k], by simp [ByteArray.getElem_eq_getElem_data], ?_⟩
  simp only [Bool.and_eq_true, decide_eq_true_eq]
  omega
theorem letB_yes {s : ByteArray} (h : ∀ j, (hj : j < s.size) → 97 ≤ (s[j].toNat : Int) ∧ (s[j].toNat : Int) ≤ 122) : letB s.data.toList = true := by
  unfold letB
  rw [List.all_eq_true]
  intro x hx
  obtain ⟨i, hi, rfl⟩ := List.getElem_of_mem hx
  have := h i (by simpa using hi)
  simp only [Bool.and_eq_true, decide_eq_true_eq]
  simpa [ByteArray.getElem_eq_getElem_data] using this
def lessB (a b : ByteArray) : Bool := Op.bytesLess a.toList b.toList
/-- The first place with these signals; the length where there is none. -/
def sigIdx (ps : List Ph) (l : List Int) : Nat := ps.findIdx fun p => p.sig == l
def goodAt (ps : List Ph) (i : Nat) : Bool := textB (phAt ps i).txt && sigB (phAt ps i).sig && (i == 0 || lessB (phAt ps (i - 1)).txt (phAt ps i).txt) && (sigIdx ps (phAt ps i).sig == i)
def goodTo (ps : List Ph) (k : Nat) : Bool := (List.range k).all fun i => goodAt ps i
def bookB (ps : List Ph) : Bool := decide (1 ≤ ps.length) && decide (ps.length ≤ 40) && goodTo ps ps.length
theorem goodTo_succ (ps : List Ph) (k : Nat) : goodTo ps (k + 1) = (goodTo ps k && goodAt ps k) := by simp [goodTo, List.range_succ]
theorem goodTo_no {ps : List Ph} {k n : Nat} (hk : k < n) (h : goodAt ps k = false) : goodTo ps n = false := by
  unfold goodTo
  rw [List.all_eq_false]
  exact ⟨k, by simpa using hk, by simp [h]⟩
theorem goodTo_at {ps : List Ph} {k n : Nat} (hk : k < n) (h : goodTo ps n = true) : goodAt ps k = true := by
  unfold goodTo at h
  exact List.all_eq_true.1 h k (by simpa using hk)
theorem bookB_len {ps : List Ph} (h : bookB ps = true) : 1 ≤ ps.length ∧ ps.length ≤ 40 := by
  simp only [bookB, Bool.and_eq_true, decide_eq_true_eq] at h; exact h.1
theorem bookB_at {ps : List Ph} (h : bookB ps = true) {k : Nat} (hk : k < ps.length) : goodAt ps k = true := by
  simp only [bookB, Bool.and_eq_true] at h; exact goodTo_at hk h.2
theorem sigIdx_le (ps : List Ph) (l : List Int) : sigIdx ps l ≤ ps.length := List.findIdx_le_length
theorem sigIdx_lt {ps : List Ph} {l : List Int} {i : Nat} (hi : i < ps.length) (h : (phAt ps i).sig = l) : sigIdx ps l ≤ i := by
  refine Nat.le_of_not_lt fun hlt => ?_
  have := List.not_of_lt_findIdx (p := fun p : Ph => p.sig == l) hlt
  rw [phAt_eq hi] at h
  simp [h] at this
theorem sigIdx_at {ps : List Ph} {l : List Int} (h : sigIdx ps l < ps.length) : (phAt ps (sigIdx ps l)).sig = l := by
  rw [phAt_eq h]
  have := List.findIdx_getElem (p := fun p : Ph => p.sig == l) (w := h)
  exact eq_of_beq this
theorem sigIdx_min {ps : List Ph} {l : List Int} {i : Nat} (h : i < sigIdx ps l) : (phAt ps i).sig ≠ l := by
  have hi : i < ps.length := Nat.lt_of_lt_of_le h (sigIdx_le _ _)
  have := List.not_of_lt_findIdx (p := fun p : Ph => p.sig == l) h
  rw [phAt_eq hi]
  simpa using this
theorem sigIdx_of {ps : List Ph} {l : List Int} {i : Nat} (hi : i < ps.length) (h : (phAt ps i).sig = l) (hm : ∀ j, j < i → (phAt ps j).sig ≠ l) : sigIdx ps l = i := by
  refine Nat.le_antisymm (sigIdx_lt hi h) (Nat.le_of_not_lt fun hlt => ?_)
  exact hm _ hlt (sigIdx_at (Nat.lt_trans hlt hi))
theorem sigIdx_none {ps : List Ph} {l : List Int} (hm : ∀ j, j < ps.length → (phAt ps j).sig ≠ l) : sigIdx ps l = ps.length := by
  refine Nat.le_antisymm (sigIdx_le _ _) (Nat.le_of_not_lt fun hlt => ?_)
  exact hm _ hlt (sigIdx_at hlt)
end Go.Proofs.Ytpmdjdlojbpcfaa
