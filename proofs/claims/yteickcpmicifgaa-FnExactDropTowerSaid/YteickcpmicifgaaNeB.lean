/- Chapter 6: what can be reached, the plain part. -/
import Derived.Test.YteickcpmicifgaaNe5
import Derived.Test.YteickcpmicifgaaPt
namespace Go.Proofs.Yteickcpmicifgaa
open Go.RowKit
set_option linter.unusedSimpArgs false
set_option linter.unusedVariables false

/-- What can be reached from s by the edges E. -/
inductive Rcv (E : Nat → Nat → Prop) (s : Nat) : Nat → Prop
  | here : Rcv E s s
  | next {a b : Nat} (h : Rcv E s a) (e : E a b) : Rcv E s b
theorem Rcv.mono {E E' : Nat → Nat → Prop} {s b : Nat} (h : Rcv E s b) (hE : ∀ a b, E a b → E' a b) : Rcv E' s b := by
  induction h with
  | here => exact .here
  | next _ e ih => exact .next ih (hE _ _ e)
theorem Rcv.closed {E : Nat → Nat → Prop} {s b : Nat} (h : Rcv E s b) {S : Nat → Prop} (h0 : S s) (h1 : ∀ a b, S a → E a b → S b) : S b := by
  induction h with
  | here => exact h0
  | next _ e ih => exact h1 _ _ ih e
noncomputable def rcB (E : Nat → Nat → Prop) (s k : Nat) : Bool := @decide (Rcv E s k) (Classical.propDecidable _)
theorem rcB_iff {E : Nat → Nat → Prop} {s k : Nat} : rcB E s k = true ↔ Rcv E s k := by simp [rcB]
/-- The numbers below n that can be reached, in order. -/
noncomputable def rcL (E : Nat → Nat → Prop) (s n : Nat) : List Int := ((List.range n).filter fun k : Nat => rcB E s k).map fun k : Nat => (k : Int)
theorem mem_rcL {E : Nat → Nat → Prop} {s n : Nat} {z : Int} : z ∈ rcL E s n ↔ ∃ k : Nat, z = (k : Int) ∧ k < n ∧ Rcv E s k := by
  simp only [rcL, List.mem_map, List.mem_filter, List.mem_range, rcB_iff]
  constructor
  · rintro ⟨k, ⟨h1, h2⟩, rfl⟩; exact ⟨k, rfl, h1, h2⟩
  · rintro ⟨k, rfl, h1, h2⟩; exact ⟨k, ⟨h1, h2⟩, rfl⟩
theorem rcL_sorted (E : Nat → Nat → Prop) (s n : Nat) : (rcL E s n).Pairwise (· < ·) := by
  unfold rcL
  rw [List.pairwise_map]
  exact (List.pairwise_lt_range.filter _).imp fun h => by omega
theorem rcL_len (E : Nat → Nat → Prop) (s n : Nat) : (rcL E s n).length ≤ n := by
  unfold rcL
  rw [List.length_map]
  exact Nat.le_trans (List.length_filter_le _ _) (by simp)
theorem rcL_ext {E : Nat → Nat → Prop} {s n : Nat} {zs : List Int} (h1 : zs.Pairwise (· < ·)) (h2 : ∀ z, z ∈ zs ↔ ∃ k : Nat, z = (k : Int) ∧ k < n ∧ Rcv E s k) : zs = rcL E s n :=
  sorted_ext h1 (rcL_sorted _ _ _) fun z => by rw [h2, mem_rcL]
theorem rcL_congr {E E' : Nat → Nat → Prop} {s n : Nat} (h : ∀ a b, E a b ↔ E' a b) : rcL E s n = rcL E' s n :=
  rcL_ext (rcL_sorted _ _ _) fun z => by
    rw [mem_rcL]
    constructor
    · rintro ⟨k, h1, h2, h3⟩; exact ⟨k, h1, h2, h3.mono fun a b e => (h a b).1 e⟩
    · rintro ⟨k, h1, h2, h3⟩; exact ⟨k, h1, h2, h3.mono fun a b e => (h a b).2 e⟩

/-- The links that may be used, as edges. -/
def lnkE (ls : List T3) (p : Nat → Bool) (a b : Nat) : Prop := ∃ j, j < ls.length ∧ p j = true ∧ lkB (a : Int) (b : Int) (rAt ls j) = true
theorem lnkE_all {ls : List T3} {a b : Nat} : lnkE ls (fun _ => true) a b ↔ 0 ≤ lkZ ls (a : Int) (b : Int) := by
  rw [lkZ_ge]
  constructor
  · rintro ⟨j, h1, -, h2⟩; exact ⟨j, h1, h2⟩
  · rintro ⟨j, h1, h2⟩; exact ⟨j, h1, rfl, h2⟩
/-- The links without number i. -/
def woL (ls : List T3) (i : Nat) : List T3 := ls.take i ++ ls.drop (i + 1)
theorem rAt_woL {ls : List T3} {i : Nat} (hi : i < ls.length) (j : Nat) : rAt (woL ls i) j = rAt ls (if j < i then j else j + 1) := by
  unfold woL
  rw [rAt_append]
  have : (ls.take i).length = i := by simp; omega
  rw [this]
  by_cases h : j < i
  · rw [if_pos h, if_pos h, rAt_take _ h]
  · rw [if_neg h, if_neg h, rAt_drop, show i + 1 + (j - i) = j + 1 by omega]
theorem woL_len {ls : List T3} {i : Nat} (hi : i < ls.length) : (woL ls i).length = ls.length - 1 := by
  unfold woL; simp; omega
theorem lnkE_wo {ls : List T3} {i : Nat} (hi : i < ls.length) (a b : Nat) : lnkE (woL ls i) (fun _ => true) a b ↔ lnkE ls (fun j => decide (j ≠ i)) a b := by
  constructor
  · rintro ⟨j, h1, -, h2⟩
    rw [woL_len hi] at h1
    rw [rAt_woL hi] at h2
    refine ⟨if j < i then j else j + 1, by split <;> omega, by simp; split <;> omega, h2⟩
  · rintro ⟨j, h1, h2, h3⟩
    simp at h2
    refine ⟨if j < i then j else j - 1, by rw [woL_len hi]; split <;> omega, rfl, ?_⟩
    rw [rAt_woL hi]
    by_cases h : j < i
    · rw [if_pos h, if_pos h]; exact h3
    · rw [if_neg h, if_neg (by omega), show j - 1 + 1 = j by omega]; exact h3

/-! ### The list of what was met -/
structure Met (E : Nat → Nat → Prop) (s n : Nat) (zs : List Int) : Prop where
  nodup : zs.Nodup
  mem : ∀ z ∈ zs, ∃ k : Nat, z = (k : Int) ∧ k < n ∧ Rcv E s k
  here : (s : Int) ∈ zs
theorem Met.start {E : Nat → Nat → Prop} {s n : Nat} (h : s < n) : Met E s n [(s : Int)] :=
  ⟨by simp, fun z hz => by simp at hz; exact ⟨s, hz, h, .here⟩, by simp⟩
theorem Met.len {E : Nat → Nat → Prop} {s n : Nat} {zs : List Int} (h : Met E s n zs) : zs.length ≤ n := by
  have : zs.length ≤ ((List.range n).map fun k : Nat => (k : Int)).length := h.nodup.length_le_of_subset fun z hz => by
    obtain ⟨k, rfl, hk, -⟩ := h.mem z hz
    exact List.mem_map.2 ⟨k, List.mem_range.2 hk, rfl⟩
  simpa using this
theorem Met.add {E : Nat → Nat → Prop} {s n : Nat} {zs : List Int} (h : Met E s n zs) {a b : Nat} (ha : (a : Int) ∈ zs) (he : E a b) (hb : b < n) (hn : (b : Int) ∉ zs) : Met E s n (zs ++ [(b : Int)]) := by
  refine ⟨?_, ?_, List.mem_append_left _ h.here⟩
  · rw [List.nodup_append]
    exact ⟨h.nodup, by simp, fun x hx y hy => by simp at hy; rintro rfl; rw [hy] at hx; exact hn hx⟩
  · intro z hz
    rcases List.mem_append.1 hz with hz | hz
    · exact h.mem z hz
    · simp at hz
      obtain ⟨k, hk, hkn, hr⟩ := h.mem _ ha
      have : a = k := by omega
      subst this
      exact ⟨b, hz, hb, .next hr he⟩
/-- All that lies next to the first k has been met. -/
def MetTo (E : Nat → Nat → Prop) (n : Nat) (zs : List Int) (k : Nat) : Prop := ∀ j, j < k → ∀ a b : Nat, nth zs j = (a : Int) → E a b → b < n → (b : Int) ∈ zs
theorem MetTo.zero (E : Nat → Nat → Prop) (n : Nat) (zs : List Int) : MetTo E n zs 0 := fun j hj => by omega
theorem MetTo.more {E : Nat → Nat → Prop} {n : Nat} {zs : List Int} {k : Nat} (h : MetTo E n zs k) (hk : k ≤ zs.length) (z : Int) : MetTo E n (zs ++ [z]) k := fun j hj a b ha he hb => by
  have : nth (zs ++ [z]) j = nth zs j := by unfold nth; rw [List.getElem?_append_left (by omega)]
  rw [this] at ha
  exact List.mem_append_left _ (h j hj a b ha he hb)
theorem Met.all {E : Nat → Nat → Prop} {s n : Nat} {zs : List Int} (h : Met E s n zs) (hc : MetTo E n zs zs.length) (hE : ∀ a b, E a b → b < n) : ∀ z, z ∈ zs ↔ ∃ k : Nat, z = (k : Int) ∧ k < n ∧ Rcv E s k := by
  intro z
  refine ⟨h.mem z, ?_⟩
  rintro ⟨k, rfl, hk, hr⟩
  have : k < n ∧ (k : Int) ∈ zs := hr.closed (S := fun k => k < n ∧ (k : Int) ∈ zs) ⟨by obtain ⟨j, e, hj, -⟩ := h.mem _ h.here; omega, h.here⟩ fun a b ⟨ha, hm⟩ he => by
    refine ⟨hE a b he, ?_⟩
    obtain ⟨i, hi, e⟩ := List.getElem_of_mem hm
    exact hc i hi a b (by simp [nth, hi, e]) he (hE a b he)
  exact this.2

/-! ### Numbers put in order -/
theorem mem_putN {zs : List Int} {n z : Int} : z ∈ putN zs n ↔ z ∈ zs ∨ z = n := by
  unfold putN
  rw [List.mem_append, List.mem_append]
  have : z ∈ zs ↔ z ∈ zs.take (putK zs n) ∨ z ∈ zs.drop (putK zs n) := by
    rw [← List.mem_append, List.take_append_drop]
  rw [this]
  simp only [List.mem_singleton]
  constructor
  · rintro ((h | h) | h)
    · exact .inl (.inl h)
    · exact .inr h
    · exact .inl (.inr h)
  · rintro ((h | h) | h)
    · exact .inl (.inl h)
    · exact .inr h
    · exact .inl (.inr h)
theorem putK_bef {zs : List Int} {n : Int} {j : Nat} (hj : j < putK zs n) : nth zs j < n := by
  have hl := putK_le zs n
  have := List.not_of_lt_findIdx (p := fun x : Int => !decide (x < n)) (xs := zs) hj
  have hjl : j < zs.length := by omega
  simpa [nth, hjl] using this
theorem putK_at {zs : List Int} {n : Int} (h : putK zs n < zs.length) : n ≤ nth zs (putK zs n) := by
  have := List.findIdx_getElem (p := fun x : Int => !decide (x < n)) (xs := zs) (w := h)
  simp at this
  have e : nth zs (putK zs n) = zs[putK zs n] := by simp [nth, h]
  rw [e]; exact this
theorem putN_sorted {zs : List Int} {n : Int} (h : zs.Pairwise (· < ·)) (hn : n ∉ zs) : (putN zs n).Pairwise (· < ·) := by
  have hl := putK_le zs n
  have hs := h
  rw [← List.take_append_drop (putK zs n) zs] at hs
  rw [List.pairwise_append] at hs
  unfold putN
  rw [List.append_assoc, List.pairwise_append]
  have ht : ∀ x ∈ zs.take (putK zs n), x < n := by
    intro x hx
    obtain ⟨i, hi, rfl⟩ := List.getElem_of_mem hx
    have hi' : i < putK zs n := by simp at hi; omega
    have := putK_bef hi'
    have hil : i < zs.length := by omega
    simpa [nth, hil] using this
  have hd : ∀ x ∈ zs.drop (putK zs n), n < x := by
    intro x hx
    have hlt : putK zs n < zs.length := by
      rcases Nat.lt_or_ge (putK zs n) zs.length with h | h
      · exact h
      · rw [List.drop_of_length_le h] at hx; simp at hx
    have h0 := putK_at hlt
    have hne : n ≠ nth zs (putK zs n) := fun e => hn (by rw [e]; simp [nth, hlt])
    obtain ⟨i, hi, rfl⟩ := List.getElem_of_mem hx
    have hil : putK zs n + i < zs.length := by simp at hi; omega
    have e0 : nth zs (putK zs n) = zs[putK zs n] := by simp [nth, hlt]
    rw [e0] at h0 hne
    rw [List.getElem_drop]
    rcases Nat.eq_zero_or_pos i with rfl | hp
    · simp; omega
    · have := (List.pairwise_iff_getElem.1 h) (putK zs n) (putK zs n + i) hlt hil (by omega)
      omega
  refine ⟨hs.1, ?_, ?_⟩
  · simp only [List.singleton_append, List.pairwise_cons]
    exact ⟨hd, hs.2.1⟩
  · intro x hx y hy
    simp only [List.singleton_append, List.mem_cons] at hy
    rcases hy with rfl | hy
    · exact ht x hx
    · exact hs.2.2 x hx y hy
theorem putB_no {zs : List Int} {n : Int} (hn : n ∉ zs) : putB zs n = false := by
  cases e : putB zs n with
  | false => rfl
  | true =>
    simp only [putB, Bool.and_eq_true, decide_eq_true_eq, beq_iff_eq] at e
    exact absurd (show n ∈ zs by rw [← e.2]; simp [nth, e.1]) hn
/-- The first t of zs, put in order. -/
structure InOrder (zs : List Int) (t : Nat) (out : List Int) : Prop where
  sorted : out.Pairwise (· < ·)
  mem : ∀ z, z ∈ out ↔ z ∈ zs.take t
theorem InOrder.zero (zs : List Int) : InOrder zs 0 [] := ⟨by simp, by simp⟩
theorem InOrder.next {zs out : List Int} {t : Nat} (h : InOrder zs t out) (ht : t < zs.length) (hd : zs.Nodup) : nth zs t ∉ out ∧ InOrder zs (t + 1) (putN out (nth zs t)) := by
  have e : nth zs t = zs[t] := by simp [nth, ht]
  have hn : nth zs t ∉ out := by
    rw [h.mem, e]
    intro hm
    obtain ⟨i, hi, e'⟩ := List.getElem_of_mem hm
    rw [List.getElem_take] at e'
    have hi' : i < t := by simp at hi; omega
    have := (List.pairwise_iff_getElem.1 hd) i t (by omega) ht hi'
    exact this e'
  refine ⟨hn, putN_sorted h.sorted hn, fun z => ?_⟩
  rw [mem_putN, h.mem, List.take_succ_eq_append_getElem ht, List.mem_append, e]
  simp
theorem InOrder.length {zs out : List Int} {t : Nat} (h : InOrder zs t out) (hd : zs.Nodup) : out.length ≤ zs.length := by
  have hn : out.Nodup := h.sorted.imp fun h => by omega
  exact hn.length_le_of_subset fun z hz => List.mem_of_mem_take ((h.mem z).1 hz)

/-! ### Marks in an array -/
/-- The marks of n towers: sound, and with the first one. -/
structure Mrk (E : Nat → Nat → Prop) (s n : Nat) (f : Nat → Bool) : Prop where
  here : f s = true
  snd : ∀ k, f k = true → k < n ∧ Rcv E s k
def putF (f : Nat → Bool) (k : Nat) : Nat → Bool := fun j => if j = k then true else f j
theorem Mrk.add {ls : List T3} {p : Nat → Bool} {s n : Nat} {f : Nat → Bool} (h : Mrk (lnkE ls p) s n f) {j u v : Nat} (hj : j < ls.length) (hp : p j = true) (hu : (rAt ls j).x0 = (u : Int)) (hv : (rAt ls j).x1 = (v : Int)) (hun : u < n) (hvn : v < n) (hne : f u ≠ f v) :
    Mrk (lnkE ls p) s n (putF (putF f u) v) := by
  have e1 : lnkE ls p u v := ⟨j, hj, hp, lkB_iff.2 (.inl ⟨hu, hv⟩)⟩
  have e2 : lnkE ls p v u := ⟨j, hj, hp, lkB_iff.2 (.inr ⟨hu, hv⟩)⟩
  have ho : Rcv (lnkE ls p) s u ∧ Rcv (lnkE ls p) s v := by
    cases hfu : f u with
    | true => have := (h.snd u hfu).2; exact ⟨this, .next this e1⟩
    | false =>
      cases hfv : f v with
      | true => have := (h.snd v hfv).2; exact ⟨.next this e2, this⟩
      | false => rw [hfu, hfv] at hne; exact absurd rfl hne
  refine ⟨?_, fun k hk => ?_⟩
  · unfold putF; split
    · rfl
    · split
      · rfl
      · exact h.here
  · unfold putF at hk
    by_cases hkv : k = v
    · subst hkv; exact ⟨hvn, ho.2⟩
    · rw [if_neg hkv] at hk
      by_cases hku : k = u
      · subst hku; exact ⟨hun, ho.1⟩
      · rw [if_neg hku] at hk; exact h.snd k hk
def Clo (ls : List T3) (p : Nat → Bool) (f : Nat → Bool) (k : Nat) : Prop := ∀ j, j < k → p j = true → f (rAt ls j).x0.toNat = f (rAt ls j).x1.toNat
theorem Mrk.all {ls : List T3} {p : Nat → Bool} {s n : Nat} {f : Nat → Bool} (h : Mrk (lnkE ls p) s n f) (hc : Clo ls p f ls.length) : ∀ k, f k = true ↔ k < n ∧ Rcv (lnkE ls p) s k := by
  intro k
  refine ⟨h.snd k, fun ⟨_, hr⟩ => hr.closed (S := fun k => f k = true) h.here fun a b ha ⟨j, hj, hp, hl⟩ => ?_⟩
  have := hc j hj hp
  have hl' := lkB_iff.1 hl
  rcases hl' with ⟨e1, e2⟩ | ⟨e1, e2⟩
  · rw [e1, e2] at this
    simp at this
    rw [← this]; exact ha
  · rw [e1, e2] at this
    simp at this
    rw [this]; exact ha
/-- How many of the first n are not marked. -/
def unm (f : Nat → Bool) : Nat → Nat
  | 0 => 0
  | n + 1 => unm f n + (if f n then 0 else 1)
theorem unm_le (f : Nat → Bool) (n : Nat) : unm f n ≤ n := by
  induction n with
  | zero => exact Nat.le_refl _
  | succ n ih => unfold unm; split <;> omega
theorem unm_put_ge {f : Nat → Bool} {k n : Nat} (h : n ≤ k) : unm (putF f k) n = unm f n := by
  induction n with
  | zero => rfl
  | succ n ih =>
    have e : putF f k n = f n := by unfold putF; rw [if_neg (by omega)]
    unfold unm; rw [ih (by omega), e]
theorem unm_put_le (f : Nat → Bool) (k n : Nat) : unm (putF f k) n ≤ unm f n := by
  induction n with
  | zero => exact Nat.le_refl _
  | succ n ih =>
    unfold unm
    by_cases e : n = k
    · have : putF f k n = true := by unfold putF; rw [if_pos e]
      rw [this]; simp; omega
    · have : putF f k n = f n := by unfold putF; rw [if_neg e]
      rw [this]; omega
theorem unm_put_lt {f : Nat → Bool} {k n : Nat} (h : k < n) (hf : f k = false) : unm (putF f k) n < unm f n := by
  induction n with
  | zero => omega
  | succ n ih =>
    unfold unm
    by_cases e : n = k
    · subst e
      have : putF f n n = true := by unfold putF; rw [if_pos rfl]
      rw [this, hf, unm_put_ge (Nat.le_refl _)]; simp
    · have : putF f k n = f n := by unfold putF; rw [if_neg e]
      rw [this]
      have := ih (by omega)
      omega
theorem unm_put2 {f : Nat → Bool} {u v n : Nat} (hu : u < n) (hv : v < n) (hne : f u ≠ f v) : unm (putF (putF f u) v) n < unm f n := by
  cases hfu : f u with
  | false => exact Nat.lt_of_le_of_lt (unm_put_le _ _ _) (unm_put_lt hu hfu)
  | true =>
    have hfv : f v = false := by cases hfv : f v with
      | false => rfl
      | true => rw [hfu, hfv] at hne; exact absurd rfl hne
    have huv : v ≠ u := fun e => by subst e; rw [hfu] at hfv; cases hfv
    have : putF f u v = false := by unfold putF; rw [if_neg huv]; exact hfv
    exact Nat.lt_of_lt_of_le (unm_put_lt hv this) (unm_put_le _ _ _)
/-- The marked ones among the first n, in order. -/
def mrkL (f : Nat → Bool) (n : Nat) : List Int := ((List.range n).filter fun k : Nat => f k).map fun k : Nat => (k : Int)
theorem mrkL_yes {f : Nat → Bool} {n : Nat} (h : f n = true) : mrkL f (n + 1) = mrkL f n ++ [(n : Int)] := by simp [mrkL, List.range_succ, List.filter_append, h]
theorem mrkL_no {f : Nat → Bool} {n : Nat} (h : f n = false) : mrkL f (n + 1) = mrkL f n := by simp [mrkL, List.range_succ, List.filter_append, h]
theorem mrkL_len (f : Nat → Bool) (n : Nat) : (mrkL f n).length ≤ n := by
  unfold mrkL
  rw [List.length_map]
  exact Nat.le_trans (List.length_filter_le _ _) (by simp)
theorem mrkL_rc {E : Nat → Nat → Prop} {s n N : Nat} {f : Nat → Bool} (hn : n ≤ N) (h : ∀ k, f k = true ↔ k < n ∧ Rcv E s k) : mrkL f N = rcL E s n := by
  refine rcL_ext ?_ fun z => ?_
  · unfold mrkL
    rw [List.pairwise_map]
    exact (List.pairwise_lt_range.filter _).imp fun h => by omega
  · simp only [mrkL, List.mem_map, List.mem_filter, List.mem_range]
    constructor
    · rintro ⟨k, ⟨h1, h2⟩, rfl⟩; have := (h k).1 h2; exact ⟨k, rfl, this.1, this.2⟩
    · rintro ⟨k, rfl, h1, h2⟩; exact ⟨k, ⟨by omega, (h k).2 ⟨h1, h2⟩⟩, rfl⟩
end Go.Proofs.Yteickcpmicifgaa
