/- Chapter 8: rising lists, sets as numbers, how often a spot is seen, covers, spots that are apart; lists in the order of a dictionary. No program in sight. -/
import Derived.Test.YtpmdjdlojbpcfaaIv
import Derived.Lib.BitFns
namespace Go.Proofs.Ytpmdjdlojbpcfaa
open Go.RowKit
set_option linter.unusedSimpArgs false
set_option linter.unusedVariables false

/-! ### Rising lists -/
/-- Strictly rising, from lo on and below hi. -/
def Ris (zs : List Int) (lo hi : Int) : Prop := zs.Pairwise (· < ·) ∧ ∀ x ∈ zs, lo ≤ x ∧ x < hi
def rgAt (zs : List Int) (lo hi : Int) (i : Nat) : Bool := inB (zs[i]?.getD 0) lo hi && (i == 0 || decide (zs[i - 1]?.getD 0 < zs[i]?.getD 0))
def risB (zs : List Int) (lo hi : Int) : Bool := (List.range zs.length).all (rgAt zs lo hi)
theorem risB_no {zs : List Int} {lo hi : Int} (k : Nat) (hk : k < zs.length) (h : rgAt zs lo hi k = false) : risB zs lo hi = false := by
  unfold risB; rw [List.all_eq_false]; exact ⟨k, by simpa using hk, by simp [h]⟩
theorem risB_yes {zs : List Int} {lo hi : Int} (h : ∀ k, k < zs.length → rgAt zs lo hi k = true) : risB zs lo hi = true := by
  unfold risB; rw [List.all_eq_true]; intro i hi; exact h i (by simpa using hi)
theorem Ris.nil (lo hi : Int) : Ris [] lo hi := ⟨List.Pairwise.nil, fun x h => by cases h⟩
theorem Ris.wide {zs : List Int} {lo hi lo' hi' : Int} (h : Ris zs lo hi) (h1 : lo' ≤ lo) (h2 : hi ≤ hi') : Ris zs lo' hi' := ⟨h.1, fun x hx => by have := h.2 x hx; omega⟩
theorem Ris.tail {x lo hi : Int} {zs : List Int} (h : Ris (x :: zs) lo hi) : Ris zs (x + 1) hi :=
  ⟨(List.pairwise_cons.1 h.1).2, fun y hy => by have := (List.pairwise_cons.1 h.1).1 y hy; have := h.2 y (List.mem_cons_of_mem _ hy); omega⟩
theorem Ris.head {x lo hi : Int} {zs : List Int} (h : Ris (x :: zs) lo hi) : lo ≤ x ∧ x < hi := h.2 x (List.mem_cons_self ..)
theorem Ris.len {zs : List Int} {lo hi : Int} (h : Ris zs lo hi) (hlh : lo ≤ hi) : (zs.length : Int) ≤ hi - lo := by
  induction zs generalizing lo with
  | nil => simp; omega
  | cons x zs ih =>
    have h1 := h.head
    have := ih h.tail (by omega)
    simp only [List.length_cons]; omega
theorem Ris.snoc {zs : List Int} {lo hi x : Int} (h : Ris zs lo x) (h1 : lo ≤ x) (h2 : x < hi) : Ris (zs ++ [x]) lo hi := by
  refine ⟨List.pairwise_append.2 ⟨h.1, by simp, fun a ha b hb => by simp at hb; subst hb; exact (h.2 a ha).2⟩, fun y hy => ?_⟩
  simp at hy
  rcases hy with hy | rfl
  · have := h.2 y hy; omega
  · exact ⟨h1, h2⟩
theorem Ris.init {zs : List Int} {lo hi x : Int} (h : Ris (zs ++ [x]) lo hi) : Ris zs lo x ∧ lo ≤ x ∧ x < hi := by
  obtain ⟨h1, h2, h3⟩ := List.pairwise_append.1 h.1
  exact ⟨⟨h1, fun y hy => ⟨(h.2 y (by simp [hy])).1, h3 y hy x (by simp)⟩⟩, h.2 x (by simp)⟩
theorem Ris.app {a b : List Int} {lo hi : Int} (h : Ris (a ++ b) lo hi) : Ris a lo hi ∧ Ris b lo hi := by
  obtain ⟨h1, h2, h3⟩ := List.pairwise_append.1 h.1
  exact ⟨⟨h1, fun y hy => h.2 y (by simp [hy])⟩, ⟨h2, fun y hy => h.2 y (by simp [hy])⟩⟩
theorem Ris.get {zs : List Int} {lo hi : Int} (h : Ris zs lo hi) (i : Nat) (hi' : i < zs.length) : lo ≤ zs[i]?.getD 0 ∧ zs[i]?.getD 0 < hi := by
  have := h.2 zs[i] (List.getElem_mem hi')
  simpa [hi'] using this
theorem risB_iff {zs : List Int} {lo hi : Int} : risB zs lo (hi - 1) = true ↔ Ris zs lo hi := by
  constructor
  · intro h
    have hat : ∀ i, i < zs.length → lo ≤ zs[i]?.getD 0 ∧ zs[i]?.getD 0 ≤ hi - 1 ∧ (i = 0 ∨ zs[i - 1]?.getD 0 < zs[i]?.getD 0) := by
      intro i hi'
      have := List.all_eq_true.1 h i (by simpa using hi')
      simp only [rgAt, Bool.and_eq_true, inB_iff, Bool.or_eq_true, decide_eq_true_eq, beq_iff_eq] at this
      exact ⟨this.1.1, this.1.2, this.2⟩
    have key : ∀ (d i : Nat), i + d + 1 < zs.length → zs[i]?.getD 0 < zs[i + d + 1]?.getD 0 := by
      intro d
      induction d with
      | zero => intro i hi'
                have := (hat (i + 1) hi').2.2
                simpa using this
      | succ d ih => intro i hi'
                     have h1 := ih i (by omega)
                     have h2 := (hat (i + d + 1 + 1) (by omega)).2.2
                     simp only [Nat.add_sub_cancel] at h2
                     rw [show i + (d + 1) + 1 = i + d + 1 + 1 by omega]
                     omega
    refine ⟨List.pairwise_iff_getElem.2 fun i j hi' hj hij => ?_, fun x hx => ?_⟩
    · have := key (j - i - 1) i (by omega)
      rw [show i + (j - i - 1) + 1 = j by omega] at this
      simpa [hi', hj] using this
    · obtain ⟨i, hi', rfl⟩ := List.getElem_of_mem hx
      have := hat i hi'
      simp only [hi', getElem?_pos, Option.getD_some] at this
      omega
  · intro h
    refine risB_yes fun i hi' => ?_
    have h1 := h.get i hi'
    simp only [rgAt, Bool.and_eq_true, inB_iff, Bool.or_eq_true, decide_eq_true_eq, beq_iff_eq]
    refine ⟨⟨h1.1, by omega⟩, ?_⟩
    by_cases h0 : i = 0
    · exact .inl h0
    · right
      have := List.pairwise_iff_getElem.1 h.1 (i - 1) i (by omega) hi' (by omega)
      simpa [hi', show i - 1 < zs.length by omega] using this
theorem ris_ext {a b : List Int} (ha : a.Pairwise (· < ·)) (hb : b.Pairwise (· < ·)) (h : ∀ x, x ∈ a ↔ x ∈ b) : a = b := by
  induction a generalizing b with
  | nil =>
    cases b with
    | nil => rfl
    | cons y b => exact absurd ((h y).2 (List.mem_cons_self ..)) (by simp)
  | cons x a ih =>
    cases b with
    | nil => exact absurd ((h x).1 (List.mem_cons_self ..)) (by simp)
    | cons y b =>
      obtain ⟨a1, a2⟩ := List.pairwise_cons.1 ha
      obtain ⟨b1, b2⟩ := List.pairwise_cons.1 hb
      have e : x = y := by
        have h1 := (h x).1 (List.mem_cons_self ..)
        have h2 := (h y).2 (List.mem_cons_self ..)
        simp only [List.mem_cons] at h1 h2
        rcases h1 with h1 | h1
        · exact h1
        · rcases h2 with h2 | h2
          · exact h2.symm
          · have := b1 x h1; have := a1 y h2; omega
      subst e
      congr 1
      refine ih a2 b2 fun z => ?_
      have hz := h z
      simp only [List.mem_cons] at hz
      constructor
      · intro hm
        rcases hz.1 (.inr hm) with rfl | h'
        · have := a1 _ hm; omega
        · exact h'
      · intro hm
        rcases hz.2 (.inr hm) with rfl | h'
        · have := b1 _ hm; omega
        · exact h'

/-! ### Sets as numbers -/
def bitOr (s : Nat) (x : Int) : Nat := s ||| 2 ^ x.toNat
def setN (zs : List Int) : Nat := zs.foldl bitOr 0
theorem foldOr_bit (zs : List Int) (s j : Nat) : (zs.foldl bitOr s).testBit j = (s.testBit j || zs.any fun x => x.toNat == j) := by
  induction zs generalizing s with
  | nil => simp
  | cons x zs ih =>
    rw [List.foldl_cons, ih]
    simp only [bitOr, Nat.testBit_or, Nat.testBit_two_pow, List.any_cons, Bool.or_assoc]
    congr 2
theorem setN_bit (zs : List Int) (j : Nat) : (setN zs).testBit j = zs.any fun x => x.toNat == j := by
  unfold setN; rw [foldOr_bit]; simp
theorem setN_snoc (zs : List Int) (x : Int) : setN (zs ++ [x]) = setN zs ||| 2 ^ x.toNat := by simp [setN, bitOr]
theorem setN_nil : setN [] = 0 := rfl
theorem setN_mem {zs : List Int} {hi : Int} (h : Ris zs 0 hi) (j : Nat) : (setN zs).testBit j = decide ((j : Int) ∈ zs) := by
  rw [setN_bit, Bool.eq_iff_iff]
  simp only [List.any_eq_true, beq_iff_eq, decide_eq_true_eq]
  constructor
  · rintro ⟨x, hx, he⟩
    have := h.2 x hx
    rw [show (j : Int) = x by omega]; exact hx
  · intro hx; exact ⟨_, hx, by simp⟩
theorem setN_lt {zs : List Int} {m : Nat} (h : Ris zs 0 m) : setN zs < 2 ^ m := by
  refine Nat.lt_pow_two_of_testBit _ fun j hj => ?_
  rw [setN_mem h]
  simp only [decide_eq_false_iff_not]
  intro hx
  have := h.2 _ hx
  omega
/-- The numbers below m in a set. -/
def nums (s m : Nat) : List Int := ((List.range m).filter s.testBit).map fun i : Nat => (i : Int)
theorem mem_nums {s m : Nat} {x : Int} : x ∈ nums s m ↔ ∃ i : Nat, i < m ∧ s.testBit i = true ∧ x = i := by
  simp only [nums, List.mem_map, List.mem_filter, List.mem_range]
  exact ⟨fun ⟨i, ⟨h1, h2⟩, h3⟩ => ⟨i, h1, h2, h3.symm⟩, fun ⟨i, h1, h2, h3⟩ => ⟨i, ⟨h1, h2⟩, h3.symm⟩⟩
theorem nums_ris (s m : Nat) : Ris (nums s m) 0 m := by
  refine ⟨?_, fun x hx => ?_⟩
  · unfold nums
    rw [List.pairwise_map]
    exact (List.pairwise_lt_range.filter _).imp fun h => by omega
  · obtain ⟨i, hi, -, rfl⟩ := mem_nums.1 hx; omega
theorem nums_succ (s k : Nat) : nums s (k + 1) = nums s k ++ if s.testBit k then [(k : Int)] else [] := by
  unfold nums
  rw [List.range_succ, List.filter_append, List.map_append]
  cases h : s.testBit k <;> simp [h]
theorem nums_yes {s k : Nat} (h : s.testBit k = true) : nums s (k + 1) = nums s k ++ [(k : Int)] := by rw [nums_succ, if_pos h]
theorem nums_no {s k : Nat} (h : s.testBit k = false) : nums s (k + 1) = nums s k := by rw [nums_succ, if_neg (by simp [h]), List.append_nil]
theorem nums_len (s m : Nat) : (nums s m).length ≤ m := by
  unfold nums; rw [List.length_map]; exact Nat.le_trans (List.length_filter_le _ _) (by simp)
theorem nums_setN {zs : List Int} {m : Nat} (h : Ris zs 0 m) : nums (setN zs) m = zs := by
  refine ris_ext (nums_ris _ _).1 h.1 fun x => ?_
  rw [mem_nums]
  constructor
  · rintro ⟨i, hi, hb, rfl⟩
    rw [setN_mem h] at hb
    simpa using hb
  · intro hx
    have := h.2 x hx
    refine ⟨x.toNat, by omega, ?_, by omega⟩
    rw [setN_mem h]
    simp only [decide_eq_true_eq]
    rwa [show ((x.toNat : Nat) : Int) = x by omega]
theorem setN_nums {s m : Nat} (h : s < 2 ^ m) : setN (nums s m) = s := by
  refine Nat.eq_of_testBit_eq fun j => ?_
  rw [setN_mem (nums_ris s m), Bool.eq_iff_iff]
  simp only [decide_eq_true_eq, mem_nums]
  constructor
  · rintro ⟨i, -, hb, he⟩
    rw [show j = i by omega]; exact hb
  · intro hb
    refine ⟨j, ?_, hb, rfl⟩
    refine Nat.lt_of_not_le fun hmj => ?_
    rw [Nat.testBit_lt_two_pow (Nat.lt_of_lt_of_le h (Nat.pow_le_pow_right (by decide) hmj))] at hb
    cases hb
theorem nums_top {s m k : Nat} (h : s < 2 ^ m) (hk : m ≤ k) : nums s k = nums s m := by
  refine ris_ext (nums_ris _ _).1 (nums_ris _ _).1 fun x => ?_
  rw [mem_nums, mem_nums]
  constructor
  · rintro ⟨i, hi, hb, rfl⟩
    refine ⟨i, Nat.lt_of_not_le fun hmj => ?_, hb, rfl⟩
    rw [Nat.testBit_lt_two_pow (Nat.lt_of_lt_of_le h (Nat.pow_le_pow_right (by decide) hmj))] at hb
    cases hb
  · rintro ⟨i, hi, hb, rfl⟩
    exact ⟨i, by omega, hb, rfl⟩
/-- How many digits below m are one. -/
def popN (s m : Nat) : Nat := (nums s m).length

/-! ### How often a spot is seen -/
/-- Is spot j seen from site i? -/
def hsB (L : List (List Int)) (i j : Nat) : Bool := decide ((j : Int) ∈ rowAt L i)
def cntS (L : List (List Int)) (zs : List Int) (j : Nat) : Nat := zs.countP fun i => hsB L i.toNat j
def covB (L : List (List Int)) (n : Nat) (zs : List Int) (t : Nat) : Bool := (List.range n).all fun j => decide (t ≤ cntS L zs j)
theorem cntS_snoc (L : List (List Int)) (zs : List Int) (x : Int) (j : Nat) : cntS L (zs ++ [x]) j = cntS L zs j + if hsB L x.toNat j then 1 else 0 := by
  unfold cntS; rw [List.countP_append]; simp [List.countP_cons]
theorem cntS_le (L : List (List Int)) (zs : List Int) (j : Nat) : cntS L zs j ≤ zs.length := List.countP_le_length
theorem covB_iff {L : List (List Int)} {n t : Nat} {zs : List Int} : covB L n zs t = true ↔ ∀ j, j < n → t ≤ cntS L zs j := by
  simp [covB, List.all_eq_true]
theorem covB_no {L : List (List Int)} {n t : Nat} {zs : List Int} (j : Nat) (hj : j < n) (h : cntS L zs j < t) : covB L n zs t = false := by
  cases hc : covB L n zs t with
  | false => rfl
  | true => have := covB_iff.1 hc j hj; omega
/-- The first k sites that are in the set s and see spot j. -/
def cntT (L : List (List Int)) (s k j : Nat) : Nat := (List.range k).countP fun i => s.testBit i && hsB L i j
theorem cntT_succ (L : List (List Int)) (s k j : Nat) : cntT L s (k + 1) j = cntT L s k j + if s.testBit k && hsB L k j then 1 else 0 := by
  unfold cntT; rw [List.range_succ, List.countP_append]; simp [List.countP_cons]
theorem cntT_no {L : List (List Int)} {s k j : Nat} (h : s.testBit k = false) : cntT L s (k + 1) j = cntT L s k j := by rw [cntT_succ, h]; simp
theorem cntT_all (L : List (List Int)) (s m j : Nat) : cntT L s m j = cntS L (nums s m) j := by
  unfold cntT cntS nums
  rw [List.countP_map, List.countP_filter]
  congr 1
  funext i
  simp [Bool.and_comm]

/-- Valid sites. -/
structure StOk (L : List (List Int)) (n : Nat) : Prop where
  n1 : 1 ≤ n
  n2 : n ≤ 16
  m1 : 1 ≤ L.length
  m2 : L.length ≤ 12
  ris : ∀ i, Ris (rowAt L i) 0 n
def rowsTo (L : List (List Int)) (hi : Int) (k : Nat) : Bool := (List.range k).all fun i => risB (rowAt L i) 0 hi
def stB (L : List (List Int)) (n : Int) : Bool := inB n 1 16 && inB L.length 1 12 && rowsTo L (n - 1) L.length
theorem rowsTo_no {L : List (List Int)} {hi : Int} {k m : Nat} (hk : k < m) (h : risB (rowAt L k) 0 hi = false) : rowsTo L hi m = false := by
  unfold rowsTo; rw [List.all_eq_false]; exact ⟨k, by simpa using hk, by simp [h]⟩
theorem rowsTo_yes {L : List (List Int)} {hi : Int} {m : Nat} (h : ∀ i, i < m → risB (rowAt L i) 0 hi = true) : rowsTo L hi m = true := by
  unfold rowsTo; rw [List.all_eq_true]; intro i hi'; exact h i (by simpa using hi')
theorem stB_iff {L : List (List Int)} {n : Int} : stB L n = true ↔ StOk L n.toNat ∧ n = (n.toNat : Int) := by
  simp only [stB, Bool.and_eq_true, inB_iff, rowsTo, List.all_eq_true, List.mem_range]
  constructor
  · rintro ⟨⟨⟨h1, h2⟩, h3, h4⟩, h5⟩
    refine ⟨⟨by omega, by omega, by omega, by omega, fun i => ?_⟩, by omega⟩
    by_cases hi : i < L.length
    · have := risB_iff.1 (h5 i hi)
      rwa [← show n = (n.toNat : Int) by omega]
    · rw [rowAt_ge (by omega)]; exact Ris.nil _ _
  · rintro ⟨h, hn⟩
    have h1 := h.n1; have h2 := h.n2; have h3 := h.m1; have h4 := h.m2
    refine ⟨⟨⟨by omega, by omega⟩, by omega, by omega⟩, fun i hi => ?_⟩
    have := h.ris i
    rw [← hn] at this
    exact risB_iff.2 this
theorem StOk.iff {L : List (List Int)} {n : Nat} (h : StOk L n) : stB L n = true := stB_iff.2 ⟨by simpa using h, by simp⟩
/-- What is seen from site i. -/
def vw (L : List (List Int)) (i : Nat) : Nat := setN (rowAt L i)
theorem StOk.vw_bit {L : List (List Int)} {n : Nat} (h : StOk L n) (i j : Nat) : (vw L i).testBit j = hsB L i j := setN_mem (h.ris i) j
theorem StOk.vw_lt {L : List (List Int)} {n : Nat} (h : StOk L n) (i : Nat) : vw L i < 2 ^ n := setN_lt (h.ris i)
theorem StOk.hs_lt {L : List (List Int)} {n : Nat} (h : StOk L n) {i j : Nat} (hb : hsB L i j = true) : j < n := by
  have := (h.ris i).2 j (by simpa [hsB] using hb); omega
theorem hs_len {L : List (List Int)} {i j : Nat} (hb : hsB L i j = true) : i < L.length := by
  refine Nat.lt_of_not_le fun hl => ?_
  simp [hsB, rowAt_ge hl] at hb
theorem two16 {n : Nat} (h : n ≤ 16) : (2 : Nat) ^ n ≤ 65536 := by
  have := Nat.pow_le_pow_right (n := 2) (by decide) h; simpa using this
theorem two12 {n : Nat} (h : n ≤ 12) : (2 : Nat) ^ n ≤ 4096 := by
  have := Nat.pow_le_pow_right (n := 2) (by decide) h; simpa using this
theorem all_bit (m j : Nat) : (2 ^ m - 1 : Nat).testBit j = decide (j < m) := Nat.testBit_two_pow_sub_one ..

/-- What has been seen from the first k sites that are chosen: once in a, twice in b. -/
def SeenI (L : List (List Int)) (n s k a b : Nat) : Prop :=
  ∀ j, a.testBit j = (decide (j < n) && decide (1 ≤ cntT L s k j)) ∧ b.testBit j = (decide (j < n) && decide (2 ≤ cntT L s k j))
theorem SeenI.zero (L : List (List Int)) (n s : Nat) : SeenI L n s 0 0 0 := fun j => by simp [cntT]
theorem SeenI.skip {L : List (List Int)} {n s k a b : Nat} (h : SeenI L n s k a b) (hk : s.testBit k = false) : SeenI L n s (k + 1) a b := fun j => by rw [cntT_no hk]; exact h j
theorem SeenI.step {L : List (List Int)} {n s k a b : Nat} (ok : StOk L n) (h : SeenI L n s k a b) (hk : s.testBit k = true) :
    SeenI L n s (k + 1) (a ||| ((2 ^ n - 1) &&& vw L k)) (b ||| (a &&& vw L k)) := by
  intro j
  have hc := cntT_succ L s k j
  rw [hk, Bool.true_and] at hc
  have hl : hsB L k j = true → j < n := ok.hs_lt
  simp only [Nat.testBit_or, Nat.testBit_and, (h j).1, (h j).2, all_bit, ok.vw_bit]
  cases hb : hsB L k j with
  | false => rw [hb] at hc; simp at hc; simp [hc]
  | true =>
    rw [hb] at hc
    simp at hc
    have := hl hb
    simp [this, hc]
    omega
theorem SeenI.lt {L : List (List Int)} {n s k a b : Nat} (h : SeenI L n s k a b) : a < 2 ^ n ∧ b < 2 ^ n := by
  constructor
  · exact Nat.lt_pow_two_of_testBit _ fun j hj => by rw [(h j).1]; simp; omega
  · exact Nat.lt_pow_two_of_testBit _ fun j hj => by rw [(h j).2]; simp; omega
theorem SeenI.cov1 {L : List (List Int)} {n s m a b : Nat} (h : SeenI L n s m a b) : decide (a = 2 ^ n - 1) = covB L n (nums s m) 1 := by
  rw [Bool.eq_iff_iff, covB_iff, decide_eq_true_eq]
  constructor
  · intro e j hj
    have := (h j).1
    rw [e, all_bit, decide_eq_true hj, cntT_all] at this
    simpa using this.symm
  · intro hc
    refine Nat.eq_of_testBit_eq fun j => ?_
    rw [(h j).1, all_bit, cntT_all]
    by_cases hj : j < n
    · simp [hj, hc j hj]
    · simp [hj]
theorem SeenI.cov2 {L : List (List Int)} {n s m a b : Nat} (h : SeenI L n s m a b) : decide (b = 2 ^ n - 1) = covB L n (nums s m) 2 := by
  rw [Bool.eq_iff_iff, covB_iff, decide_eq_true_eq]
  constructor
  · intro e j hj
    have := (h j).2
    rw [e, all_bit, decide_eq_true hj, cntT_all] at this
    simpa using this.symm
  · intro hc
    refine Nat.eq_of_testBit_eq fun j => ?_
    rw [(h j).2, all_bit, cntT_all]
    by_cases hj : j < n
    · simp [hj, hc j hj]
    · simp [hj]
/-- The spots that are seen from chosen sites. -/
def seenL (L : List (List Int)) (n : Nat) (zs : List Int) : List Int := ((List.range n).filter fun j => decide (1 ≤ cntS L zs j)).map fun j : Nat => (j : Int)
theorem SeenI.seen {L : List (List Int)} {n s m a b : Nat} (h : SeenI L n s m a b) : nums a n = seenL L n (nums s m) := by
  unfold nums seenL
  congr 1
  refine List.filter_congr fun j hj => ?_
  simp only [List.mem_range] at hj
  rw [(h j).1, decide_eq_true hj, Bool.true_and, cntT_all]
  rfl
theorem seenL_len (L : List (List Int)) (n : Nat) (zs : List Int) : (seenL L n zs).length ≤ n := by
  unfold seenL; rw [List.length_map]; exact Nat.le_trans (List.length_filter_le _ _) (by simp)

/-! ### Apart -/
def apB (L : List (List Int)) (zs : List Int) : Bool := (List.range L.length).all fun i => decide (zs.countP (fun j => hsB L i j.toNat) ≤ 1)
theorem apB_iff {L : List (List Int)} {zs : List Int} : apB L zs = true ↔ ∀ i, i < L.length → zs.countP (fun j => hsB L i j.toNat) ≤ 1 := by simp [apB, List.all_eq_true]
theorem apB_app {L : List (List Int)} {a b : List Int} (h : apB L (a ++ b) = true) : apB L a = true := by
  rw [apB_iff] at h ⊢
  intro i hi
  have := h i hi
  rw [List.countP_append] at this
  omega
theorem apB_no {L : List (List Int)} {zs : List Int} (i : Nat) (hi : i < L.length) (h : 1 < zs.countP (fun j => hsB L i j.toNat)) : apB L zs = false := by
  cases hc : apB L zs with
  | false => rfl
  | true => have := apB_iff.1 hc i hi; omega
theorem pop_and {L : List (List Int)} {n i s m : Nat} (ok : StOk L n) : popN (vw L i &&& s) m = (nums s m).countP fun j => hsB L i j.toNat := by
  unfold popN nums
  rw [List.length_map, List.countP_map, List.countP_filter, ← List.countP_eq_length_filter]
  congr 1
  funext j
  simp [Nat.testBit_and, ok.vw_bit]

/-! ### The order of a dictionary -/
def lexB : List Int → List Int → Bool
  | x :: xs, y :: ys => if x = y then lexB xs ys else decide (x < y)
  | _, _ => false
theorem lexB_self (a : List Int) : lexB a a = false := by
  induction a with
  | nil => rfl
  | cons x a ih => simp [lexB, ih]
theorem lexB_pre (a d : List Int) : lexB (a ++ d) a = false ∧ lexB a (a ++ d) = false := by
  induction a with
  | nil => cases d <;> simp [lexB]
  | cons x a ih => simpa [lexB] using ih
theorem lexB_asymm {a b : List Int} (h : lexB a b = true) : lexB b a = false := by
  induction a generalizing b with
  | nil => simp [lexB] at h
  | cons x a ih =>
    cases b with
    | nil => simp [lexB] at h
    | cons y b =>
      unfold lexB at h ⊢
      by_cases e : x = y
      · subst e; rw [if_pos rfl] at h ⊢; exact ih h
      · rw [if_neg e] at h; rw [if_neg (Ne.symm e)]
        simp only [decide_eq_true_eq] at h
        simp only [decide_eq_false_iff_not]; omega
theorem lexB_trans {a b c : List Int} (h : lexB a b = true) (h' : lexB b c = true) : lexB a c = true := by
  induction a generalizing b c with
  | nil => simp [lexB] at h
  | cons x a ih =>
    cases b with
    | nil => simp [lexB] at h
    | cons y b =>
      cases c with
      | nil => simp [lexB] at h'
      | cons z c =>
        unfold lexB at h h' ⊢
        by_cases e : x = y
        · subst e
          rw [if_pos rfl] at h
          by_cases e' : x = z
          · subst e'; rw [if_pos rfl] at h' ⊢; exact ih h h'
          · rw [if_neg e'] at h' ⊢; exact h'
        · rw [if_neg e] at h
          simp only [decide_eq_true_eq] at h
          by_cases e' : y = z
          · subst e'; rw [if_neg e]; simpa using h
          · rw [if_neg e'] at h'
            simp only [decide_eq_true_eq] at h'
            rw [if_neg (by omega)]; simp; omega
theorem lexB_total {a b : List Int} (hl : a.length = b.length) (h : lexB a b = false) (h' : lexB b a = false) : a = b := by
  induction a generalizing b with
  | nil => cases b with
           | nil => rfl
           | cons y b => simp at hl
  | cons x a ih =>
    cases b with
    | nil => simp at hl
    | cons y b =>
      unfold lexB at h h'
      by_cases e : x = y
      · subst e
        rw [if_pos rfl] at h h'
        rw [ih (by simpa using hl) h h']
      · rw [if_neg e] at h; rw [if_neg (Ne.symm e)] at h'
        simp at h h'; omega
theorem lexB_at {a b : List Int} (i : Nat) (h1 : i < a.length) (h2 : i < b.length) (hp : ∀ j, j < i → a[j]?.getD 0 = b[j]?.getD 0) (hne : ¬ a[i]?.getD 0 = b[i]?.getD 0) : lexB a b = decide (a[i]?.getD 0 < b[i]?.getD 0) := by
  induction i generalizing a b with
  | zero =>
    cases a with
    | nil => simp at h1
    | cons x a => cases b with
                  | nil => simp at h2
                  | cons y b => simp only [List.getElem?_cons_zero, Option.getD_some] at hne ⊢
                                unfold lexB; rw [if_neg hne]
  | succ i ih =>
    cases a with
    | nil => simp at h1
    | cons x a => cases b with
                  | nil => simp at h2
                  | cons y b =>
                    have e : x = y := by simpa using hp 0 (by omega)
                    subst e
                    unfold lexB; rw [if_pos rfl]
                    simp only [List.getElem?_cons_succ] at hne ⊢
                    refine ih (by simpa using h1) (by simpa using h2) (fun j hj => ?_) hne
                    simpa using hp (j + 1) (by omega)
theorem lexB_eq {a b : List Int} (hl : a.length = b.length) (hp : ∀ j, j < a.length → a[j]?.getD 0 = b[j]?.getD 0) : lexB a b = false := by
  have : a = b := by
    apply List.ext_getElem hl
    intro i h1 h2
    have := hp i h1
    simpa [h1, h2] using this
  rw [this]; exact lexB_self _
theorem lexB_snoc {a c : List Int} (x : Int) (h : lexB a c = true) : lexB (a ++ [x]) c = true := by
  induction a generalizing c with
  | nil => simp [lexB] at h
  | cons y a ih =>
    cases c with
    | nil => simp [lexB] at h
    | cons z c =>
      rw [List.cons_append]
      unfold lexB at h ⊢
      by_cases e : y = z
      · subst e; rw [if_pos rfl] at h ⊢; exact ih h
      · rw [if_neg e] at h ⊢; exact h
theorem lexB_snoc_lt (a : List Int) (x y : Int) (d : List Int) (h : x < y) : lexB (a ++ [x]) (a ++ y :: d) = true := by
  induction a with
  | nil => simp [lexB]; omega
  | cons z a ih => simpa [lexB] using ih
/-- A list behind l ++ [x] in the order is behind l, or goes on from l with a greater number. -/
theorem lexB_init {l c : List Int} {x : Int} (h : lexB (l ++ [x]) c = true) : lexB l c = true ∨ ∃ y d, c = l ++ y :: d ∧ x < y := by
  induction l generalizing c with
  | nil =>
    cases c with
    | nil => simp [lexB] at h
    | cons y c =>
      simp only [List.nil_append] at h
      unfold lexB at h
      by_cases e : x = y
      · rw [if_pos e] at h
        cases c <;> simp [lexB] at h
      · rw [if_neg e] at h
        exact .inr ⟨y, c, rfl, by simpa using h⟩
  | cons z l ih =>
    cases c with
    | nil => simp [lexB] at h
    | cons y c =>
      rw [List.cons_append] at h
      unfold lexB at h
      by_cases e : z = y
      · subst e
        rw [if_pos rfl] at h
        rcases ih h with h' | ⟨y, d, rfl, hy⟩
        · left; unfold lexB; rw [if_pos rfl]; exact h'
        · exact .inr ⟨y, d, rfl, hy⟩
      · rw [if_neg e] at h
        left; unfold lexB; rw [if_neg e]; exact h

/-! ### The first numbers that are good -/
/-- What a search for 'size' numbers below m finds. -/
def FN (P : List Int → Bool) (size m : Nat) (r : Option (List Int)) : Prop :=
  match r with
  | none => ∀ c, Ris c 0 m → c.length = size → P c = false
  | some l => Ris l 0 m ∧ l.length = size ∧ P l = true ∧ ∀ c, Ris c 0 m → c.length = size → P c = true → lexB c l = false
def Ahead (l : List Int) (next : Int) (c : List Int) : Prop := (∃ d, c = l ++ d ∧ ∀ x ∈ d, next ≤ x) ∨ lexB l c = true
/-- What holds while one searches: all that is good lies ahead. -/
structure FnI (P : List Int → Bool) (size m : Nat) (l : List Int) (next : Nat) : Prop where
  ris : Ris l 0 next
  nm : next ≤ m
  len : l.length ≤ size
  ahead : ∀ c, Ris c 0 m → c.length = size → P c = true → Ahead l next c
theorem FnI.start (P : List Int → Bool) (size m : Nat) : FnI P size m [] 0 :=
  ⟨Ris.nil _ _, Nat.zero_le _, Nat.zero_le _, fun c hc _ _ => .inl ⟨c, rfl, fun x hx => (hc.2 x hx).1⟩⟩
theorem FnI.found {P : List Int → Bool} {size m next : Nat} {l : List Int} (h : FnI P size m l next) (hl : l.length = size) (hp : P l = true) : FN P size m (some l) := by
  refine ⟨h.ris.wide (Int.le_refl _) (by have := h.nm; omega), hl, hp, fun c hc hcl hcp => ?_⟩
  rcases h.ahead c hc hcl hcp with ⟨d, rfl, -⟩ | h'
  · exact (lexB_pre l d).1
  · exact lexB_asymm h'
theorem FnI.push {P : List Int → Bool} {size m next : Nat} {l : List Int} (h : FnI P size m l next) (hl : l.length < size) (hn : next + (size - l.length) ≤ m) : FnI P size m (l ++ [(next : Int)]) (next + 1) := by
  refine ⟨h.ris.snoc (by omega) (by omega), by omega, by simp; omega, fun c hc hcl hcp => ?_⟩
  rcases h.ahead c hc hcl hcp with ⟨d, rfl, hd⟩ | h'
  · cases d with
    | nil => simp at hcl; omega
    | cons y d =>
      have hy := hd y (List.mem_cons_self ..)
      by_cases e : y = next
      · subst e
        refine .inl ⟨d, by simp, fun x hx => ?_⟩
        have := (List.pairwise_cons.1 hc.app.2.1).1 x hx
        omega
      · exact .inr (lexB_snoc_lt l next y d (by omega))
  · exact .inr (lexB_snoc _ h')
theorem FnI.gone {P : List Int → Bool} {size m next : Nat} {l : List Int} (h : FnI P size m l next) (hx : (l.length = size ∧ P l = false) ∨ (l.length < size ∧ m < next + (size - l.length))) :
    ∀ c, Ris c 0 m → c.length = size → P c = true → lexB l c = true := by
  intro c hc hcl hcp
  rcases h.ahead c hc hcl hcp with ⟨d, rfl, hd⟩ | h'
  · rcases hx with ⟨h1, h2⟩ | ⟨h1, h2⟩
    · have : d = [] := List.eq_nil_of_length_eq_zero (by simp at hcl; omega)
      subst this
      simp [h2] at hcp
    · have h3 := hc.app.2
      have h4 : Ris d next m := ⟨h3.1, fun x hx => ⟨hd x hx, (h3.2 x hx).2⟩⟩
      have := h4.len (by have := h.nm; omega)
      simp at hcl; omega
  · exact h'
theorem FnI.none {P : List Int → Bool} {size m next : Nat} (h : FnI P size m [] next) (hx : (0 = size ∧ P [] = false) ∨ (0 < size ∧ m < next + size)) : FN P size m none := by
  intro c hc hcl
  cases hp : P c with
  | false => rfl
  | true =>
    have := h.gone (by simpa using hx) c hc hcl hp
    simp [lexB] at this
theorem FnI.pop {P : List Int → Bool} {size m next : Nat} {l : List Int} {x : Nat} (h : FnI P size m (l ++ [(x : Int)]) next) (hx : ((l ++ [(x : Int)]).length = size ∧ P (l ++ [(x : Int)]) = false) ∨ ((l ++ [(x : Int)]).length < size ∧ m < next + (size - (l ++ [(x : Int)]).length))) :
    FnI P size m l (x + 1) := by
  have hi := h.ris.init
  have hnm := h.nm
  have hlen := h.len
  simp at hlen
  refine ⟨hi.1.wide (Int.le_refl _) (by omega), by omega, by omega, fun c hc hcl hcp => ?_⟩
  rcases lexB_init (h.gone hx c hc hcl hcp) with h' | ⟨y, d, rfl, hy⟩
  · exact .inr h'
  · refine .inl ⟨y :: d, rfl, fun z hz => ?_⟩
    have h3 := hc.app.2.1
    simp only [List.mem_cons] at hz
    rcases hz with rfl | hz
    · omega
    · have := (List.pairwise_cons.1 h3).1 z hz; omega
/-- What is still to be done. -/
def fnW (m next : Nat) (l : List Int) : Nat := 3 ^ (m - next) + (l.map fun x => 3 ^ (m - (x.toNat + 1))).sum
theorem fnW_push {m next : Nat} {l : List Int} (h : next < m) : fnW m (next + 1) (l ++ [(next : Int)]) < fnW m next l := by
  unfold fnW
  simp only [List.map_append, List.map_cons, List.map_nil, List.sum_append, List.sum_cons, List.sum_nil, Int.toNat_natCast]
  have e : m - next = (m - (next + 1)) + 1 := by omega
  rw [e, Nat.pow_succ]
  have := Nat.pow_pos (n := m - (next + 1)) (show 0 < 3 by decide)
  omega
theorem fnW_pop (m next x : Nat) (l : List Int) : fnW m (x + 1) l < fnW m next (l ++ [(x : Int)]) := by
  unfold fnW
  simp only [List.map_append, List.map_cons, List.map_nil, List.sum_append, List.sum_cons, List.sum_nil, Int.toNat_natCast]
  have := Nat.pow_pos (n := m - next) (show 0 < 3 by decide)
  omega

/-! ### The least ones of all -/
def Bet (a b : List Int) : Prop := a.length < b.length ∨ (a.length = b.length ∧ lexB a b = true)
theorem Bet.trans {a b c : List Int} (h : Bet a b) (h' : Bet b c) : Bet a c := by
  rcases h with h | ⟨h, h1⟩ <;> rcases h' with h' | ⟨h', h2⟩
  · exact .inl (by omega)
  · exact .inl (by omega)
  · exact .inl (by omega)
  · exact .inr ⟨by omega, lexB_trans h1 h2⟩
def betB (a b : List Int) : Bool := decide (a.length < b.length) || (a.length == b.length && lexB a b)
theorem betB_iff {a b : List Int} : betB a b = true ↔ Bet a b := by simp [betB, Bet]
/-- The best one among the sets below k. -/
def lcStep (P : List Int → Bool) (m : Nat) (best : Option (List Int)) (s : Nat) : Option (List Int) :=
  if P (nums s m) then (match best with | none => some (nums s m) | some b => if betB (nums s m) b then some (nums s m) else some b) else best
def lcTo (P : List Int → Bool) (m k : Nat) : Option (List Int) := (List.range k).foldl (lcStep P m) none
theorem lcTo_succ (P : List Int → Bool) (m k : Nat) : lcTo P m (k + 1) = lcStep P m (lcTo P m k) k := by simp [lcTo, List.range_succ]
def IsL (P : List Int → Bool) (m k : Nat) (r : Option (List Int)) : Prop :=
  match r with
  | none => ∀ s, s < k → P (nums s m) = false
  | some c => (∃ s, s < k ∧ c = nums s m) ∧ P c = true ∧ ∀ s, s < k → P (nums s m) = true → ¬ Bet (nums s m) c
theorem lcTo_is (P : List Int → Bool) (m k : Nat) : IsL P m k (lcTo P m k) := by
  induction k with
  | zero => exact fun s hs => absurd hs (by omega)
  | succ k ih =>
    rw [lcTo_succ]
    unfold lcStep
    cases hp : P (nums k m) with
    | false =>
      rw [if_neg (by decide)]
      generalize lcTo P m k = r at ih ⊢
      cases r with
      | none => exact fun s hs => by
                  by_cases e : s = k
                  · rw [e]; exact hp
                  · exact ih s (by omega)
      | some c =>
        obtain ⟨⟨s0, hs0, h0⟩, h1, h2⟩ := ih
        exact ⟨⟨s0, by omega, h0⟩, h1, fun s hs hps => by
          by_cases e : s = k
          · rw [e, hp] at hps; cases hps
          · exact h2 s (by omega) hps⟩
    | true =>
      rw [if_pos rfl]
      generalize lcTo P m k = r at ih ⊢
      cases r with
      | none =>
        refine ⟨⟨k, by omega, rfl⟩, hp, fun s hs hps => ?_⟩
        by_cases e : s = k
        · subst e; rintro (h | ⟨-, h⟩)
          · omega
          · rw [lexB_self] at h; cases h
        · rw [ih s (by omega)] at hps; cases hps
      | some c =>
        obtain ⟨⟨s0, hs0, h0⟩, h1, h2⟩ := ih
        show IsL P m (k + 1) (if betB (nums k m) c = true then some (nums k m) else some c)
        cases hb : betB (nums k m) c with
        | false =>
          rw [if_neg (by decide)]
          exact ⟨⟨s0, by omega, h0⟩, h1, fun s hs hps => by
            by_cases e : s = k
            · rw [e]; intro hB; rw [betB_iff.2 hB] at hb; cases hb
            · exact h2 s (by omega) hps⟩
        | true =>
          rw [if_pos rfl]
          refine ⟨⟨k, by omega, rfl⟩, hp, fun s hs hps => ?_⟩
          by_cases e : s = k
          · subst e; rintro (h | ⟨-, h⟩)
            · omega
            · rw [lexB_self] at h; cases h
          · exact fun hB => h2 s (by omega) hps (hB.trans (betB_iff.1 hb))
theorem IsL.unique {P : List Int → Bool} {m k : Nat} {r r' : Option (List Int)} (h : IsL P m k r) (h' : IsL P m k r') : r = r' := by
  cases r with
  | none =>
    cases r' with
    | none => rfl
    | some c =>
      obtain ⟨⟨s, hs, rfl⟩, h1, -⟩ := h'
      rw [h s hs] at h1; cases h1
  | some c =>
    cases r' with
    | none =>
      obtain ⟨⟨s, hs, rfl⟩, h1, -⟩ := h
      rw [h' s hs] at h1; cases h1
    | some c' =>
      obtain ⟨⟨s, hs, rfl⟩, h1, h2⟩ := h
      obtain ⟨⟨s', hs', rfl⟩, h1', h2'⟩ := h'
      have a1 := h2 s' hs' h1'
      have a2 := h2' s hs h1
      simp only [Bet, not_or, not_and, Bool.not_eq_true] at a1 a2
      have hl : (nums s m).length = (nums s' m).length := by omega
      rw [lexB_total hl (a2.2 hl) (a1.2 hl.symm)]
/-- A search by sizes finds the least one. -/
theorem isL_of_found {P : List Int → Bool} {m size : Nat} {l : List Int} (hf : FN P size m (some l)) (hs : ∀ k, k < size → FN P k m none) : lcTo P m (2 ^ m) = some l := by
  refine (lcTo_is P m _).unique (show IsL P m (2 ^ m) (some l) from ?_)
  obtain ⟨h1, h2, h3, h4⟩ := hf
  refine ⟨⟨setN l, setN_lt h1, (nums_setN h1).symm⟩, h3, fun s hs' hp => ?_⟩
  rintro (h | ⟨h, h'⟩)
  · rw [hs _ (by rw [← h2]; exact h) _ (nums_ris s m) rfl] at hp; cases hp
  · rw [h4 _ (nums_ris s m) (by omega) hp] at h'; cases h'
theorem isL_of_none {P : List Int → Bool} {m : Nat} (hs : ∀ k, k < m + 1 → FN P k m none) : lcTo P m (2 ^ m) = none := by
  refine (lcTo_is P m _).unique (show IsL P m (2 ^ m) none from fun s _ => ?_)
  exact hs (nums s m).length (by have := nums_len s m; omega) _ (nums_ris s m) rfl

/-! ### The most ones that are apart -/
/-- The best way on from 'have' with numbers from 'from' on. -/
structure MaI (L : List (List Int)) (n : Nat) (have_ : List Int) (from_ spot : Nat) (d : List Int) : Prop where
  ris : Ris d from_ n
  hd : d = [] ∨ d.headD 0 < spot
  ap : apB L (have_ ++ d) = true
  best : ∀ e, Ris e from_ n → (e = [] ∨ e.headD 0 < spot) → apB L (have_ ++ e) = true → e.length ≤ d.length ∧ (e.length = d.length → lexB e d = false)
theorem MaI.start {L : List (List Int)} {n from_ : Nat} {have_ : List Int} (ha : apB L have_ = true) : MaI L n have_ from_ from_ [] :=
  ⟨Ris.nil _ _, .inl rfl, by simpa using ha, fun e he h0 _ => by
    rcases h0 with rfl | h0
    · exact ⟨Nat.le_refl _, fun _ => rfl⟩
    · cases e with
      | nil => exact ⟨Nat.le_refl _, fun _ => rfl⟩
      | cons x e => have := he.head; simp at h0; omega⟩
/-- With fewer numbers left than would be needed nothing better comes. -/
theorem MaI.stop {L : List (List Int)} {n from_ spot : Nat} {have_ d : List Int} (h : MaI L n have_ from_ spot d) (hs : from_ ≤ spot) (hsn : spot ≤ n) (hl : n - spot ≤ d.length) : ∀ e, Ris e from_ n → apB L (have_ ++ e) = true → e.length ≤ d.length ∧ (e.length = d.length → lexB e d = false) := by
  intro e he hap
  by_cases h0 : e = [] ∨ e.headD 0 < spot
  · exact h.best e he h0 hap
  · cases e with
    | nil => exact absurd (.inl rfl) h0
    | cons x e =>
      have hx : (spot : Int) ≤ x := by simp at h0; omega
      have h1 : Ris (x :: e) x n := ⟨he.1, fun y hy => ⟨by
        simp only [List.mem_cons] at hy
        rcases hy with rfl | hy
        · exact Int.le_refl _
        · have := (List.pairwise_cons.1 he.1).1 y hy; omega, (he.2 y hy).2⟩⟩
      have h2 := h1.len (by have := he.head; omega)
      refine ⟨by omega, fun hle => ?_⟩
      cases d with
      | nil => simp at hle
      | cons y d =>
        have hy : y < spot := by
          rcases h.hd with h3 | h3
          · cases h3
          · simpa using h3
        unfold lexB
        rw [if_neg (by omega)]
        simp; omega
theorem MaI.skip {L : List (List Int)} {n from_ spot : Nat} {have_ d : List Int} (h : MaI L n have_ from_ spot d) (hx : apB L (have_ ++ [(spot : Int)]) = false) : MaI L n have_ from_ (spot + 1) d := by
  refine ⟨h.ris, by rcases h.hd with h1 | h1
                    · exact .inl h1
                    · exact .inr (by omega), h.ap, fun e he h0 hap => ?_⟩
  cases e with
  | nil => exact h.best _ he (.inl rfl) hap
  | cons x e =>
    by_cases hxs : x = spot
    · subst hxs
      have : apB L (have_ ++ [(spot : Int)]) = true := apB_app (b := e) (by simpa using hap)
      rw [this] at hx; cases hx
    · exact h.best _ he (.inr (by rcases h0 with h0 | h0
                                  · cases h0
                                  · simp at h0 ⊢; omega)) hap
/-- The best way on through 'spot', and what becomes of the best one. -/
theorem MaI.step {L : List (List Int)} {n from_ spot : Nat} {have_ d r : List Int} (h : MaI L n have_ from_ spot d) (hs : from_ ≤ spot) (hsn : spot < n)
    (hr : Ris r (spot + 1 : Nat) n) (hra : apB L (have_ ++ [(spot : Int)] ++ r) = true) (hb : ∀ e, Ris e (spot + 1 : Nat) n → apB L (have_ ++ [(spot : Int)] ++ e) = true → e.length ≤ r.length ∧ (e.length = r.length → lexB e r = false)) :
    MaI L n have_ from_ (spot + 1) (if d.length < r.length + 1 then (spot : Int) :: r else d) := by
  have key : ∀ e, Ris ((spot : Int) :: e) from_ n → apB L (have_ ++ (spot : Int) :: e) = true → e.length ≤ r.length ∧ (e.length = r.length → lexB e r = false) := fun e he hap =>
    hb e (by have := he.tail; simpa using this) (by simpa using hap)
  have hd' : d = [] ∨ d.headD 0 < spot := h.hd
  by_cases hlt : d.length < r.length + 1
  · rw [if_pos hlt]
    refine ⟨⟨List.pairwise_cons.2 ⟨fun x hx => by have := hr.2 x hx; omega, hr.1⟩, fun x hx => ?_⟩, .inr (by simp; omega), by simpa using hra, fun e he h0 hap => ?_⟩
    · simp only [List.mem_cons] at hx
      rcases hx with rfl | hx
      · omega
      · have := hr.2 x hx; omega
    · cases e with
      | nil => exact ⟨Nat.zero_le _, fun h => by simp at h⟩
      | cons x e =>
        by_cases hxs : x = spot
        · subst hxs
          have := key e he hap
          refine ⟨by simp; omega, fun hle => ?_⟩
          unfold lexB; rw [if_pos rfl]
          exact this.2 (by simpa using hle)
        · have := h.best (x :: e) he (.inr (by rcases h0 with h0 | h0
                                               · cases h0
                                               · simp at h0 ⊢; omega)) hap
          simp only [List.length_cons] at this ⊢
          exact ⟨by omega, fun hle => by omega⟩
  · rw [if_neg hlt]
    refine ⟨h.ris, by rcases h.hd with h1 | h1
                      · exact .inl h1
                      · exact .inr (by omega), h.ap, fun e he h0 hap => ?_⟩
    cases e with
    | nil => exact h.best _ he (.inl rfl) hap
    | cons x e =>
      by_cases hxs : x = spot
      · subst hxs
        have := key e he hap
        refine ⟨by simp; omega, fun hle => ?_⟩
        cases d with
        | nil => simp at hlt
        | cons y d =>
          have hy : y < spot := by
            rcases hd' with h3 | h3
            · cases h3
            · simpa using h3
          unfold lexB; rw [if_neg (by omega)]; simp; omega
      · exact h.best _ he (.inr (by rcases h0 with h0 | h0
                                    · cases h0
                                    · simp at h0 ⊢; omega)) hap
/-- The most numbers that are apart, the first of several. -/
def IsMost (L : List (List Int)) (n : Nat) (r : List Int) : Prop :=
  Ris r 0 n ∧ apB L r = true ∧ ∀ e, Ris e 0 n → apB L e = true → e.length ≤ r.length ∧ (e.length = r.length → lexB e r = false)
theorem IsMost.unique {L : List (List Int)} {n : Nat} {r r' : List Int} (h : IsMost L n r) (h' : IsMost L n r') : r = r' := by
  obtain ⟨h1, h2, h3⟩ := h
  obtain ⟨h1', h2', h3'⟩ := h'
  have a := h3 r' h1' h2'
  have b := h3' r h1 h2
  have hl : r.length = r'.length := by omega
  exact lexB_total hl (b.2 hl) (a.2 hl.symm)
theorem isMost_of_found {L : List (List Int)} {n size : Nat} {l : List Int} (hf : FN (apB L) size n (some l)) (hs : ∀ k, size < k → k ≤ n → FN (apB L) k n none) : IsMost L n l := by
  obtain ⟨h1, h2, h3, h4⟩ := hf
  refine ⟨h1, h3, fun e he hap => ?_⟩
  have hle : e.length ≤ size := by
    refine Nat.le_of_not_lt fun hlt => ?_
    have hn := he.len (by omega)
    rw [hs e.length hlt (by omega) e he rfl] at hap; cases hap
  exact ⟨by omega, fun hq => h4 e he (by omega) hap⟩
theorem ap_single (L : List (List Int)) (x : Int) : apB L [x] = true := apB_iff.2 fun i _ => by
  have := List.countP_le_length (p := fun j : Int => hsB L i j.toNat) (l := [x]); simpa using this
end Go.Proofs.Ytpmdjdlojbpcfaa
