/- Chapter 3: the program's steps over letters. -/
import Derived.Test.YtpogpehbkgjiaaaSpM
namespace Go.Proofs.Ytpogpehbkgjiaaa
open Go.RowKit
set_option linter.unusedSimpArgs false
set_option linter.unusedVariables false

/-- A text stands at a place of letters. -/
def fitT (t s : ByteArray) (a : Nat) : Bool := decide (a + t.size ≤ s.size) && decide ((s.extract a (a + t.size)).data.toList = t.data.toList)
theorem fitT_le {t s : ByteArray} {a : Nat} (h : fitT t s a = true) : a + t.size ≤ s.size ∧ (s.extract a (a + t.size)).data.toList = t.data.toList := by simpa [fitT] using h
def txSt (ps : List Ph) (sel : Nat → Bool) (s : ByteArray) (a : Nat) : List St := stepsOf (fun i => sel i && fitT (phAt ps i).txt s a) (fun i => a + (phAt ps i).txt.size) ps.length
def endTo (ps : List Ph) (sel : Nat → Bool) (s : ByteArray) (a q : Nat) : List St := (List.range q).filterMap fun d => (lookI ps sel (s.extract a (a + 1 + d)).data.toList).map fun i => (i, a + 1 + d)
theorem endTo_yes {ps : List Ph} {sel : Nat → Bool} {s : ByteArray} {a q i : Nat} (h : lookI ps sel (s.extract a (a + 1 + q)).data.toList = some i) : endTo ps sel s a (q + 1) = endTo ps sel s a q ++ [(i, a + 1 + q)] := by
  unfold endTo
  rw [List.range_succ, List.filterMap_append]
  simp only [List.filterMap_cons, List.filterMap_nil, h, Option.map_some]
theorem endTo_no {ps : List Ph} {sel : Nat → Bool} {s : ByteArray} {a q : Nat} (h : lookI ps sel (s.extract a (a + 1 + q)).data.toList = none) : endTo ps sel s a (q + 1) = endTo ps sel s a q := by
  unfold endTo
  rw [List.range_succ, List.filterMap_append]
  simp only [List.filterMap_cons, List.filterMap_nil, h, Option.map_none, List.append_nil]
theorem endTo_len (ps : List Ph) (sel : Nat → Bool) (s : ByteArray) (a q : Nat) : (endTo ps sel s a q).length ≤ q := by
  have := List.length_filterMap_le (fun d => (lookI ps sel (s.extract a (a + 1 + d)).data.toList).map fun i => (i, a + 1 + d)) (List.range q)
  simpa [endTo] using this
theorem endTo_mem {ps : List Ph} {sel : Nat → Bool} {s : ByteArray} {a q : Nat} {x : St} (h : x ∈ endTo ps sel s a q) : ∃ d, d < q ∧ x.2 = a + 1 + d ∧ lookI ps sel (s.extract a (a + 1 + d)).data.toList = some x.1 := by
  simp only [endTo, List.mem_filterMap, List.mem_range, Option.map_eq_some_iff] at h
  obtain ⟨d, hd, i, hi, rfl⟩ := h
  exact ⟨d, hd, rfl, hi⟩
theorem mem_endTo {ps : List Ph} {sel : Nat → Bool} {s : ByteArray} {a q d i : Nat} (hd : d < q) (h : lookI ps sel (s.extract a (a + 1 + d)).data.toList = some i) : (i, a + 1 + d) ∈ endTo ps sel s a q := by
  simp only [endTo, List.mem_filterMap, List.mem_range, Option.map_eq_some_iff]
  exact ⟨d, hd, i, h, rfl⟩

/-! ### The two lists are one -/
def SortedSt (l : List St) : Prop := l.Pairwise fun x y => x.1 < y.1
theorem sorted_eq : ∀ (l l' : List St), SortedSt l → SortedSt l' → (∀ x, x ∈ l ↔ x ∈ l') → l = l'
  | [], [], _, _, _ => rfl
  | [], y :: l', _, _, h => by have := (h y).2 (by simp); simp at this
  | x :: l, [], _, _, h => by have := (h x).1 (by simp); simp at this
  | x :: l, y :: l', h1, h2, h => by
    have a1 := List.pairwise_cons.1 h1
    have a2 := List.pairwise_cons.1 h2
    have hxy : x = y := by
      have hx := (h x).1 (by simp)
      have hy := (h y).2 (by simp)
      rcases List.mem_cons.1 hx with e | e
      · exact e
      · rcases List.mem_cons.1 hy with e' | e'
        · exact e'.symm
        · have := a1.1 y e'; have := a2.1 x e; omega
    subst hxy
    rw [sorted_eq l l' a1.2 a2.2 fun z => ?_]
    constructor
    · intro hz
      rcases List.mem_cons.1 ((h z).1 (by simp [hz])) with e | e
      · have := a1.1 z hz; rw [e] at this; omega
      · exact e
    · intro hz
      rcases List.mem_cons.1 ((h z).2 (by simp [hz])) with e | e
      · have := a2.1 z hz; rw [e] at this; omega
      · exact e
theorem stepsOf_sorted (fits : Nat → Bool) (en : Nat → Nat) : ∀ m, SortedSt (stepsOf fits en m)
  | 0 => by simp [stepsOf, SortedSt]
  | m + 1 => by
    have ih := stepsOf_sorted fits en m
    cases hf : fits m with
    | false => rw [stepsOf_no hf]; exact ih
    | true =>
      rw [stepsOf_yes hf]
      refine List.pairwise_append.2 ⟨ih, by simp, ?_⟩
      intro x hx y hy
      simp at hy
      subst hy
      exact (stepsOf_mem hx).1
theorem bl_prefix : ∀ (l : List UInt8) (k m : Nat), k < m → m ≤ l.length → Op.bytesLess (l.take k) (l.take m) = true
  | [], k, m, h1, h2 => by simp at h2; omega
  | x :: l, k, m, h1, h2 => by
    obtain ⟨m', rfl⟩ : ∃ m', m = m' + 1 := ⟨m - 1, by omega⟩
    cases k with
    | zero => simp [Op.bytesLess]
    | succ k =>
      simp only [List.take_succ_cons]
      rw [bl_cons]
      exact .inr ⟨rfl, bl_prefix l k m' (by omega) (by simpa using h2)⟩
theorem ext_take (s : ByteArray) (a d : Nat) : (s.extract a (a + d)).data.toList = (s.data.toList.drop a).take d := by
  simp [ByteArray.data_extract, List.drop_take]
theorem lessB_order {ps : List Ph} (hb : bookB ps = true) {i j : Nat} (hi : i < ps.length) (hj : j < ps.length) (h : lessB (phAt ps i).txt (phAt ps j).txt = true) : i < j := by
  have hin := bookB_incr hb
  rcases Nat.lt_trichotomy i j with e | e | e
  · exact e
  · subst e; rw [lessB_irrefl] at h; cases h
  · have := lessB_trans h (hin.mono e hi); rw [lessB_irrefl] at this; cases this
theorem endTo_sorted {ps : List Ph} {sel : Nat → Bool} {s : ByteArray} {a : Nat} (hb : bookB ps = true) : ∀ q, a + q ≤ s.size → SortedSt (endTo ps sel s a q)
  | 0, _ => by simp [endTo, SortedSt]
  | q + 1, hq => by
    have ih := endTo_sorted (sel := sel) (s := s) (a := a) hb q (by omega)
    cases hl : lookI ps sel (s.extract a (a + 1 + q)).data.toList with
    | none => rw [endTo_no hl]; exact ih
    | some i =>
      rw [endTo_yes hl]
      refine List.pairwise_append.2 ⟨ih, by simp, ?_⟩
      intro x hx y hy
      simp at hy
      subst hy
      obtain ⟨d, hd, h2, h3⟩ := endTo_mem hx
      obtain ⟨h4, -, h5⟩ := lookI_some h3
      obtain ⟨h6, -, h7⟩ := lookI_some hl
      refine lessB_order hb h4 h6 ?_
      rw [lessB_data, h5, h7, Nat.add_assoc, Nat.add_assoc, ext_take, ext_take]
      have hsz : s.data.toList.length = s.size := by simp
      refine bl_prefix _ _ _ (by omega) ?_
      rw [List.length_drop, hsz]; omega
theorem endTo_is {ps : List Ph} {sel : Nat → Bool} {s : ByteArray} {a M : Nat} (hb : bookB ps = true) (ha : a ≤ s.size) (hM : M = min 12 (s.size - a)) : endTo ps sel s a M = txSt ps sel s a := by
  refine sorted_eq _ _ (endTo_sorted hb M (by omega)) (stepsOf_sorted _ _ _) fun x => ?_
  constructor
  · intro hx
    obtain ⟨d, hd, h2, h3⟩ := endTo_mem hx
    obtain ⟨h4, h5, h6⟩ := lookI_some h3
    have hsz : (phAt ps x.1).txt.size = 1 + d := by
      have h7 := congrArg List.length h6
      simp only [Array.length_toList, ByteArray.size_data] at h7
      rw [ByteArray.size_extract] at h7
      omega
    have hf : (sel x.1 && fitT (phAt ps x.1).txt s a) = true := by
      rw [h5, Bool.true_and]
      unfold fitT
      rw [hsz, ← Nat.add_assoc, h6]
      simp; omega
    have := mem_stepsOf (en := fun i => a + (phAt ps i).txt.size) (fits := fun i => sel i && fitT (phAt ps i).txt s a) h4 hf
    have e : x = (x.1, a + (phAt ps x.1).txt.size) := by
      rw [hsz, ← Nat.add_assoc, ← h2]
    rw [e]; exact this
  · intro hx
    obtain ⟨h1, h2, h3⟩ := stepsOf_mem hx
    simp only [Bool.and_eq_true] at h2
    obtain ⟨h4, h5⟩ := fitT_le h2.2
    obtain ⟨t1, t2⟩ : 1 ≤ (phAt ps x.1).txt.size ∧ (phAt ps x.1).txt.size ≤ 12 := by
      have h := goodAt_txt (bookB_at hb h1)
      simp only [textB, begB, Bool.and_eq_true, decide_eq_true_eq] at h
      exact ⟨h.2, h.1.1⟩
    obtain ⟨d, hd⟩ : ∃ d, (phAt ps x.1).txt.size = 1 + d := ⟨(phAt ps x.1).txt.size - 1, by omega⟩
    have hl : lookI ps sel (s.extract a (a + 1 + d)).data.toList = some x.1 := lookI_of (book_dist hb) h1 h2.1 (by rw [Nat.add_assoc, ← hd]; exact h5.symm)
    have := mem_endTo (q := M) (by omega) hl
    have e : x = (x.1, a + 1 + d) := by rw [Nat.add_assoc, ← hd, ← h3]
    rw [e]; exact this

set_option maxRecDepth 100000 in
set_option maxHeartbeats 2000000 in
theorem textSteps_any (b : Nat) (s : ByteArray) (ps : List Ph) (sel : Nat → Bool) (w : World) (hb : bookB ps = true) (hs : s.size ≤ 40) (hmap : MapRd w b ps sel) :
    Calls Try.prog 54 #[.map (some b), .string s] w fun e w' => ∃ v', e = .returned v' ∧ RdSS w' v' s.size (txSt ps sel s) ∧ Below w.heap.size w w' := by
  obtain ⟨i0, hi, hz0, hz1, hz2⟩ := info_parts Try_info_steps
  have HB := Lib.hid hb
  have HMP := Lib.hid hmap
  have hblt := hmap.lt
  clear hb hmap
  go_enter Try.func54, Try.ntmps54
  go_wp2_with (refine wpList_make_full _ rfl _ _ 56 rfl w.heap.size 69 i0 (.slice none 0 0) 1 Try.underlying56 hi hz0 hz1 .i64 .i64 _ _ s.size rfl rfl rfl rfl (by rw [hz2]; omega) (by unfold maxLen; omega) (Nat.le_refl _) ?_; intro w1 hown1 hgrow1; have ho0 := SSat.begun (ss := txSt ps sel s) hown1 hgrow1; obtain ⟨ho0, hb1⟩ := ho0; clear hown1 hgrow1)
  go_loopw [15] (fun i wr => ∃ k : Nat, k ≤ s.size ∧ i = .int .i64 k ∧ (∃ C uu, SSat wr w.heap.size s.size k (txSt ps sel s) C uu []) ∧ Below w.heap.size w wr) (fun i _ => s.size - (intOf i).toNat)
  case atStart => exact ⟨0, Nat.zero_le _, rfl, ⟨_, _, ho0⟩, hb1⟩
  case round =>
    obtain ⟨at_, hk, rfl, ⟨C, uu, hss⟩, hbl⟩ := hrel
    by_cases hlt : at_ < s.size
    · have hss2 : SSat wr w.heap.size s.size at_ (txSt ps sel s) C uu (endTo ps sel s at_ 0) := hss
      obtain ⟨mx, hmx⟩ : ∃ mx, mx = min (at_ + 12) s.size := ⟨_, rfl⟩
      have HMX := Lib.hid hmx
      have hw12 : IntKind.i64.wrap ((at_ : Int) + 12) = (at_ : Int) + 12 := IntWalk.i64_in _ (by omega)
      have hmin : min ((at_ : Int) + 12) (s.size : Int) = (mx : Int) := by omega
      have hw1 : IntKind.i64.wrap ((at_ : Int) + 1) = (at_ : Int) + 1 := IntWalk.i64_in _ (by omega)
      clear hss hmx
      rename World => WL
      go_wp2
      go_loopw [7] (fun i wr => ∃ (q en : Nat), q ≤ mx - at_ ∧ i = .int .i64 en ∧ Hid (en = at_ + 1 + q) ∧ (∃ C uu, SSat wr w.heap.size s.size at_ (txSt ps sel s) C uu (endTo ps sel s at_ q)) ∧ Below w.heap.size w wr) (fun i _ => mx + 1 - (intOf i).toNat)
      case atStart => exact ⟨0, at_ + 1, Nat.zero_le _, by go_num, Lib.hid rfl, ⟨_, _, hss2⟩, hbl⟩
      case round =>
        obtain ⟨q, en, hq, rfl, hen, ⟨C2, u2, hss⟩, hblq⟩ := hrel
        by_cases hle : en ≤ mx
        · have hen1 : at_ < en := by have := hen.out; omega
          have hen2 : en ≤ s.size := by have := HMX.out; omega
          have hi1 : (at_ : Int) ≤ (en : Int) := by omega
          have hi2 : (en : Int) ≤ (s.size : Int) := by omega
          have hi3 : (en : Int) ≤ (mx : Int) := by omega
          have hi4 : at_ ≤ en := by omega
          have hwe : IntKind.i64.wrap ((en : Int) + 1) = ((en + 1 : Nat) : Int) := by rw [IntWalk.i64_in _ (by omega)]; omega
          have hks : (s.extract at_ en).size ≤ maxLen := by rw [ByteArray.size_extract]; unfold maxLen; omega
          have HMR := Lib.hid (HMP.out.below hblq hblt)
          have HQ : Hid (q + 1 ≤ mx - at_) := Lib.hid (by have := hen.out; omega)
          have HEN : Hid (en + 1 = at_ + 1 + (q + 1)) := Lib.hid (by have := hen.out; omega)
          cases hlk : lookI ps sel (s.extract at_ en).data.toList with
          | none =>
            have HNO : Hid (endTo ps sel s at_ (q + 1) = endTo ps sel s at_ q) := Lib.hid (endTo_no (by rw [← hen.out]; exact hlk))
            go_wp2_with (refine lookup_no rfl _ _ rfl b ps sel rfl HMR.out (s.extract at_ en) rfl hks hlk ?_)
            go_roundw
            case rel => exact ⟨q + 1, en + 1, HQ.out, by go_num, HEN, ⟨_, _, by rw [HNO.out]; exact hss⟩, hblq⟩
            case measure => simp [intOf]; omega
          | some i =>
            have HYES : Hid (endTo ps sel s at_ (q + 1) = endTo ps sel s at_ q ++ [(i, en)]) := Lib.hid (by rw [endTo_yes (i := i) (by rw [← hen.out]; exact hlk), ← hen.out])
            obtain ⟨hca, hfa, -, hBC, hCs, hBs⟩ := hss.cell hlt
            have hbA := (Below.refl wr.heap.size wr).alloc (Nat.le_refl _) (.cells #[.int .i64 i, .int .i64 en] 71)
            have HSA := Lib.hid (hss.later hbA)
            have hblA := hblq.trans (hbA.mono hblq.size)
            have HLN : Hid ((endTo ps sel s at_ q).length ≤ 1048576) := Lib.hid (by have := endTo_len ps sel s at_ q; omega)
            have hc0 : (wr.alloc (.cells #[.int .i64 i, .int .i64 en] 71)).cell? ⟨wr.heap.size, 0, none⟩ = some (.int .i64 i) := by simp [go_sem]
            have hc1 : (wr.alloc (.cells #[.int .i64 i, .int .i64 en] 71)).cell? ⟨wr.heap.size, 1, none⟩ = some (.int .i64 en) := by simp [go_sem]
            clear hss
            go_wp2_with (first | (refine lookup_yes rfl _ _ rfl b ps sel rfl HMR.out (s.extract at_ en) rfl hks i hlk ?_) | (at_builtin; refine append_st rfl _ _ rfl C2 u2 (endTo ps sel s at_ q) (i, en) wr.heap.size rfl rfl (HSA.out.cell hlt).2.2.1 hc0 hc1 HLN.out (Nat.le_trans hCs hbA.size) ?_; intro v' w2 ho' hg'; obtain ⟨av, cv, hv', -⟩ := ho'.len; rw [List.length_append, List.length_singleton] at hv'; subst hv'; have q1 := HSA.out.kept hg' hlt; obtain ⟨q1, q2⟩ := q1; have HM := Lib.hid (HSA.out.more ho' hg'); clear ho' hg'))
            go_roundw
            case rel => exact ⟨q + 1, en + 1, HQ.out, by go_num, HEN, ⟨C2, _, by rw [HYES.out]; exact HM.out.1⟩, hblA.trans HM.out.2⟩
            case measure => simp [intOf]; omega
        · have hqM : q = mx - at_ := by have := hen.out; omega
          have hnl : ¬ ((en : Int) ≤ (mx : Int)) := by omega
          have hse : txSt ps sel s at_ = endTo ps sel s at_ q := (endTo_is HB.out (by omega) (by have := HMX.out; omega)).symm
          rw [← hse] at hss
          have hnx := hss.next
          clear hss hse hqM hq hen
          go_wp2
          go_roundw
          case rel => exact ⟨at_ + 1, by omega, by go_num, ⟨_, _, hnx⟩, hblq⟩
          case measure => simp [intOf]; omega
    · obtain rfl : at_ = s.size := by omega
      go_wp2
      go_ret
      exact ⟨_, rfl, hss.done, hbl⟩
end Go.Proofs.Ytpogpehbkgjiaaa
