/- Chapter 4: what a code is; the words of a code written. -/
import Derived.Test.YtgceaffcalkbgaaIv
import Derived.Test.YtgceaffcalkbgaaCo2
namespace Go.Proofs.Ytgceaffcalkbgaa
open Go.RowKit
set_option linter.unusedSimpArgs false
set_option linter.unusedVariables false

theorem RdC.take {w : World} {a : Option Addr} {n cap : Nat} {zs : List Int} (h : RdC w (.slice a n cap) zs) (k : Nat) (hk : k ≤ n) : RdC w (.slice a k cap) (zs.take k) := by
  obtain ⟨h, a', cap', hv, hc⟩ := h
  simp only [Value.slice.injEq] at hv
  obtain ⟨rfl, rfl, rfl⟩ := hv
  have hlen : (zs.take k).length = k := by simp; omega
  refine ⟨?_, a, cap, by rw [hlen], by omega⟩
  rcases h with ⟨rfl, a', cap', hv, hn⟩ | ⟨g, off, cap', hv, hg, hm, hcell⟩
  · obtain rfl : k = 0 := by simpa using hk
    simp only [Value.slice.injEq] at hv
    obtain ⟨rfl, -, rfl⟩ := hv
    exact .inl ⟨by simp, _, _, rfl, hn⟩
  · simp only [Value.slice.injEq] at hv
    obtain ⟨rfl, -, rfl⟩ := hv
    refine .inr ⟨g, off, cap, by rw [hlen], hg, by omega, fun i hi => ?_⟩
    rw [hlen] at hi
    rw [List.getElem?_take, if_pos hi]
    exact hcell i (by omega)
theorem RdC.drop {w : World} {g off n cap : Nat} {zs : List Int} (h : RdC w (.slice (some ⟨g, off, none⟩) n cap) zs) (k : Nat) (hk : k < n) : RdC w (.slice (some ⟨g, off + k, none⟩) (n - k) (cap - k)) (zs.drop k) := by
  obtain ⟨h, a', cap', hv, hc⟩ := h
  simp only [Value.slice.injEq] at hv
  obtain ⟨rfl, rfl, rfl⟩ := hv
  have hlen : (zs.drop k).length = zs.length - k := by simp
  refine ⟨?_, _, cap - k, by rw [hlen], by omega⟩
  rcases h with ⟨rfl, -⟩ | ⟨g', off', cap', hv, hg, hm, hcell⟩
  · simp at hk
  · simp only [Value.slice.injEq, Option.some.injEq, Addr.mk.injEq, and_true] at hv
    obtain ⟨⟨rfl, rfl⟩, -, rfl⟩ := hv
    refine .inr ⟨g, off + k, cap - k, by rw [hlen], hg, by omega, fun i hi => ?_⟩
    rw [hlen] at hi
    rw [List.getElem?_drop, Nat.add_assoc]
    exact hcell (k + i) (by omega)
theorem RdC.nil (w : World) : RdC w (.slice none 0 0) [] := ⟨.inl ⟨rfl, _, _, rfl, fun _ => rfl⟩, _, _, rfl, Nat.le_refl _⟩
theorem RdC.some_ {w : World} {a : Option Addr} {n cap : Nat} {zs : List Int} (h : RdC w (.slice a n cap) zs) (hn : 0 < n) : ∃ g off, a = some ⟨g, off, none⟩ := by
  obtain ⟨h, a', cap', hv, hc⟩ := h
  simp only [Value.slice.injEq] at hv
  obtain ⟨rfl, rfl, rfl⟩ := hv
  rcases h with ⟨rfl, -⟩ | ⟨g', off', cap', hv, -⟩
  · simp at hn
  · simp only [Value.slice.injEq] at hv
    exact ⟨_, _, hv.1⟩

/-- a begins b. -/
def begsB (a b : List Int) : Bool := decide (a.length ≤ b.length) && sameB a (b.take a.length)
theorem begsB_long {a b : List Int} (h : ¬ a.length ≤ b.length) : begsB a b = false := by simp [begsB, h]
theorem begsB_short {a b : List Int} (h : a.length ≤ b.length) : begsB a b = sameB a (b.take a.length) := by simp [begsB, h]
theorem begsB_iff {a b : List Int} : begsB a b = true ↔ a.length ≤ b.length ∧ b.take a.length = a := by
  simp only [begsB, Bool.and_eq_true, decide_eq_true_eq, sameB_iff]
  exact ⟨fun h => ⟨h.1, h.2.symm⟩, fun h => ⟨h.1, h.2.symm⟩⟩
theorem begsB_comp {a b c : List Int} (h1 : begsB a c = true) (h2 : begsB b c = true) : begsB a b = true ∨ begsB b a = true := by
  obtain ⟨l1, e1⟩ := begsB_iff.1 h1
  obtain ⟨l2, e2⟩ := begsB_iff.1 h2
  rcases Nat.le_total a.length b.length with h | h
  · left
    refine begsB_iff.2 ⟨h, ?_⟩
    rw [← e2, List.take_take, Nat.min_eq_left h, e1]
  · right
    refine begsB_iff.2 ⟨h, ?_⟩
    rw [← e1, List.take_take, Nat.min_eq_left h, e2]

theorem bkBegins_any (v1 v2 : Value) (xs ys : List Int) (w : World) (h1 : RdC w v1 xs) (h2 : RdC w v2 ys) :
    Calls Try.prog 89 #[v1, v2] w fun e w' => e = .returned (.bool (begsB xs ys)) ∧ Below w.heap.size w w' := by
  have m1 := h1.rd.max
  have m2 := h2.rd.max
  unfold maxLen at m1 m2
  have h1' := h1
  have h2' := h2
  obtain ⟨-, a1, c1, rfl, l1⟩ := h1
  obtain ⟨-, a2, c2, rfl, l2⟩ := h2
  by_cases hle : xs.length ≤ ys.length
  · have hf := Lib.hid (begsB_short hle)
    have ht := h2'.take xs.length hle
    have hle2 : xs.length ≤ c2 := by omega
    go_enter Try.func89, Try.ntmps89
    go_wp2_with fail
    refine (l1Same_any _ _ xs (ys.take xs.length) _ h1'.rd ht.rd).mono ?_
    rintro e w1 ⟨rfl, n, rfl⟩
    go_wp2
    go_ret
    exact ⟨ret_bool hf.out.symm, below_drewN (Below.refl _ _) n⟩
  · have hf := Lib.hid (begsB_long hle)
    go_enter Try.func89, Try.ntmps89
    go_wp2
    go_ret
    exact ⟨ret_bool hf.out.symm, Below.refl _ _⟩
theorem begins_any (v1 v2 : Value) (xs ys : List Int) (w : World) (h1 : RdC w v1 xs) (h2 : RdC w v2 ys) :
    Calls Try.prog 88 #[v1, v2] w fun e w' => e = .returned (.bool (begsB xs ys)) ∧ Below w.heap.size w w' := by
  have m1 := h1.rd.max
  have m2 := h2.rd.max
  unfold maxLen at m1 m2
  have h1' := h1
  have h2' := h2
  obtain ⟨-, a1, c1, rfl, l1⟩ := h1
  obtain ⟨-, a2, c2, rfl, l2⟩ := h2
  by_cases hle : xs.length ≤ ys.length
  · have hf := Lib.hid (begsB_short hle)
    have ht := h2'.take xs.length hle
    have hle2 : xs.length ≤ c2 := by omega
    go_enter Try.func88, Try.ntmps88
    go_wp2_with fail
    refine (slEqual_any _ _ xs (ys.take xs.length) _ h1'.rd ht.rd).mono ?_
    rintro e w1 ⟨rfl, n, rfl⟩
    go_wp2
    go_ret
    exact ⟨ret_bool hf.out.symm, below_drewN (Below.refl _ _) n⟩
  · have hf := Lib.hid (begsB_long hle)
    go_enter Try.func88, Try.ntmps88
    go_wp2
    go_ret
    exact ⟨ret_bool hf.out.symm, Below.refl _ _⟩
theorem areDigits_any (v : Value) (zs : List Int) (w : World) (hr : Rd w v zs) :
    Calls Try.prog 85 #[v] w fun e w' => e = .returned (.bool (allIn zs 0 59)) ∧ w = w' := by
  obtain ⟨a, cap, hv⟩ := hr.len
  have HR := Lib.hid hr
  clear hr
  subst hv
  go_enter Try.func85, Try.ntmps85
  go_wp2_with (go_at_call 82; refine (areWithin_any _ zs 0 59 _ HR.out).mono ?_; rintro e w' ⟨rfl, rfl⟩)
  go_ret
  exact ⟨rfl, rfl⟩

/-! ### Codes -/
def wordB (L : List (List Int)) (i : Nat) : Bool := decide (1 ≤ (rowAt L i).length) && decide ((rowAt L i).length ≤ 6) && allIn (rowAt L i) 0 59
def freeB (L : List (List Int)) (i j : Nat) : Bool := !(begsB (rowAt L j) (rowAt L i)) && !(begsB (rowAt L i) (rowAt L j))
def codAt (L : List (List Int)) (i : Nat) : Bool := wordB L i && (List.range i).all fun j => freeB L i j
def codTo (L : List (List Int)) (k : Nat) : Bool := (List.range k).all fun i => codAt L i
def codB (L : List (List Int)) : Bool := decide (1 ≤ L.length) && decide (L.length ≤ 20) && codTo L L.length
theorem codTo_no {L : List (List Int)} {k n : Nat} (hk : k < n) (h : codAt L k = false) : codTo L n = false := by
  unfold codTo
  rw [List.all_eq_false]
  exact ⟨k, by simpa using hk, by simp [h]⟩
theorem codTo_yes {L : List (List Int)} {n : Nat} (h : ∀ k, k < n → codAt L k = true) : codTo L n = true := by
  unfold codTo
  rw [List.all_eq_true]
  intro k hk
  exact h k (by simpa using hk)
theorem codAt_yes {L : List (List Int)} {i : Nat} (h : wordB L i = true) (hj : ∀ j, j < i → freeB L i j = true) : codAt L i = true := by
  unfold codAt
  rw [h, Bool.true_and, List.all_eq_true]
  intro j hj'
  exact hj j (by simpa using hj')
theorem codAt_no {L : List (List Int)} {i j : Nat} (hj : j < i) (h : freeB L i j = false) : codAt L i = false := by
  unfold codAt
  rw [Bool.and_eq_false_iff]
  right
  rw [List.all_eq_false]
  exact ⟨j, by simpa using hj, by simp [h]⟩
theorem codAt_word {L : List (List Int)} {i : Nat} (h : wordB L i = false) : codAt L i = false := by simp [codAt, h]
theorem codB_len {L : List (List Int)} (h : codB L = true) : 1 ≤ L.length ∧ L.length ≤ 20 := by simp [codB] at h; exact h.1
theorem codB_at {L : List (List Int)} (h : codB L = true) {i : Nat} (hi : i < L.length) : codAt L i = true := by
  simp only [codB, Bool.and_eq_true] at h
  exact List.all_eq_true.1 h.2 i (by simpa using hi)
theorem codB_word {L : List (List Int)} (h : codB L = true) {i : Nat} (hi : i < L.length) : 1 ≤ (rowAt L i).length ∧ (rowAt L i).length ≤ 6 ∧ allIn (rowAt L i) 0 59 = true := by
  have := codB_at h hi
  simp only [codAt, wordB, Bool.and_eq_true, decide_eq_true_eq] at this
  exact ⟨this.1.1.1, this.1.1.2, this.1.2⟩
theorem codB_free {L : List (List Int)} (h : codB L = true) {i j : Nat} (hi : i < L.length) (hj : j < i) : begsB (rowAt L j) (rowAt L i) = false ∧ begsB (rowAt L i) (rowAt L j) = false := by
  have := codB_at h hi
  simp only [codAt, Bool.and_eq_true] at this
  have := List.all_eq_true.1 this.2 j (by simpa using hj)
  simpa [freeB] using this
theorem codB_uniq {L : List (List Int)} (h : codB L = true) {i j : Nat} (hi : i < L.length) (hj : j < L.length) {ds : List Int} (h1 : begsB (rowAt L i) ds = true) (h2 : begsB (rowAt L j) ds = true) : i = j := by
  rcases Nat.lt_trichotomy i j with e | e | e
  · have := codB_free h hj e
    rcases begsB_comp h1 h2 with h | h
    · rw [this.1] at h; cases h
    · rw [this.2] at h; cases h
  · exact e
  · have := codB_free h hi e
    rcases begsB_comp h1 h2 with h | h
    · rw [this.2] at h; cases h
    · rw [this.1] at h; cases h

set_option maxRecDepth 100000 in
set_option maxHeartbeats 1000000 in
theorem cmCode_any (v : Value) (L : List (List Int)) (w : World) (hr : RdJ w v L) :
    Calls Try.prog 83 #[v] w fun e w' => e = .returned (.bool (codB L)) ∧ Below w.heap.size w w' := by
  have hm := hr.max
  obtain ⟨a, cap, rfl, hlc⟩ := hr.len
  have HU : Hid (codB L = (inB L.length 1 20 && codTo L L.length)) := Lib.hid (by simp [codB, inB]; rw [Bool.eq_iff_iff]; simp; omega)
  obtain ⟨n, hn⟩ : ∃ n, n = L.length := ⟨_, rfl⟩
  rw [← hn] at hm hlc HU ⊢
  have HN := Lib.hid hn
  have HR := Lib.hid hr
  clear hn hr
  go_enter Try.func83, Try.ntmps83
  go_wp2
  go_loopw [9] (fun i wr => ∃ k : Nat, k ≤ n ∧ i = .int .i64 k ∧ Below w.heap.size w wr ∧ Hid (∀ j, j < k → codAt L j = true)) (fun i wr => n - (intOf i).toNat)
  case atStart => exact ⟨0, Nat.zero_le _, rfl, Below.refl _ _, Lib.hid fun j hj => by omega⟩
  case round =>
    obtain ⟨k, hk, rfl, hbl, hall⟩ := hrel
    by_cases hlt : k < n
    · obtain ⟨g, off, u, rfl, hg, hc0, hru⟩ := (HR.out.below hbl (Nat.le_refl _)).at_ rfl k (by rw [← HN.out]; exact hlt)
      have hmu := hru.rd.max
      unfold maxLen at hmu
      obtain ⟨ua, uc, rfl⟩ := hru.rd.len
      have HRU := Lib.hid hru
      clear hru
      cases hw1 : inB ((rowAt L k).length : Int) 1 6 with
      | false =>
        have hf : Hid (codB L = false) := Lib.hid (by
          have : ¬ (1 ≤ ((rowAt L k).length : Int) ∧ ((rowAt L k).length : Int) ≤ 6) := fun h => by rw [inB_iff.2 h] at hw1; cases hw1
          rw [HU.out, codTo_no hlt (codAt_word (by simp [wordB]; omega)), Bool.and_false])
        go_wp2_with (go_at_call 69; refine (l1In_any _ _ _ _).mono ?_; rintro e w' ⟨rfl, rfl⟩)
        go_ret
        exact ⟨ret_bool hf.out.symm, hbl⟩
      | true =>
        cases hw2 : allIn (rowAt L k) 0 59 with
        | false =>
          have hf : Hid (codB L = false) := Lib.hid (by
            rw [HU.out, codTo_no hlt (codAt_word (by simp [wordB, hw2])), Bool.and_false])
          go_wp2_with (first
            | (go_at_call 69; refine (l1In_any _ _ _ _).mono ?_; rintro e w' ⟨rfl, rfl⟩)
            | (go_at_call 84; refine (l1All_any _ (rowAt L k) 0 59 _ HRU.out.rd).mono ?_; rintro e w' ⟨rfl, rfl⟩))
          go_ret
          exact ⟨ret_bool hf.out.symm, hbl⟩
        | true =>
          have hwd : Hid (wordB L k = true) := Lib.hid (by
            obtain ⟨h1, h2⟩ := inB_iff.1 hw1
            simp only [wordB, Bool.and_eq_true, decide_eq_true_eq]
            exact ⟨⟨by omega, by omega⟩, hw2⟩)
          have hkc : k ≤ cap := by omega
          have HK : Hid (∀ W, Below wr.heap.size wr W → RdJ W (.slice (some ⟨g, off, none⟩) k cap) (L.take k) ∧ RdC W (.slice ua (rowAt L k).length uc) (rowAt L k)) := Lib.hid fun W hb =>
            ⟨(((HR.out.below hbl (Nat.le_refl _)).take k (by rw [← HN.out]; omega))).later hb, HRU.out.later hb⟩
          go_wp2_with (first
            | (go_at_call 69; refine (l1In_any _ _ _ _).mono ?_; rintro e w' ⟨rfl, rfl⟩)
            | (go_at_call 84; refine (l1All_any _ (rowAt L k) 0 59 _ HRU.out.rd).mono ?_; rintro e w' ⟨rfl, rfl⟩))
          go_loopw [27] (fun i wq => ∃ j : Nat, j ≤ k ∧ i = .int .i64 j ∧ Below wr.heap.size wr wq ∧ Hid (∀ m, m < j → freeB L k m = true)) (fun i wq => k - (intOf i).toNat)
          case atStart => exact ⟨0, Nat.zero_le _, rfl, Below.refl _ _, Lib.hid fun j hj => by omega⟩
          case round =>
            obtain ⟨j, hj, rfl, hbq, hfr⟩ := hrel
            by_cases hjk : j < k
            · obtain ⟨hq1, hq2⟩ := HK.out _ hbq
              obtain ⟨g2, off2, x, e2, hg2, hx0, hrx⟩ := hq1.at_ (by rw [List.length_take, Nat.min_eq_left (by rw [← HN.out]; omega)]) j hjk
              rw [rowAt_take hjk] at hrx
              simp only [Option.some.injEq, Addr.mk.injEq, and_true] at e2
              obtain ⟨rfl, rfl⟩ := e2
              obtain ⟨xa, xc, rfl⟩ := hrx.rd.len
              have HX := Lib.hid hrx
              have HQ := Lib.hid hq2
              clear hrx hq2 hq1
              cases hb1 : begsB (rowAt L k) (rowAt L j) with
              | true =>
                have hf : Hid (codB L = false) := Lib.hid (by
                  rw [HU.out, codTo_no hlt (codAt_no hjk (by simp [freeB, hb1])), Bool.and_false])
                go_wp2_with fail
                refine (bkBegins_any _ _ (rowAt L k) (rowAt L j) _ HQ.out HX.out).mono ?_
                rintro e w1 ⟨rfl, hb'⟩
                rw [hb1]
                go_wp2
                go_ret
                exact ⟨ret_bool hf.out.symm, hbl.trans ((hbq.trans (hb'.mono hbq.size)).mono hbl.size)⟩
              | false =>
                cases hb2 : begsB (rowAt L j) (rowAt L k) with
                | true =>
                  have hf : Hid (codB L = false) := Lib.hid (by
                    rw [HU.out, codTo_no hlt (codAt_no hjk (by simp [freeB, hb2])), Bool.and_false])
                  go_wp2_with fail
                  refine (bkBegins_any _ _ (rowAt L k) (rowAt L j) _ HQ.out HX.out).mono ?_
                  rintro e w1 ⟨rfl, hb'⟩
                  rw [hb1]
                  go_wp2_with fail
                  refine (bkBegins_any _ _ (rowAt L j) (rowAt L k) _ (HX.out.later hb') (HQ.out.later hb')).mono ?_
                  rintro e w2 ⟨rfl, hb''⟩
                  rw [hb2]
                  have hb3 := hb'.trans (hb''.mono hb'.size)
                  go_wp2
                  go_ret
                  exact ⟨ret_bool hf.out.symm, hbl.trans ((hbq.trans (hb3.mono hbq.size)).mono hbl.size)⟩
                | false =>
                  have hfr' : Hid (∀ m, m < j + 1 → freeB L k m = true) := Lib.hid fun m hm => by
                    by_cases e : m = j
                    · subst e; simp [freeB, hb1, hb2]
                    · exact hfr.out m (by omega)
                  go_wp2_with fail
                  refine (bkBegins_any _ _ (rowAt L k) (rowAt L j) _ HQ.out HX.out).mono ?_
                  rintro e w1 ⟨rfl, hb'⟩
                  rw [hb1]
                  go_wp2_with fail
                  refine (bkBegins_any _ _ (rowAt L j) (rowAt L k) _ (HX.out.later hb') (HQ.out.later hb')).mono ?_
                  rintro e w2 ⟨rfl, hb''⟩
                  rw [hb2]
                  have hb3 := hb'.trans (hb''.mono hb'.size)
                  go_wp2
                  go_roundw
                  case rel => exact ⟨j + 1, by omega, by go_num, hbq.trans (hb3.mono hbq.size), hfr'⟩
                  case measure => simp [intOf]; omega
            · have hall' : Hid (∀ m, m < k + 1 → codAt L m = true) := Lib.hid fun m hm => by
                by_cases e : m = k
                · subst e; exact codAt_yes hwd.out fun m' hm' => hfr.out m' (by omega)
                · exact hall.out m (by omega)
              go_wp2
              go_roundw
              case rel => exact ⟨k + 1, by omega, by go_num, hbl.trans (hbq.mono hbl.size), hall'⟩
              case measure => simp [intOf]; omega
    · have hf : Hid (codB L = inB (n : Int) 1 20) := Lib.hid (by rw [HU.out, codTo_yes fun j hj => hall.out j (by omega), Bool.and_true])
      go_wp2_with (go_at_call 69; refine (l1In_any _ _ _ _).mono ?_; rintro e w' ⟨rfl, rfl⟩)
      go_ret
      exact ⟨ret_bool hf.out.symm, hbl⟩

set_option maxRecDepth 100000 in
set_option maxHeartbeats 1000000 in
theorem isCode_any (v : Value) (L : List (List Int)) (w : World) (hr : RdJ w v L) :
    Calls Try.prog 81 #[v] w fun e w' => e = .returned (.bool (codB L)) ∧ Below w.heap.size w w' := by
  have hm := hr.max
  obtain ⟨a, cap, rfl, hlc⟩ := hr.len
  by_cases h1 : (L.length : Int) < 1
  · have hf : Hid (codB L = false) := Lib.hid (by simp [codB]; intro h; omega)
    clear hr
    go_enter Try.func81, Try.ntmps81
    go_wp2
    go_ret
    exact ⟨ret_bool hf.out.symm, Below.refl _ _⟩
  · by_cases h20 : 20 < (L.length : Int)
    · have hf : Hid (codB L = false) := Lib.hid (by simp [codB]; intro h h'; omega)
      clear hr
      go_enter Try.func81, Try.ntmps81
      go_wp2
      go_ret
      exact ⟨ret_bool hf.out.symm, Below.refl _ _⟩
    · have HU : Hid (codB L = codTo L L.length) := Lib.hid (by
        unfold codB
        rw [decide_eq_true (show 1 ≤ L.length by omega), decide_eq_true (show L.length ≤ 20 by omega)]; rfl)
      obtain ⟨n, hn⟩ : ∃ n, n = L.length := ⟨_, rfl⟩
      rw [← hn] at hm hlc HU h1 h20 ⊢
      have HN := Lib.hid hn
      have HR := Lib.hid hr
      clear hn hr
      go_enter Try.func81, Try.ntmps81
      go_wp2
      go_loopw [17] (fun i wr => ∃ k : Nat, k ≤ n ∧ i = .int .i64 k ∧ Below w.heap.size w wr ∧ Hid (∀ j, j < k → codAt L j = true)) (fun i wr => n - (intOf i).toNat)
      case atStart => exact ⟨0, Nat.zero_le _, rfl, Below.refl _ _, Lib.hid fun j hj => by omega⟩
      case round =>
        obtain ⟨k, hk, rfl, hbl, hall⟩ := hrel
        by_cases hlt : k < n
        · obtain ⟨g, off, u, rfl, hg, hc0, hru⟩ := (HR.out.below hbl (Nat.le_refl _)).at_ rfl k (by rw [← HN.out]; exact hlt)
          have hmu := hru.rd.max
          unfold maxLen at hmu
          obtain ⟨ua, uc, rfl⟩ := hru.rd.len
          have HRU := Lib.hid hru
          clear hru
          by_cases hw0 : ((rowAt L k).length : Int) < 1
          · have hf : Hid (codB L = false) := Lib.hid (by
              rw [HU.out, codTo_no hlt (codAt_word (by simp [wordB]; omega))])
            go_wp2
            go_ret
            exact ⟨ret_bool hf.out.symm, hbl⟩
          · by_cases hw1 : 6 < ((rowAt L k).length : Int)
            · have hf : Hid (codB L = false) := Lib.hid (by
                rw [HU.out, codTo_no hlt (codAt_word (by simp [wordB]; omega))])
              go_wp2
              go_ret
              exact ⟨ret_bool hf.out.symm, hbl⟩
            · cases hw2 : allIn (rowAt L k) 0 59 with
              | false =>
                have hf : Hid (codB L = false) := Lib.hid (by
                  rw [HU.out, codTo_no hlt (codAt_word (by simp [wordB, hw2]))])
                go_wp2_with (go_at_call 85; refine (areDigits_any _ (rowAt L k) _ HRU.out.rd).mono ?_; rintro e w' ⟨rfl, rfl⟩)
                go_ret
                exact ⟨ret_bool hf.out.symm, hbl⟩
              | true =>
                have hwd : Hid (wordB L k = true) := Lib.hid (by
                  simp only [wordB, Bool.and_eq_true, decide_eq_true_eq]
                  exact ⟨⟨by omega, by omega⟩, hw2⟩)
                have hkc : k ≤ cap := by omega
                have HK : Hid (∀ W, Below wr.heap.size wr W → RdJ W (.slice (some ⟨g, off, none⟩) k cap) (L.take k) ∧ RdC W (.slice ua (rowAt L k).length uc) (rowAt L k)) := Lib.hid fun W hb =>
                  ⟨(((HR.out.below hbl (Nat.le_refl _)).take k (by rw [← HN.out]; omega))).later hb, HRU.out.later hb⟩
                go_wp2_with (go_at_call 85; refine (areDigits_any _ (rowAt L k) _ HRU.out.rd).mono ?_; rintro e w' ⟨rfl, rfl⟩)
                go_loopw [39] (fun i wq => ∃ j : Nat, j ≤ k ∧ i = .int .i64 j ∧ Below wr.heap.size wr wq ∧ Hid (∀ m, m < j → freeB L k m = true)) (fun i wq => k - (intOf i).toNat)
                case atStart => exact ⟨0, Nat.zero_le _, rfl, Below.refl _ _, Lib.hid fun j hj => by omega⟩
                case round =>
                  obtain ⟨j, hj, rfl, hbq, hfr⟩ := hrel
                  by_cases hjk : j < k
                  · obtain ⟨hq1, hq2⟩ := HK.out _ hbq
                    obtain ⟨g2, off2, x, e2, hg2, hx0, hrx⟩ := hq1.at_ (by rw [List.length_take, Nat.min_eq_left (by rw [← HN.out]; omega)]) j hjk
                    rw [rowAt_take hjk] at hrx
                    simp only [Option.some.injEq, Addr.mk.injEq, and_true] at e2
                    obtain ⟨rfl, rfl⟩ := e2
                    obtain ⟨xa, xc, rfl⟩ := hrx.rd.len
                    have HX := Lib.hid hrx
                    have HQ := Lib.hid hq2
                    clear hrx hq2 hq1
                    cases hb1 : begsB (rowAt L j) (rowAt L k) with
                    | true =>
                      have hf : Hid (codB L = false) := Lib.hid (by
                        rw [HU.out, codTo_no hlt (codAt_no hjk (by simp [freeB, hb1]))])
                      go_wp2_with fail
                      refine (begins_any _ _ (rowAt L j) (rowAt L k) _ HX.out HQ.out).mono ?_
                      rintro e w1 ⟨rfl, hb'⟩
                      rw [hb1]
                      go_wp2
                      go_ret
                      exact ⟨ret_bool hf.out.symm, hbl.trans ((hbq.trans (hb'.mono hbq.size)).mono hbl.size)⟩
                    | false =>
                      cases hb2 : begsB (rowAt L k) (rowAt L j) with
                      | true =>
                        have hf : Hid (codB L = false) := Lib.hid (by
                          rw [HU.out, codTo_no hlt (codAt_no hjk (by simp [freeB, hb2]))])
                        go_wp2_with fail
                        refine (begins_any _ _ (rowAt L j) (rowAt L k) _ HX.out HQ.out).mono ?_
                        rintro e w1 ⟨rfl, hb'⟩
                        rw [hb1]
                        go_wp2_with fail
                        refine (begins_any _ _ (rowAt L k) (rowAt L j) _ (HQ.out.later hb') (HX.out.later hb')).mono ?_
                        rintro e w2 ⟨rfl, hb''⟩
                        rw [hb2]
                        have hb3 := hb'.trans (hb''.mono hb'.size)
                        go_wp2
                        go_ret
                        exact ⟨ret_bool hf.out.symm, hbl.trans ((hbq.trans (hb3.mono hbq.size)).mono hbl.size)⟩
                      | false =>
                        have hfr' : Hid (∀ m, m < j + 1 → freeB L k m = true) := Lib.hid fun m hm => by
                          by_cases e : m = j
                          · subst e; simp [freeB, hb1, hb2]
                          · exact hfr.out m (by omega)
                        go_wp2_with fail
                        refine (begins_any _ _ (rowAt L j) (rowAt L k) _ HX.out HQ.out).mono ?_
                        rintro e w1 ⟨rfl, hb'⟩
                        rw [hb1]
                        go_wp2_with fail
                        refine (begins_any _ _ (rowAt L k) (rowAt L j) _ (HQ.out.later hb') (HX.out.later hb')).mono ?_
                        rintro e w2 ⟨rfl, hb''⟩
                        rw [hb2]
                        have hb3 := hb'.trans (hb''.mono hb'.size)
                        go_wp2
                        go_roundw
                        case rel => exact ⟨j + 1, by omega, by go_num, hbq.trans (hb3.mono hbq.size), hfr'⟩
                        case measure => simp [intOf]; omega
                  · have hall' : Hid (∀ m, m < k + 1 → codAt L m = true) := Lib.hid fun m hm => by
                      by_cases e : m = k
                      · subst e; exact codAt_yes hwd.out fun m' hm' => hfr.out m' (by omega)
                      · exact hall.out m (by omega)
                    go_wp2
                    go_roundw
                    case rel => exact ⟨k + 1, by omega, by go_num, hbl.trans (hbq.mono hbl.size), hall'⟩
                    case measure => simp [intOf]; omega
        · have hf : Hid (codB L = true) := Lib.hid (by rw [HU.out, codTo_yes fun j hj => hall.out j (by omega)])
          go_wp2
          go_ret
          exact ⟨ret_bool hf.out.symm, hbl⟩
end Go.Proofs.Ytgceaffcalkbgaa
