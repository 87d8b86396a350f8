/- Chapter 5: a word with its pair; an exchange of two signals. Written by a generator of this claim's author. -/
import Derived.Test.YtnkcmadjeofedaaCk3
import Derived.BigQuiet
import Derived.Deep.QuietTactic
namespace Go.Proofs.Ytnkcmadjeofedaa
open Go.RowKit
set_option linter.unusedSimpArgs false
set_option linter.unusedVariables false

theorem rd_new2 (w : World) (x y : Int) : Rd (w.alloc (.cells #[.int .i64 x, .int .i64 y] 3)) (.slice (some ⟨w.heap.size, 0, none⟩) 2 2) [x, y] := by
  refine .inr ⟨w.heap.size, 0, 2, rfl, by simp, by unfold maxLen; simp, fun i hi => ?_⟩
  have hi' : i < 2 := hi
  match i, hi' with
  | 0, _ => simp [go_sem]
  | 1, _ => simp [go_sem]
def wpL (zs : List Int) : List Int := if ckB 48 zs then zs ++ [pX zs, pY zs] else []
theorem wpL_yes {zs : List Int} (h : ckB 48 zs = true) : wpL zs = zs ++ [pX zs, pY zs] := by simp [wpL, h]
theorem wpL_no {zs : List Int} (h : ckB 48 zs = false) : wpL zs = [] := by simp [wpL, h]
theorem wpL_len (zs : List Int) : (wpL zs).length ≤ 50 := by
  cases h : ckB 48 zs with
  | false => rw [wpL_no h]; simp
  | true => have := ckB_len h; rw [wpL_yes h]; simp; omega
/-- What a call stores into its own slice. -/
theorem Own.put {w : World} {B g n cap : Nat} {zs : List Int} (h : Own w B (.slice (some ⟨g, 0, none⟩) n cap) zs) (hn : n = zs.length) (k : Nat) (x : Int) :
    Own (w.setCell ⟨g, k, none⟩ (.int .i64 x)) B (.slice (some ⟨g, 0, none⟩) n cap) (zs.set k x) ∧ w.grownBy (w.setCell ⟨g, k, none⟩ (.int .i64 x)) (some g) := by
  unfold Own at h ⊢
  rw [← hn] at h
  have := h.stored k (.int .i64 x)
  rw [List.length_set, ← hn, List.map_set]
  exact this
theorem Own.spot {w : World} {B g n cap : Nat} {zs : List Int} (h : Own w B (.slice (some ⟨g, 0, none⟩) n cap) zs) (hn : n = zs.length) (k : Nat) (hk : k < n) :
    w.cell? ⟨g, k, none⟩ = some (.int .i64 (nth zs k)) ∧ w.frozen? ⟨g, k, none⟩ = false := by
  unfold Own at h
  rw [← hn] at h
  refine ⟨?_, h.frozenAt k⟩
  rw [h.cellAt k (by omega)]
  have : k < zs.length := by omega
  simp [nth, this]
theorem nth_set (zs : List Int) (i j : Nat) (x : Int) : nth (zs.set i x) j = if i = j ∧ i < zs.length then x else nth zs j := by
  unfold nth
  rw [List.getElem?_set]
  by_cases h : i = j
  · subst h
    by_cases h2 : i < zs.length
    · simp [h2]
    · simp [h2]
  · simp [h]
theorem ckB_set {m : Nat} {zs : List Int} (h : ckB m zs = true) (i : Nat) (x : Int) (h0 : 1 ≤ x) (h1 : x ≤ 61) : ckB m (zs.set i x) = true := by
  have hl := ckB_len h
  have ha : allIn (zs.set i x) 1 61 = true := allIn_true _ _ _ fun k hk => by
    rw [List.length_set] at hk
    have e := nth_set zs i k x
    unfold nth at e
    rw [e]
    split
    · exact inB_yes h0 h1
    · have := ckB_get h k hk
      exact inB_yes this.1 this.2
  simp only [ckB, ha, List.length_set, Bool.and_eq_true, decide_eq_true_eq]
  exact ⟨hl, trivial⟩
/-- Two signals exchanged. -/
def swL (zs : List Int) (i k : Nat) : List Int := (zs.set i (nth zs k)).set k (nth zs i)
theorem swL_word {zs : List Int} (h : ckB 50 zs = true) {i k : Nat} (hi : i < zs.length) (hk : k < zs.length) : ckB 50 (swL zs i k) = true := by
  have a := ckB_get h i hi
  have b := ckB_get h k hk
  exact ckB_set (ckB_set h _ _ b.1 b.2) _ _ a.1 a.2
theorem swL_len (zs : List Int) (i k : Nat) : (swL zs i k).length = zs.length := by simp [swL]
def seeB (zs : List Int) (i k : Int) : Bool := hasB2 zs i && (hasB2 zs k && hldB zs)

set_option maxRecDepth 100000 in
theorem specWithPair_any (v : Value) (zs : List Int) (w : World) (hr : Rd w v zs) :
    Calls Try.prog 19 #[v] w fun e w' => ∃ v', e = .returned (.tuple #[v', .bool (ckB 48 zs)]) ∧ OwnI w' w.heap.size w'.heap.size v' (wpL zs) ∧ Below w.heap.size w w' := by
  have hm := hr.max
  unfold maxLen at hm
  obtain ⟨a, cap, hv⟩ := hr.len
  have HR := Lib.hid hr
  clear hr
  subst hv
  cases hc : ckB 48 zs with
  | false =>
    go_enter Try.func19, Try.ntmps19
    go_wp2_with (go_at_call 31; refine (ckWord_any _ zs 48 _ HR.out).mono ?_; rintro e w' ⟨rfl, rfl⟩)
    go_ret2
    exact ⟨_, rfl, by rw [wpL_no hc]; exact (Own.nil _ _).iv, Below.refl _ _⟩
  | true =>
    have hw : ckB 50 zs = true := ckB_mono hc (by decide)
    have hl := ckB_len hc
    go_enter Try.func19, Try.ntmps19
    go_wp2_with (first
      | (go_at_call 31; refine (ckWord_any _ zs 48 _ HR.out).mono ?_; rintro e w' ⟨rfl, rfl⟩)
      | (go_at_call 37; refine (ckPair_any _ zs _ HR.out hw).mono ?_; rintro e w' ⟨rfl, rfl⟩)
      | (go_at_call 38; refine (l1Own_any _ zs _ (by omega) HR.out).mono ?_; rintro e w1 ⟨v1, rfl, ho1, hb1⟩; have z1 := hb1.size)
      | (at_builtin; refine append_ints rfl _ _ rfl w.heap.size _ zs [pX zs, pY zs] (.slice (some ⟨w1.heap.size, 0, none⟩) 2 2) rfl rfl (ho1.alloc _) (rd_new2 _ _ _) (by simp; omega) (by simp; omega) ?_; intro v2 w2 ho2 hg2; have hb2 := (hb1.alloc z1 _).grown hg2 (by simp; omega) (fun i hi => (ho1.lt i hi).1)))
    go_ret2
    exact ⟨_, rfl, by rw [wpL_yes hc]; exact ho2.iv, hb2⟩

set_option maxRecDepth 100000 in
theorem implWithPair_any (v : Value) (zs : List Int) (w : World) (hr : Rd w v zs) :
    Calls Try.prog 20 #[v] w fun e w' => ∃ v', e = .returned (.tuple #[v', .bool (ckB 48 zs)]) ∧ OwnI w' w.heap.size w'.heap.size v' (wpL zs) ∧ Below w.heap.size w w' := by
  have hm := hr.max
  unfold maxLen at hm
  obtain ⟨a, cap, hv⟩ := hr.len
  have HR := Lib.hid hr
  clear hr
  subst hv
  cases hc : ckB 48 zs with
  | false =>
    go_enter Try.func20, Try.ntmps20
    go_wp2_with fail
    refine (implPairChecks_any _ zs _ HR.out).mono ?_
    rintro e w1 ⟨rfl, hb1⟩
    rw [hc]
    go_wp2
    go_ret2
    exact ⟨_, rfl, by rw [wpL_no hc]; exact (Own.nil _ _).iv, hb1⟩
  | true =>
    have hl := ckB_len hc
    go_enter Try.func20, Try.ntmps20
    go_wp2_with fail
    refine (implPairChecks_any _ zs _ HR.out).mono ?_
    rintro e w1 ⟨rfl, hb1⟩
    rw [hc, okI_yes rfl, okI_yes rfl]
    have z1 := hb1.size
    have hR1 := HR.out.later hb1
    obtain ⟨x, hx⟩ : ∃ x, x = pX zs := ⟨_, rfl⟩
    obtain ⟨y, hy⟩ : ∃ y, y = pY zs := ⟨_, rfl⟩
    have hba := (Below.refl w1.heap.size w1).alloc (Nat.le_refl _) (.cells #[.int .i64 x, .int .i64 y] 3)
    have hbb := hba.alloc (by simp) (.cells #[.slice a zs.length cap, .slice (some ⟨w1.heap.size, 0, none⟩) 2 2] 22)
    have HC : Hid (∀ j, j < 2 → ((w1.alloc (.cells #[.int .i64 x, .int .i64 y] 3)).alloc (.cells #[.slice a zs.length cap, .slice (some ⟨w1.heap.size, 0, none⟩) 2 2] 22)).cell? ⟨w1.heap.size + 1, j, none⟩ = some (if j = 0 then .slice a zs.length cap else .slice (some ⟨w1.heap.size, 0, none⟩) 2 2) ∧
        Rd ((w1.alloc (.cells #[.int .i64 x, .int .i64 y] 3)).alloc (.cells #[.slice a zs.length cap, .slice (some ⟨w1.heap.size, 0, none⟩) 2 2] 22)) (if j = 0 then .slice a zs.length cap else .slice (some ⟨w1.heap.size, 0, none⟩) 2 2) (if j = 0 then zs else [x, y]) ∧ (if j = 0 then zs else [x, y]).length ≤ 1000) := Lib.hid (by
      intro j hj
      match j, hj with
      | 0, _ => exact ⟨by simp [go_sem], hR1.later hbb, by simp; omega⟩
      | 1, _ => exact ⟨by simp [go_sem], (rd_new2 w1 x y).later ((Below.refl _ _).alloc (Nat.le_refl _) _), by simp⟩)
    have hsz : Hid (w1.heap.size + 1 < ((w1.alloc (.cells #[.int .i64 x, .int .i64 y] 3)).alloc (.cells #[.slice a zs.length cap, .slice (some ⟨w1.heap.size, 0, none⟩) 2 2] 22)).heap.size) := Lib.hid (by simp)
    have hz2 : w1.heap.size ≤ ((w1.alloc (.cells #[.int .i64 x, .int .i64 y] 3)).alloc (.cells #[.slice a zs.length cap, .slice (some ⟨w1.heap.size, 0, none⟩) 2 2] 22)).heap.size := by simp; omega
    have hcat : Hid (catI (fun j => if j = 0 then zs else [x, y]) 2 = zs ++ [x, y]) := Lib.hid (by simp [catI, List.range_succ])
    have HX := Lib.hid hx
    have HY := Lib.hid hy
    rw [← hx, ← hy]
    clear hx hy
    go_wp2_with fail
    refine (concatI_any (w1.heap.size + 1) 2 _ _ _ (by decide) hsz.out HC.out).mono ?_
    rintro e w2 ⟨v2, rfl, ho2, hb2⟩
    rw [hcat.out] at ho2
    have hbz := hb1.trans ((hbb.trans (hb2.mono hz2)).mono z1)
    go_wp2
    go_ret2
    exact ⟨_, rfl, by rw [wpL_yes hc, ← HX.out, ← HY.out]; exact (ho2.base (by omega)).iv, hbz⟩

set_option maxRecDepth 100000 in
set_option maxHeartbeats 1000000 in
theorem specSees_any (v : Value) (zs : List Int) (i k : Int) (w : World) (hr : Rd w v zs) :
    Calls Try.prog 27 #[v, .int .i64 i, .int .i64 k] w fun e w' => e = .returned (.tuple #[.bool (seeB zs i k && !hldB (swL zs i.toNat k.toNat)), .bool (seeB zs i k)]) ∧ Below w.heap.size w w' := by
  have hm := hr.max
  unfold maxLen at hm
  obtain ⟨a, cap, hv⟩ := hr.len
  have HR := Lib.hid hr
  clear hr
  subst hv
  cases h1 : hasB2 zs i with
  | false =>
    have hf : Hid (seeB zs i k = false) := Lib.hid (by simp [seeB, h1])
    go_enter Try.func27, Try.ntmps27
    go_wp2_with (first
      | (go_at_call 40; refine (ckHas_any _ zs _ _ HR.out).mono ?_; rintro e w' ⟨rfl, rfl⟩))
    go_ret2
    exact ⟨by rw [hf.out]; rfl, Below.refl _ _⟩
  | true =>
    obtain ⟨hw, i0, i1⟩ := hasB2_yes h1
    cases h2 : hasB2 zs k with
    | false =>
      have hf : Hid (seeB zs i k = false) := Lib.hid (by simp [seeB, h2])
      go_enter Try.func27, Try.ntmps27
      go_wp2_with (first
        | (go_at_call 40; refine (ckHas_any _ zs _ _ HR.out).mono ?_; rintro e w' ⟨rfl, rfl⟩))
      go_ret2
      exact ⟨by rw [hf.out]; rfl, Below.refl _ _⟩
    | true =>
      obtain ⟨-, k0, k1⟩ := hasB2_yes h2
      cases h3 : hldB zs with
      | false =>
        have hf : Hid (seeB zs i k = false) := Lib.hid (by simp [seeB, h3])
        go_enter Try.func27, Try.ntmps27
        go_wp2_with (first
          | (go_at_call 40; refine (ckHas_any _ zs _ _ HR.out).mono ?_; rintro e w' ⟨rfl, rfl⟩)
          | (go_at_call 42; refine (holds_s _ zs _ HR.out hw).mono ?_; rintro e w' ⟨rfl, rfl⟩))
        go_ret2
        exact ⟨by rw [hf.out]; rfl, Below.refl _ _⟩
      | true =>
        have hf : Hid (seeB zs i k = true) := Lib.hid (by simp [seeB, h1, h2, h3])
        obtain ⟨I, rfl⟩ : ∃ I : Nat, i = (I : Int) := ⟨i.toNat, by omega⟩
        obtain ⟨K, rfl⟩ : ∃ K : Nat, k = (K : Int) := ⟨k.toNat, by omega⟩
        have hI : I < zs.length := by omega
        have hK : K < zs.length := by omega
        have hlw := ckB_len hw
        have eI : ((I : Int)).toNat = I := by simp
        have eK : ((K : Int)).toNat = K := by simp
        rw [eI, eK]
        have hsw := Lib.hid (swL_word hw hI hK)
        obtain ⟨n, hn⟩ : ∃ n, n = zs.length := ⟨_, rfl⟩
        go_enter Try.func27, Try.ntmps27
        go_wp2_with (first
          | (go_at_call 40; refine (ckHas_any _ zs _ _ HR.out).mono ?_; rintro e w' ⟨rfl, rfl⟩)
          | (go_at_call 42; refine (holds_s _ zs _ HR.out hw).mono ?_; rintro e w' ⟨rfl, rfl⟩))
        refine (l1Own_any _ zs _ (by omega) HR.out).mono ?_
        rintro e w1 ⟨v1, rfl, ho1, hb1⟩
        obtain ⟨g, cp, hv1, hgB, hgs⟩ := ho1.nonnil (zs.length - 1) (by omega)
        have el : zs.length - 1 + 1 = n := by omega
        rw [el] at hv1
        subst hv1
        obtain ⟨cI, fI⟩ := ho1.spot hn I (by omega)
        obtain ⟨cK, fK⟩ := ho1.spot hn K (by omega)
        obtain ⟨p1, g1⟩ := ho1.put hn I (nth zs K)
        obtain ⟨p2, g2⟩ := p1.put (by rw [List.length_set]; exact hn) K (nth zs I)
        obtain ⟨cK1, fK1⟩ := p1.spot (by rw [List.length_set]; exact hn) K (by omega)
        obtain ⟨gz, oz, ea, hgz, qI⟩ := HR.out.at_ rfl I hI
        subst ea
        obtain ⟨gz', oz', ea, hgz', qK⟩ := HR.out.at_ rfl K hK
        simp only [Option.some.injEq, Addr.mk.injEq, and_true] at ea
        obtain ⟨rfl, rfl⟩ := ea
        have rI : w1.cell? ⟨gz, oz + I, none⟩ = some (.int .i64 (nth zs I)) := by rw [hb1.cell (p := ⟨gz, oz + I, none⟩) hgz]; exact qI
        have rK : w1.cell? ⟨gz, oz + K, none⟩ = some (.int .i64 (nth zs K)) := by rw [hb1.cell (p := ⟨gz, oz + K, none⟩) hgz]; exact qK
        have rI1 : (w1.setCell ⟨g, I, none⟩ (.int .i64 (nth zs K))).cell? ⟨gz, oz + I, none⟩ = some (.int .i64 (nth zs I)) := by rw [setc_far (by omega)]; exact rI
        have hbz := (hb1.grown g1 hb1.size (fun j hj => by cases hj; exact hgB)).grown g2 (by simp; omega) (fun j hj => by cases hj; exact hgB)
        have hrd := p2.rd
        obtain ⟨x, hx⟩ : ∃ x, x = nth zs I := ⟨_, rfl⟩
        obtain ⟨y, hy⟩ : ∃ y, y = nth zs K := ⟨_, rfl⟩
        have esw : (zs.set I (nth zs K)).set K (nth zs I) = swL zs I K := rfl
        rw [esw] at hrd
        rw [← hx, ← hy] at hrd hbz
        rw [← hy] at cK1 fK1
        rw [← hx] at cI
        rw [← hy] at cK
        rw [← hx] at rI rI1
        rw [← hy] at rK rI1
        have HRD := Lib.hid hrd
        have HBZ := Lib.hid hbz
        have HN := Lib.hid hn
        have hIn : I < n := by omega
        have hKn : K < n := by omega
        clear hx hy esw hrd hbz p1 p2 g1 g2 ho1 hb1 hn el
        go_wp2_with (go_at_call 42; refine (holds_s _ (swL zs I K) _ HRD.out hsw.out).mono ?_; rintro e w' ⟨rfl, rfl⟩)
        go_ret2
        exact ⟨by rw [hf.out]; rfl, HBZ.out⟩

set_option maxRecDepth 100000 in
set_option maxHeartbeats 1000000 in
theorem implSees_any (v : Value) (zs : List Int) (i k : Int) (w : World) (hr : Rd w v zs) :
    Calls Try.prog 28 #[v, .int .i64 i, .int .i64 k] w fun e w' => e = .returned (.tuple #[.bool (seeB zs i k && !hldB (swL zs i.toNat k.toNat)), .bool (seeB zs i k)]) ∧ Below w.heap.size w w' := by
  have hm := hr.max
  unfold maxLen at hm
  obtain ⟨a, cap, hv⟩ := hr.len
  have HR := Lib.hid hr
  clear hr
  subst hv
  cases hw : ckB 50 zs with
  | false =>
    have hf : Hid (seeB zs i k = false) := Lib.hid (by simp [seeB, hasB2, hw])
    go_enter Try.func28, Try.ntmps28
    go_wp2_with (first
      | (go_at_call 34; refine (isCheckedWord_any _ zs _ HR.out).mono ?_; rintro e w' ⟨rfl, rfl⟩))
    go_ret2
    exact ⟨by rw [hf.out]; rfl, Below.refl _ _⟩
  | true =>
    cases h1 : inB i 0 ((zs.length : Int) - 1) with
    | false =>
      have hf : Hid (seeB zs i k = false) := Lib.hid (by simp [seeB, hasB2, h1])
      go_enter Try.func28, Try.ntmps28
      go_wp2_with (first
        | (go_at_call 34; refine (isCheckedWord_any _ zs _ HR.out).mono ?_; rintro e w' ⟨rfl, rfl⟩)
        | (go_at_call 41; refine (isIndexOf_any _ zs _ _ HR.out).mono ?_; rintro e w' ⟨rfl, rfl⟩))
      go_ret2
      exact ⟨by rw [hf.out]; rfl, Below.refl _ _⟩
    | true =>
      have i0 := (inB_iff.1 h1).1
      have i1 := (inB_iff.1 h1).2
      cases h2 : inB k 0 ((zs.length : Int) - 1) with
      | false =>
        have hf : Hid (seeB zs i k = false) := Lib.hid (by simp [seeB, hasB2, h2])
        go_enter Try.func28, Try.ntmps28
        go_wp2_with (first
          | (go_at_call 34; refine (isCheckedWord_any _ zs _ HR.out).mono ?_; rintro e w' ⟨rfl, rfl⟩)
          | (go_at_call 41; refine (isIndexOf_any _ zs _ _ HR.out).mono ?_; rintro e w' ⟨rfl, rfl⟩))
        go_ret2
        exact ⟨by rw [hf.out]; rfl, Below.refl _ _⟩
      | true =>
        have k0 := (inB_iff.1 h2).1
        have k1 := (inB_iff.1 h2).2
        cases h3 : hldB zs with
        | false =>
          have hf : Hid (seeB zs i k = false) := Lib.hid (by simp [seeB, h3])
          go_enter Try.func28, Try.ntmps28
          go_wp2_with (first
            | (go_at_call 34; refine (isCheckedWord_any _ zs _ HR.out).mono ?_; rintro e w' ⟨rfl, rfl⟩)
            | (go_at_call 41; refine (isIndexOf_any _ zs _ _ HR.out).mono ?_; rintro e w' ⟨rfl, rfl⟩)
            | (go_at_call 43; refine (holds_i _ zs _ HR.out hw).mono ?_; rintro e w' ⟨rfl, rfl⟩))
          go_ret2
          exact ⟨by rw [hf.out]; rfl, Below.refl _ _⟩
        | true =>
          have hf : Hid (seeB zs i k = true) := Lib.hid (by simp [seeB, hasB2, hw, h1, h2, h3])
          obtain ⟨I, rfl⟩ : ∃ I : Nat, i = (I : Int) := ⟨i.toNat, by omega⟩
          obtain ⟨K, rfl⟩ : ∃ K : Nat, k = (K : Int) := ⟨k.toNat, by omega⟩
          have hI : I < zs.length := by omega
          have hK : K < zs.length := by omega
          have hlw := ckB_len hw
          have eI : ((I : Int)).toNat = I := by simp
          have eK : ((K : Int)).toNat = K := by simp
          rw [eI, eK]
          have hsw := Lib.hid (swL_word hw hI hK)
          obtain ⟨n, hn⟩ : ∃ n, n = zs.length := ⟨_, rfl⟩
          go_enter Try.func28, Try.ntmps28
          go_wp2_with (first
            | (go_at_call 34; refine (isCheckedWord_any _ zs _ HR.out).mono ?_; rintro e w' ⟨rfl, rfl⟩)
            | (go_at_call 41; refine (isIndexOf_any _ zs _ _ HR.out).mono ?_; rintro e w' ⟨rfl, rfl⟩)
            | (go_at_call 43; refine (holds_i _ zs _ HR.out hw).mono ?_; rintro e w' ⟨rfl, rfl⟩))
          refine (clone_any _ zs _ (by omega) HR.out).mono ?_
          rintro e w1 ⟨v1, rfl, ho1, hb1⟩
          obtain ⟨g, cp, hv1, hgB, hgs⟩ := ho1.nonnil (zs.length - 1) (by omega)
          have el : zs.length - 1 + 1 = n := by omega
          rw [el] at hv1
          subst hv1
          obtain ⟨cI, fI⟩ := ho1.spot hn I (by omega)
          obtain ⟨cK, fK⟩ := ho1.spot hn K (by omega)
          obtain ⟨p1, g1⟩ := ho1.put hn I (nth zs K)
          obtain ⟨p2, g2⟩ := p1.put (by rw [List.length_set]; exact hn) K (nth zs I)
          obtain ⟨cK1, fK1⟩ := p1.spot (by rw [List.length_set]; exact hn) K (by omega)
          have hbz := (hb1.grown g1 hb1.size (fun j hj => by cases hj; exact hgB)).grown g2 (by simp; omega) (fun j hj => by cases hj; exact hgB)
          have hrd := p2.rd
          obtain ⟨x, hx⟩ : ∃ x, x = nth zs I := ⟨_, rfl⟩
          obtain ⟨y, hy⟩ : ∃ y, y = nth zs K := ⟨_, rfl⟩
          have esw : (zs.set I (nth zs K)).set K (nth zs I) = swL zs I K := rfl
          rw [esw] at hrd
          rw [← hx, ← hy] at hrd hbz
          rw [← hy] at cK1 fK1
          rw [← hx] at cI
          rw [← hy] at cK
          have HRD := Lib.hid hrd
          have HBZ := Lib.hid hbz
          have HN := Lib.hid hn
          have hIn : I < n := by omega
          have hKn : K < n := by omega
          clear hx hy esw hrd hbz p1 p2 g1 g2 ho1 hb1 hn el
          go_wp2
          go_region
          all_goals
            go_wp2_with (go_at_call 43; refine (holds_i _ (swL zs I K) _ (HRD.out.later (Below.refl _ _).drew) hsw.out).mono ?_; rintro e w' ⟨rfl, rfl⟩)
            go_ret2
            exact ⟨by rw [hf.out]; rfl, HBZ.out.drew⟩

end Go.Proofs.Ytnkcmadjeofedaa
