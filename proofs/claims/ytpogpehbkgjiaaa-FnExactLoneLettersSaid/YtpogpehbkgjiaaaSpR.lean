/- Chapter 3: the least lengths over letters; the reference's table. -/
import Derived.Test.YtpogpehbkgjiaaaSpO
import Derived.Test.YtpogpehbkgjiaaaSp7
namespace Go.Proofs.Ytpogpehbkgjiaaa
open Go.RowKit
set_option linter.unusedSimpArgs false
set_option linter.unusedVariables false

/-! ### The least one, and the first of them -/
def costJ (ps : List Ph) (r : Nat → Rst) (en : Nat → Nat) (j : Nat) : Int := (phAt ps j).sig.length + (r (en j)).len
def FoldMin (ps : List Ph) (fits : Nat → Bool) (en : Nat → Nat) (r : Nat → Rst) (k : Nat) (acc : Rst) : Prop :=
  (acc = noRst ∧ ∀ j, j < k → (fits j && (r (en j)).ex) = false) ∨
  (acc.ex = true ∧ acc.ph < k ∧ (fits acc.ph && (r (en acc.ph)).ex) = true ∧ acc.nx = en acc.ph ∧ acc.len = costJ ps r en acc.ph ∧
    (∀ j, j < k → (fits j && (r (en j)).ex) = true → acc.len ≤ costJ ps r en j) ∧ ∀ j, j < acc.ph → (fits j && (r (en j)).ex) = true → acc.len < costJ ps r en j)
theorem fold_min {ps : List Ph} {fits : Nat → Bool} {en : Nat → Nat} {r : Nat → Rst} :
    ∀ k, (∀ j, j < k → fits j = true → (r (en j)).ex = true → wrap64 (costJ ps r en j) = costJ ps r en j) → FoldMin ps fits en r k (foldR ps r (stepsOf fits en k))
  | 0, _ => .inl ⟨rfl, fun j hj => by omega⟩
  | k + 1, h => by
    have ih := fold_min (ps := ps) k fun j hj => h j (by omega)
    have hkeep : (fits k && (r (en k)).ex) = false → foldR ps r (stepsOf fits en (k + 1)) = foldR ps r (stepsOf fits en k) := by
      intro hno
      cases hf : fits k with
      | false => rw [stepsOf_no hf]
      | true =>
        rw [hf, Bool.true_and] at hno
        rw [stepsOf_yes hf, foldR_snoc]
        unfold stepR
        rw [if_neg (by simp [hno])]
    cases hg : (fits k && (r (en k)).ex) with
    | false =>
      rw [hkeep hg]
      rcases ih with ⟨h1, h2⟩ | ⟨h1, h2, h3, h4, h5, h6, h7⟩
      · refine .inl ⟨h1, fun j hj => ?_⟩
        by_cases e : j = k
        · subst e; exact hg
        · exact h2 j (by omega)
      · refine .inr ⟨h1, by omega, h3, h4, h5, fun j hj hj2 => ?_, h7⟩
        by_cases e : j = k
        · subst e; rw [hg] at hj2; cases hj2
        · exact h6 j (by omega) hj2
    | true =>
      have hg' := hg
      simp only [Bool.and_eq_true] at hg
      have hw := h k (by omega) hg.1 hg.2
      have hw' : wrap64 (((phAt ps k).sig.length : Int) + (r (en k)).len) = costJ ps r en k := hw
      rw [stepsOf_yes hg.1, foldR_snoc]
      rcases ih with ⟨h1, h2⟩ | ⟨h1, h2, h3, h4, h5, h6, h7⟩
      · have hs : stepR ps r (foldR ps r (stepsOf fits en k)) (k, en k) = ⟨true, costJ ps r en k, k, en k⟩ := by
          unfold stepR; rw [if_pos ⟨hg.2, .inl (by rw [h1]; rfl)⟩]; simp only [hw']
        rw [hs]
        refine .inr ⟨rfl, by simp, hg', rfl, rfl, fun j hj hj2 => ?_, fun j hj hj2 => ?_⟩
        · by_cases e : j = k
          · subst e; exact Int.le_refl _
          · rw [h2 j (by omega)] at hj2; cases hj2
        · rw [h2 j hj] at hj2; cases hj2
      · by_cases hc : costJ ps r en k < (foldR ps r (stepsOf fits en k)).len
        · have hs : stepR ps r (foldR ps r (stepsOf fits en k)) (k, en k) = ⟨true, costJ ps r en k, k, en k⟩ := by
            unfold stepR; rw [if_pos ⟨hg.2, .inr (by simp only [hw']; exact hc)⟩]; simp only [hw']
          rw [hs]
          refine .inr ⟨rfl, by simp, hg', rfl, rfl, fun j hj hj2 => ?_, fun j hj hj2 => ?_⟩
          · by_cases e : j = k
            · subst e; exact Int.le_refl _
            · have := h6 j (by omega) hj2; show costJ ps r en k ≤ _; omega
          · have := h6 j hj hj2; show costJ ps r en k < _; omega
        · have hs : stepR ps r (foldR ps r (stepsOf fits en k)) (k, en k) = foldR ps r (stepsOf fits en k) := by
            unfold stepR
            rw [if_neg]
            simp only [hw', h1]
            simp
            intro _; omega
          rw [hs]
          refine .inr ⟨h1, by omega, h3, h4, h5, fun j hj hj2 => ?_, h7⟩
          by_cases e : j = k
          · subst e; omega
          · exact h6 j (by omega) hj2
/-- Lengths are small. -/
def SmallR (n : Nat) (r : Nat → Rst) : Prop := ∀ a, a ≤ n → (r a).ex = true → 0 ≤ (r a).len ∧ (r a).len ≤ 3 * ((n - a : Nat) : Int)
theorem fold_small {ps : List Ph} {n a : Nat} {fits : Nat → Bool} {en : Nat → Nat} {r : Nat → Rst} (hb : bookB ps = true) (hn : n ≤ 60) (k : Nat) (hk : k ≤ ps.length)
    (h : ∀ j, j < k → fits j = true → a < en j ∧ en j ≤ n ∧ ((r (en j)).ex = true → 0 ≤ (r (en j)).len ∧ (r (en j)).len ≤ 3 * ((n - en j : Nat) : Int))) :
    FoldMin ps fits en r k (foldR ps r (stepsOf fits en k)) ∧ ((foldR ps r (stepsOf fits en k)).ex = true → 0 ≤ (foldR ps r (stepsOf fits en k)).len ∧ (foldR ps r (stepsOf fits en k)).len ≤ 3 * ((n - a : Nat) : Int)) := by
  have hm := fold_min (ps := ps) (fits := fits) (en := en) (r := r) k fun j hj hf hx => by
    obtain ⟨h1, h2, h3⟩ := h j hj hf
    have h4 := h3 hx
    have h5 := book_sig hb (i := j) (by omega)
    exact IntWalk.wrap64_in _ (by unfold costJ; omega)
  refine ⟨hm, fun hx => ?_⟩
  rcases hm with ⟨h1, -⟩ | ⟨h1, h2, h3, h4, h5, -⟩
  · rw [h1] at hx; cases hx
  · simp only [Bool.and_eq_true] at h3
    obtain ⟨h6, h7, h8⟩ := h _ h2 h3.1
    have h9 := h8 h3.2
    have h10 := book_sig hb (i := (foldR ps r (stepsOf fits en k)).ph) (by omega)
    rw [h5]
    unfold costJ
    omega
theorem tx_small {ps : List Ph} {sel : Nat → Bool} {s : ByteArray} {r : Nat → Rst} (hb : bookB ps = true) (hs : s.size ≤ 60) (hR : Rests ps s.size (txSt ps sel s) r) :
    ∀ (d a : Nat), s.size - a ≤ d → a ≤ s.size → (r a).ex = true → 0 ≤ (r a).len ∧ (r a).len ≤ 3 * ((s.size - a : Nat) : Int)
  | 0, a, hd, ha, _ => by
    obtain rfl : a = s.size := by omega
    rw [hR.1]; simp [endRst]
  | d + 1, a, hd, ha, hx => by
    by_cases e : a = s.size
    · subst e; rw [hR.1]; simp [endRst]
    · have hlt : a < s.size := by omega
      rw [hR.2 a hlt] at hx ⊢
      refine (fold_small hb hs ps.length (Nat.le_refl _) fun j hj hf => ?_).2 hx
      simp only [Bool.and_eq_true] at hf
      have h1 := (fitT_le hf.2).1
      have h2 := book_tx hb hj
      exact ⟨by omega, h1, fun hx => tx_small hb hs hR d _ (by omega) h1 hx⟩
theorem tx_fold {ps : List Ph} {sel : Nat → Bool} {s : ByteArray} {r : Nat → Rst} (hb : bookB ps = true) (hs : s.size ≤ 60) (hR : Rests ps s.size (txSt ps sel s) r) {a : Nat} (ha : a < s.size) (k : Nat) (hk : k ≤ ps.length) :
    FoldMin ps (fun i => sel i && fitT (phAt ps i).txt s a) (fun i => a + (phAt ps i).txt.size) r k (foldR ps r (stepsOf (fun i => sel i && fitT (phAt ps i).txt s a) (fun i => a + (phAt ps i).txt.size) k)) ∧
      ((foldR ps r (stepsOf (fun i => sel i && fitT (phAt ps i).txt s a) (fun i => a + (phAt ps i).txt.size) k)).ex = true → 0 ≤ (foldR ps r (stepsOf (fun i => sel i && fitT (phAt ps i).txt s a) (fun i => a + (phAt ps i).txt.size) k)).len) := by
  have h := fold_small (a := a) (r := r) hb hs k hk (fits := fun i => sel i && fitT (phAt ps i).txt s a) (en := fun i => a + (phAt ps i).txt.size) fun j hj hf => by
    simp only [Bool.and_eq_true] at hf
    have h1 := (fitT_le hf.2).1
    have h2 := book_tx hb (i := j) (by omega)
    exact ⟨by omega, h1, fun hx => tx_small hb hs hR s.size _ (by omega) h1 hx⟩
  exact ⟨h.1, fun hx => (h.2 hx).1⟩
/-- What the table holds. -/
def tv (r : Rst) : Int := if r.ex = true then r.len else -1
theorem tv_no {r : Rst} (h : r.ex = false) : tv r = -1 := by simp [tv, h]
theorem tv_yes {r : Rst} (h : r.ex = true) : tv r = r.len := by simp [tv, h]

set_option maxRecDepth 100000 in
set_option maxHeartbeats 2000000 in
theorem spTable_any (v : Value) (ps : List Ph) (s : ByteArray) (r : Nat → Rst) (w : World) (hb : bookB ps = true) (hs : s.size ≤ 40) (hr : RdPs w v ps) (hR : Rests ps s.size (txSt ps allS s) r) :
    Calls Try.prog 60 #[.agg #[v], .string s] w fun e w' => ∃ g, e = .returned (.slice (some ⟨g, 0, none⟩) (s.size + 1) (s.size + 1)) ∧ RowF w' w.heap.size 3 1 (.slice (some ⟨g, 0, none⟩) (s.size + 1) (s.size + 1)) (s.size + 1) (fun j => .int .i64 (tv (r j))) ∧ Below w.heap.size w w' := by
  obtain ⟨i0, hi, hz0, hz1, hz2⟩ := info_parts Try_info_int
  obtain ⟨a, cap, rfl, -⟩ := hr.len
  have hp40 := (bookB_len hb).2
  obtain ⟨np, hnp⟩ : ∃ np, np = ps.length := ⟨_, rfl⟩
  have HNP := Lib.hid hnp
  have HB := Lib.hid hb
  have HF := Lib.hid hR
  have HSM := Lib.hid (tx_small hb (by omega) hR s.size)
  have hb0 := (Below.refl w.heap.size w).alloc (Nat.le_refl _) (.cells #[.slice a ps.length cap] 31)
  have HR := Lib.hid (hr.later hb0)
  have hx0 : (w.alloc (.cells #[.slice a ps.length cap] 31)).cell? ⟨w.heap.size, 0, none⟩ = some (.slice a ps.length cap) := by simp [go_sem]
  have hsz0 : w.heap.size < (w.alloc (.cells #[.slice a ps.length cap] 31)).heap.size := by simp
  rw [← hnp] at hb0 hx0 hsz0 HR hp40 ⊢
  clear hnp hb hr hR
  obtain ⟨m, hm⟩ : ∃ m, m = s.size + 1 := ⟨_, rfl⟩
  have HM := Lib.hid hm
  have hm2 : (s.size : Int) < (m : Int) := by omega
  have hm3 : s.size < m := by omega
  have hm4 : m ≤ 41 := by omega
  have hw1 : IntKind.i64.wrap ((s.size : Int) + 1) = (m : Int) := by rw [hm]; exact IntWalk.i64_in _ (by omega)
  obtain ⟨z0, hz0'⟩ : ∃ z0 : Int, z0 = (s.size : Int) - 1 := ⟨_, rfl⟩
  have HZ := Lib.hid hz0'
  have hw2 : IntKind.i64.wrap ((s.size : Int) - 1) = z0 := by rw [hz0']; exact IntWalk.i64_in _ (by omega)
  rw [← hm]
  clear hm hz0'
  go_enter Try.func60, Try.ntmps60
  go_wp2_with (generalize w.alloc (.cells #[.slice a np cap] 31) = W at *; refine wpList_make_full _ rfl _ _ 26 rfl W.heap.size 3 i0 (.int .i64 0) 1 Try.underlying26 hi hz0 hz1 .i64 .i64 _ _ m rfl rfl rfl rfl (by rw [hz2]; omega) (by unfold maxLen; omega) (Nat.le_refl _) ?_; intro w1 hown1 hgrow1; have ho0 := made_row hown1 hgrow1; obtain ⟨ho0, hb1⟩ := ho0; have hs0 := ho0.lt.2; clear hown1 hgrow1)
  have HS0 : Hid (RowF w1 W.heap.size 3 1 (.slice (some ⟨W.heap.size, 0, none⟩) m m) m (fun j => .int .i64 (if s.size ≤ j then tv (r j) else 0))) := Lib.hid (ho0.congr fun j hj => by
    have hj' : j < s.size + 1 := by have := HM.out; omega
    by_cases e : s.size ≤ j
    · have e2 : j = s.size := by omega
      rw [if_pos e, e2, HF.out.1]; rfl
    · rw [if_neg e])
  clear ho0
  go_loopw [6] (fun i wr => ∃ (k : Nat) (z : Int), k ≤ s.size ∧ i = .int .i64 z ∧ Hid (z = (k : Int) - 1) ∧ RowF wr W.heap.size 3 1 (.slice (some ⟨W.heap.size, 0, none⟩) m m) m (fun j => .int .i64 (if k ≤ j then tv (r j) else 0)) ∧ Below W.heap.size W wr ∧ W.heap.size < wr.heap.size) (fun i _ => (intOf i + 1).toNat)
  case atStart => exact ⟨s.size, _, Nat.le_refl _, rfl, HZ, HS0.out, hb1, hs0⟩
  case round =>
    obtain ⟨k, z, hk, rfl, hz, hrow, hbl, hsz⟩ := hrel
    rcases Nat.eq_zero_or_pos k with rfl | hpos
    · obtain rfl : z = -1 := by have := hz.out; omega
      go_wp2
      go_ret
      refine ⟨_, rfl, ?_, hb0.trans (hbl.mono hb0.size)⟩
      have h := hrow.congr (G := fun j => .int .i64 (tv (r j))) fun j hj => by rw [if_pos (Nat.zero_le _)]
      exact row_base h hb0.size
    · obtain ⟨at_, rfl⟩ : ∃ at_ : Nat, z = (at_ : Int) := ⟨k - 1, by have := hz.out; omega⟩
      have ha1 : at_ < s.size := by have := hz.out; omega
      have HK : Hid (k = at_ + 1) := Lib.hid (by have := hz.out; omega)
      have hca0 := hrow.at_ at_ (by omega)
      have hfa0 := hrow.frozen at_
      have HR2 : Hid (RowF (wr.setCell ⟨W.heap.size, at_, none⟩ (.int .i64 (-1))) W.heap.size 3 1 (.slice (some ⟨W.heap.size, 0, none⟩) m m) m (fun j => .int .i64 (if at_ < j then tv (r j) else if j = at_ then tv (foldR ps r (txTo ps s at_ 0)) else 0))) := Lib.hid ((hrow.put at_ (.int .i64 (-1))).1.congr fun j hj => by
        have := HK.out
        show (if j = at_ then _ else _) = _
        by_cases h1 : at_ < j
        · rw [if_pos h1, if_neg (by omega), if_pos (by omega)]
        · rw [if_neg h1]
          by_cases h2 : j = at_
          · rw [if_pos h2, if_pos h2]; rfl
          · rw [if_neg h2, if_neg h2, if_neg (by omega)])
      have hxw : (wr.setCell ⟨W.heap.size, at_, none⟩ (.int .i64 (-1))).cell? ⟨w.heap.size, 0, none⟩ = some (.slice a np cap) := by
        rw [(hbl.setCell (p := ⟨W.heap.size, at_, none⟩) (Nat.le_refl _) (.int .i64 (-1))).cell (p := ⟨w.heap.size, 0, none⟩) hsz0]; exact hx0
      have ha2 : (at_ : Int) < (s.size : Int) := by omega
      have ha3 : (at_ : Int) < (m : Int) := by omega
      have hat1 : at_ ≤ s.size := by omega
      have hat2 : (at_ : Int) ≤ (s.size : Int) := by omega
      have hwa : IntKind.i64.wrap ((at_ : Int) - 1) = (at_ : Int) - 1 := IntWalk.i64_in _ (by omega)
      have hbl2 := hbl.setCell (p := ⟨W.heap.size, at_, none⟩) (Nat.le_refl _) (.int .i64 (-1))
      have hsz2 : W.heap.size < (wr.setCell ⟨W.heap.size, at_, none⟩ (.int .i64 (-1))).heap.size := by simpa using hsz
      clear hrow hk hpos hz
      go_wp2_with fail
      generalize wr.setCell ⟨W.heap.size, at_, none⟩ (.int .i64 (-1)) = WL at *
      clear hca0 hfa0 hbl hsz
      go_loopw [27] (fun i wr => ∃ q : Nat, q ≤ np ∧ i = .int .i64 q ∧ RowF wr W.heap.size 3 1 (.slice (some ⟨W.heap.size, 0, none⟩) m m) m (fun j => .int .i64 (if at_ < j then tv (r j) else if j = at_ then tv (foldR ps r (txTo ps s at_ q)) else 0)) ∧ Below W.heap.size W wr ∧ W.heap.size < wr.heap.size) (fun i _ => np - (intOf i).toNat)
      case atStart => exact ⟨0, Nat.zero_le _, rfl, HR2.out, hbl2, hsz2⟩
      case round =>
        obtain ⟨q, hq, rfl, hrow, hblq, hszq⟩ := hrel
        by_cases hlt : q < np
        · obtain ⟨g, off, us, hag, hg, hts, hd0, hd1, hru⟩ := (HR.out.below hblq (Nat.le_refl _)).at_ HNP.out q hlt
          subst hag
          obtain ⟨ua, uc, rfl⟩ := hru.rd.len
          obtain ⟨T, hT⟩ : ∃ T, T = (phAt ps q).txt := ⟨_, rfl⟩
          obtain ⟨sl, hsl⟩ : ∃ sl, sl = (phAt ps q).sig.length := ⟨_, rfl⟩
          have HT := Lib.hid hT
          have HSL := Lib.hid hsl
          obtain ⟨ht1, ht2⟩ := book_tx HB.out (i := q) (by rw [← HNP.out]; exact hlt)
          obtain ⟨hs1, hs3⟩ := book_sig HB.out (i := q) (by rw [← HNP.out]; exact hlt)
          rw [← hT] at hd0 hts ht1 ht2
          rw [← hsl] at hd1 hs1 hs3
          have hbA := (Below.refl wr.heap.size wr).alloc (Nat.le_refl _) (.cells #[.string T, .slice ua sl uc] 65)
          have hrA := hrow.later hbA
          have hblA := hblq.trans (hbA.mono hblq.size)
          have hx1 : (wr.alloc (.cells #[.string T, .slice ua sl uc] 65)).cell? ⟨wr.heap.size, 0, none⟩ = some (.string T) := by simp [go_sem]
          have hx2 : (wr.alloc (.cells #[.string T, .slice ua sl uc] 65)).cell? ⟨wr.heap.size, 1, none⟩ = some (.slice ua sl uc) := by simp [go_sem]
          have hszA : W.heap.size < (wr.alloc (.cells #[.string T, .slice ua sl uc] 65)).heap.size := by simp; omega
          have hszB : wr.heap.size < (wr.alloc (.cells #[.string T, .slice ua sl uc] 65)).heap.size := by simp
          obtain ⟨acc, hacc⟩ : ∃ acc, acc = foldR ps r (txTo ps s at_ q) := ⟨_, rfl⟩
          have HAA := Lib.hid hacc
          have HACC : Hid (acc.ex = true → 0 ≤ acc.len) := Lib.hid (by rw [hacc]; exact (tx_fold HB.out (by omega) HF.out ha1 q (by rw [← HNP.out]; exact hq)).2)
          clear hru hrow hblq hT hsl hacc
          cases hfit : fitT T s at_ with
          | false =>
            have HST : Hid (txTo ps s at_ (q + 1) = txTo ps s at_ q) := Lib.hid (txTo_no (by rw [← HT.out]; exact hfit))
            go_wp2
            generalize wr.alloc (.cells #[.string T, .slice ua sl uc] 65) = WX at *
            generalize wr.heap.size = BX at *
            go_quiet ((go_at_call 61; exact Calls.quiet_of_same (spBegins_is s T at_ false _ hat1 hfit (by unfold maxLen; omega) hts)))
            go_wp2
            go_roundw
            case rel => exact ⟨q + 1, by omega, by go_num, by rw [HST.out]; exact hrA.later (below_drewN (Below.refl _ _) _), below_drewN hblA _, by simpa using hszA⟩
            case measure => simp [intOf]; omega
          | true =>
            have hle := (fitT_le hfit).1
            have HST : Hid (txTo ps s at_ (q + 1) = txTo ps s at_ q ++ [(q, at_ + T.size)]) := Lib.hid (by rw [txTo_yes (by rw [← HT.out]; exact hfit), ← HT.out])
            obtain ⟨en, hen⟩ : ∃ en, en = at_ + T.size := ⟨_, rfl⟩
            have HEN := Lib.hid hen
            have he1 : at_ < en := by omega
            have he2 : (en : Int) < (m : Int) := by have := HM.out; omega
            have he4 : en < m := by have := HM.out; omega
            have hwe : IntKind.i64.wrap ((at_ : Int) + (T.size : Int)) = (en : Int) := by rw [hen]; exact IntWalk.i64_in _ (by omega)
            rw [← hen] at HST
            have hce := hrA.at_ en (by omega)
            rw [if_pos he1] at hce
            have hca := hrA.at_ at_ (by omega)
            rw [if_neg (by omega), if_pos rfl, ← HAA.out] at hca
            obtain ⟨te, hte⟩ : ∃ te, te = tv (r en) := ⟨_, rfl⟩
            obtain ⟨ta, hta⟩ : ∃ ta, ta = tv acc := ⟨_, rfl⟩
            have HTE := Lib.hid hte
            have HTA := Lib.hid hta
            rw [← hte] at hce
            rw [← hta] at hca
            clear hen hte hta
            have HENX : Hid (((r en).ex = true ∧ 0 ≤ te ∧ te ≤ 300 ∧ te = (r en).len) ∨ ((r en).ex = false ∧ te < 0)) := Lib.hid (by
              cases hx : (r en).ex with
              | false => right; exact ⟨rfl, by rw [HTE.out, tv_no hx]; decide⟩
              | true =>
                left
                have h := HSM.out en (by omega) (by have := HM.out; omega) hx
                have e := HTE.out
                rw [tv_yes hx] at e
                exact ⟨rfl, by omega, by omega, e⟩)
            by_cases hneg : te < 0
            · have HEX : Hid ((r en).ex = false) := Lib.hid (by rcases HENX.out with h | h; exact absurd h.2.1 (by omega); exact h.1)
              have HSAME : Hid (foldR ps r (txTo ps s at_ (q + 1)) = foldR ps r (txTo ps s at_ q)) := Lib.hid (by
                rw [HST.out, foldR_snoc]; unfold stepR; rw [if_neg]; simp [HEX.out])
              go_wp2
              generalize wr.alloc (.cells #[.string T, .slice ua sl uc] 65) = WX at *
              generalize wr.heap.size = BX at *
              go_quiet ((go_at_call 61; exact Calls.quiet_of_same (spBegins_is s T at_ true _ hat1 hfit (by unfold maxLen; omega) hts)))
              go_wp2
              go_roundw
              case rel => exact ⟨q + 1, by omega, by go_num, by rw [HSAME.out]; exact hrA.later (below_drewN (Below.refl _ _) _), below_drewN hblA _, by simpa using hszA⟩
              case measure => simp [intOf]; omega
            · have HEX : Hid ((r en).ex = true ∧ te = (r en).len ∧ te ≤ 300) := Lib.hid (by rcases HENX.out with h | h; exact ⟨h.1, h.2.2.2, h.2.2.1⟩; exact absurd h.2 hneg)
              obtain ⟨nw, hnw⟩ : ∃ nw : Int, nw = (sl : Int) + te := ⟨_, rfl⟩
              have HNW := Lib.hid hnw
              have hwn : IntKind.i64.wrap ((sl : Int) + te) = nw := by rw [hnw]; exact IntWalk.i64_in _ (by have := HEX.out.2.2; omega)
              have HNWP : Hid (0 ≤ nw) := Lib.hid (by omega)
              have HSTEP : Hid (foldR ps r (txTo ps s at_ (q + 1)) = if acc.ex = false ∨ nw < acc.len then ⟨true, nw, q, en⟩ else acc) := Lib.hid (by
                rw [HST.out, foldR_snoc, ← HAA.out]
                unfold stepR
                have e : wrap64 (((phAt ps q).sig.length : Int) + (r en).len) = nw := by
                  rw [← HSL.out, ← HEX.out.2.1, HNW.out]; exact IntWalk.wrap64_in _ (by have := HEX.out.2.2; omega)
                simp only [e, HEX.out.1, true_and])
              have HTAX : Hid ((acc.ex = false ∧ ta < 0) ∨ (acc.ex = true ∧ 0 ≤ ta ∧ ta = acc.len)) := Lib.hid (by
                cases hx : acc.ex with
                | false => left; exact ⟨rfl, by rw [HTA.out, tv_no hx]; decide⟩
                | true => right; have := HACC.out hx; have e := HTA.out; rw [tv_yes hx] at e; exact ⟨rfl, by omega, e⟩)
              clear hnw
              go_wp2
              generalize wr.alloc (.cells #[.string T, .slice ua sl uc] 65) = WX at *
              generalize wr.heap.size = BX at *
              go_quiet ((go_at_call 61; exact Calls.quiet_of_same (spBegins_is s T at_ true _ hat1 hfit (by unfold maxLen; omega) hts)))
              have hbD := below_drewN (Below.refl WX.heap.size WX) nq
              have hrD := hrA.later hbD
              have hcD : (WX.drewN nq).cell? ⟨BX, 0, none⟩ = some (.string T) := by rw [hbD.cell (p := ⟨BX, 0, none⟩) hszB]; exact hx1
              have hcD2 : (WX.drewN nq).cell? ⟨BX, 1, none⟩ = some (.slice ua sl uc) := by rw [hbD.cell (p := ⟨BX, 1, none⟩) hszB]; exact hx2
              have hceD : (WX.drewN nq).cell? ⟨W.heap.size, en, none⟩ = some (.int .i64 te) := by rw [hbD.cell (p := ⟨W.heap.size, en, none⟩) hszA]; exact hce
              have hblD := hblA.trans (hbD.mono hblA.size)
              have hszD : W.heap.size < (WX.drewN nq).heap.size := by simpa using hszA
              clear hx1 hx2 hrA hce hca
              go_wp2_with fail
              generalize WX.drewN nq = WY at *
              go_quiet (fail)
              rename Nat => nr
              have hbE := below_drewN (Below.refl WY.heap.size WY) nr
              have hrE := hrD.later hbE
              have hblE := hblD.trans (hbE.mono hblD.size)
              have hszE : W.heap.size < (WY.drewN nr).heap.size := by simpa using hszD
              clear hrD hcD hcD2 hceD
              generalize WY.drewN nr = WZ at *
              have hcaE := hrE.at_ at_ (by omega)
              have hfaE := hrE.frozen at_
              rw [if_neg (by omega), if_pos rfl, ← HAA.out, ← HTA.out] at hcaE
              have HTAKE : Hid ((acc.ex = false ∨ nw < acc.len) → RowF (WZ.setCell ⟨W.heap.size, at_, none⟩ (.int .i64 nw)) W.heap.size 3 1 (.slice (some ⟨W.heap.size, 0, none⟩) m m) m (fun j => .int .i64 (if at_ < j then tv (r j) else if j = at_ then tv (foldR ps r (txTo ps s at_ (q + 1))) else 0))) := Lib.hid fun h => (hrE.put at_ (.int .i64 nw)).1.congr fun j hj => by
                rw [HSTEP.out, if_pos h]
                show (if j = at_ then _ else _) = _
                by_cases e : j = at_
                · rw [if_pos e, if_neg (by omega), if_pos e]; rfl
                · rw [if_neg e]
                  by_cases h1 : at_ < j
                  · rw [if_pos h1, if_pos h1]
                  · rw [if_neg h1, if_neg h1, if_neg e, if_neg e]
              have HSKIP : Hid (¬ (acc.ex = false ∨ nw < acc.len) → RowF WZ W.heap.size 3 1 (.slice (some ⟨W.heap.size, 0, none⟩) m m) m (fun j => .int .i64 (if at_ < j then tv (r j) else if j = at_ then tv (foldR ps r (txTo ps s at_ (q + 1))) else 0))) := Lib.hid fun h => by
                rw [HSTEP.out, if_neg h, HAA.out]; exact hrE
              clear hrE
              by_cases hta0 : ta < 0
              · have HYES : Hid (acc.ex = false ∨ nw < acc.len) := Lib.hid (by rcases HTAX.out with h | h; exact .inl h.1; exact absurd hta0 (by omega))
                go_wp2
                go_roundw
                case rel => exact ⟨q + 1, by omega, by go_num, HTAKE.out HYES.out, hblE.setCell (p := ⟨W.heap.size, at_, none⟩) (Nat.le_refl _) _, by simpa using hszE⟩
                case measure => simp [intOf]; omega
              · have HLEN : Hid (acc.ex = true ∧ ta = acc.len) := Lib.hid (by rcases HTAX.out with h | h; exact absurd h.2 hta0; exact ⟨h.1, h.2.2⟩)
                by_cases hlt2 : nw < ta
                · have HYES : Hid (acc.ex = false ∨ nw < acc.len) := Lib.hid (.inr (by rw [← HLEN.out.2]; exact hlt2))
                  go_wp2
                  go_roundw
                  case rel => exact ⟨q + 1, by omega, by go_num, HTAKE.out HYES.out, hblE.setCell (p := ⟨W.heap.size, at_, none⟩) (Nat.le_refl _) _, by simpa using hszE⟩
                  case measure => simp [intOf]; omega
                · have HNO : Hid (¬ (acc.ex = false ∨ nw < acc.len)) := Lib.hid (by rw [← HLEN.out.2, HLEN.out.1]; simp; omega)
                  go_wp2
                  go_roundw
                  case rel => exact ⟨q + 1, by omega, by go_num, HSKIP.out HNO.out, hblE, hszE⟩
                  case measure => simp [intOf]; omega
        · have : q = np := by omega
          subst this
          have HR3 : Hid (RowF wr W.heap.size 3 1 (.slice (some ⟨W.heap.size, 0, none⟩) m m) m (fun j => .int .i64 (if at_ ≤ j then tv (r j) else 0))) := Lib.hid (hrow.congr fun j hj => by
            by_cases h1 : at_ < j
            · rw [if_pos h1, if_pos (by omega)]
            · rw [if_neg h1]
              by_cases h2 : j = at_
              · subst h2
                have := HF.out.2 j ha1
                rw [if_pos rfl, if_pos (Nat.le_refl _), this, HNP.out]; rfl
              · rw [if_neg h2, if_neg (by omega)])
          clear hrow
          go_wp2
          go_roundw
          case rel => exact ⟨at_, (at_ : Int) - 1, by omega, rfl, Lib.hid rfl, HR3.out, hblq, hszq⟩
          case measure => simp [intOf]
end Go.Proofs.Ytpogpehbkgjiaaa
