/- Chapter 3: phrases found by their texts in a map. -/
import Derived.Test.YtpogpehbkgjiaaaSp3
import Derived.Test.YtpogpehbkgjiaaaBkQ
import Derived.Maps.OwnSet
namespace Go.Proofs.Ytpogpehbkgjiaaa
open Go.RowKit Go.ChangeMaps
open Go.Maps (Keyed string_keyed)
set_option linter.unusedSimpArgs false
set_option linter.unusedVariables false

theorem Try_law : Keyed Try.prog 9 := string_keyed Try.underlying9
theorem Try_zeroE (w : World) : (zeroValue 3).run Try.prog w = .ok (.int .i64 0) w := by kernel_rfl
theorem run_makeMap_hint (n : Int) (w : World) : (Instr.makeMap 58 (some (.int .i64 n))).run Try.prog w = .ok (.map (some w.heap.size)) (w.alloc (.map #[] 0)) := by
  simp [Instr.makeMap, run_underlying Try.underlying58, asInt, asIntOf, Result.andThen]

/-- The phrase with a text, among those that sel names. -/
def lookI (ps : List Ph) (sel : Nat → Bool) (x : List UInt8) : Option Nat := (List.range ps.length).find? fun i => sel i && decide ((phAt ps i).txt.data.toList = x)
theorem lookI_some {ps : List Ph} {sel : Nat → Bool} {x : List UInt8} {i : Nat} (h : lookI ps sel x = some i) : i < ps.length ∧ sel i = true ∧ (phAt ps i).txt.data.toList = x := by
  have h1 := List.find?_some h
  have h2 := List.mem_of_find?_eq_some h
  simp at h1 h2
  exact ⟨h2, h1.1, h1.2⟩
theorem lookI_none {ps : List Ph} {sel : Nat → Bool} {x : List UInt8} (h : lookI ps sel x = none) : ∀ i, i < ps.length → sel i = true → (phAt ps i).txt.data.toList ≠ x := by
  intro i hi hs e
  have := List.find?_eq_none.1 h i (by simpa using hi)
  simp [hs, e] at this
def DistTx (ps : List Ph) : Prop := ∀ i j, i < ps.length → j < ps.length → (phAt ps i).txt.data.toList = (phAt ps j).txt.data.toList → i = j
theorem lookI_of {ps : List Ph} {sel : Nat → Bool} {x : List UInt8} {i : Nat} (hd : DistTx ps) (hi : i < ps.length) (hs : sel i = true) (hx : (phAt ps i).txt.data.toList = x) : lookI ps sel x = some i := by
  cases h : lookI ps sel x with
  | none => exact absurd hx (lookI_none h i hi hs)
  | some j =>
    obtain ⟨h1, h2, h3⟩ := lookI_some h
    rw [hd j i h1 hi (h3.trans hx.symm)]
theorem lookI_congr {ps : List Ph} {sel sel' : Nat → Bool} {x : List UInt8} (h : ∀ i, i < ps.length → (phAt ps i).txt.data.toList = x → sel i = sel' i) : lookI ps sel x = lookI ps sel' x := by
  unfold lookI
  have hh : ∀ l : List Nat, (∀ i ∈ l, i < ps.length) → l.find? (fun i => sel i && decide ((phAt ps i).txt.data.toList = x)) = l.find? (fun i => sel' i && decide ((phAt ps i).txt.data.toList = x)) := by
    intro l hl
    induction l with
    | nil => rfl
    | cons i l ih =>
      have e : (sel i && decide ((phAt ps i).txt.data.toList = x)) = (sel' i && decide ((phAt ps i).txt.data.toList = x)) := by
        by_cases hx : (phAt ps i).txt.data.toList = x
        · rw [h i (hl i (by simp)) hx]
        · simp [hx]
      simp only [List.find?_cons, e, ih (fun j hj => hl j (by simp [hj]))]
  exact hh _ (fun i hi => by simpa using hi)
theorem book_dist {ps : List Ph} (hb : bookB ps = true) : DistTx ps := by
  intro i j hi hj h
  have hin := bookB_incr hb
  have he : (phAt ps i).txt = (phAt ps j).txt := bytes_ext h
  rcases Nat.lt_trichotomy i j with e | e | e
  · have := hin.mono e hj; rw [he, lessB_irrefl] at this; cases this
  · exact e
  · have := hin.mono e hi; rw [he, lessB_irrefl] at this; cases this

/-- The datum D finds just the phrases that sel names, by their texts. -/
def TxtMap (ps : List Ph) (sel : Nat → Bool) (D : DataW Unit) : Prop :=
  ∀ x, Maps.has D (.string x) = (lookI ps sel x).isSome ∧ ∀ i, lookI ps sel x = some i → D.atKey (.string x) (.lit (.int .i64 0)) = .lit (.int .i64 i)
theorem TxtMap.congr {ps : List Ph} {sel sel' : Nat → Bool} {D : DataW Unit} (h : TxtMap ps sel D) (hs : ∀ i, i < ps.length → sel i = sel' i) : TxtMap ps sel' D := by
  intro x
  rw [← lookI_congr (sel := sel) fun i hi _ => hs i hi]
  exact h x
theorem TxtMap.empty (ps : List Ph) : TxtMap ps (fun i => decide (i < 0)) (.map []) := by
  intro x
  have h : lookI ps (fun i => decide (i < 0)) x = none := by
    unfold lookI
    rw [List.find?_eq_none]
    intro i hi
    simp
  rw [h]
  exact ⟨rfl, fun i hi => by cases hi⟩
theorem str_key (x : List UInt8) : WideAt.IsKeyLit (.string x) := by simp [WideAt.IsKeyLit]
theorem TxtMap.step {ps : List Ph} {k : Nat} {D : DataW Unit} (h : TxtMap ps (fun i => decide (i < k)) D) (hd : DistTx ps) (hk : k < ps.length) (hD : Maps.IsMap D) :
    TxtMap ps (fun i => decide (i < k + 1)) (D.put (.string (phAt ps k).txt.data.toList) (.lit (.int .i64 k))) := by
  intro x
  by_cases e : (phAt ps k).txt.data.toList = x
  · have hl : lookI ps (fun i => decide (i < k + 1)) x = some k := lookI_of hd hk (by simp) e
    rw [hl, ← e]
    exact ⟨Maps.has_put_same hD (str_key _) _, fun i hi => by cases hi; exact Maps.atKey_put_same hD (str_key _) _ _⟩
  · have hl : lookI ps (fun i => decide (i < k + 1)) x = lookI ps (fun i => decide (i < k)) x := lookI_congr fun i hi hx => by
      have : i ≠ k := fun h => e (by rw [← h]; exact hx)
      simp; omega
    have hne : (Lit.string x) ≠ .string (phAt ps k).txt.data.toList := fun h => e (by injection h with h; exact h.symm)
    rw [hl, Maps.has_put_other hne]
    refine ⟨(h x).1, fun i hi => ?_⟩
    rw [Maps.atKey_put_other hne]
    exact (h x).2 i hi
/-- Block b is a map that finds the phrases that sel names by their texts. -/
def MapRd (w : World) (b : Nat) (ps : List Ph) (sel : Nat → Bool) : Prop := ∃ D n, n ≤ 40 ∧ w.ownsMap Try.prog 9 (plainElem Try.prog 3) b n D ∧ TxtMap ps sel D
theorem ownsMap_below {w w' : World} {C b n : Nat} {D : DataW Unit} (h : w.ownsMap Try.prog 9 (plainElem Try.prog 3) b n D) (hb : Below C w w') (hC : b < C) : w'.ownsMap Try.prog 9 (plainElem Try.prog 3) b n D := by
  obtain ⟨es, clock, h1, h2⟩ := h
  exact ⟨es, clock, by rw [hb.block b hC]; exact h1, h2⟩
theorem MapRd.lt {w : World} {b : Nat} {ps : List Ph} {sel : Nat → Bool} (h : MapRd w b ps sel) : b < w.heap.size := by
  obtain ⟨D, n, h1, h2, h3⟩ := h; exact h2.lt
theorem MapRd.below {w w' : World} {C b : Nat} {ps : List Ph} {sel : Nat → Bool} (h : MapRd w b ps sel) (hb : Below C w w') (hC : b < C) : MapRd w' b ps sel := by
  obtain ⟨D, n, h1, h2, h3⟩ := h
  exact ⟨D, n, h1, ownsMap_below h2 hb hC, h3⟩
theorem MapRd.later {w w' : World} {b : Nat} {ps : List Ph} {sel : Nat → Bool} (h : MapRd w b ps sel) (hb : Below w.heap.size w w') : MapRd w' b ps sel := h.below hb h.lt

theorem lookup_yes {w : World} {ops : Array Oper} {rest : List Oper} {o : Oper} {a : Act} {Q : Exit → Act → World → Prop} (hg : o.guard = none) (m x : Operand) (hop : o.op = Op.lookup 58 m x true)
    (b : Nat) (ps : List Ph) (sel : Nat → Bool) (hm : a.eval m = .map (some b)) (hmap : MapRd w b ps sel) (key : ByteArray) (hx : a.eval x = .string key) (hk : key.size ≤ maxLen) (i : Nat) (hl : lookI ps sel key.data.toList = some i)
    (hK : wpList Try.prog ops Q rest (a.put o.dst (.tuple #[.int .i64 i, .bool true])) w) : wpList Try.prog ops Q (o :: rest) a w := by
  obtain ⟨D, n, -, hown, ht⟩ := hmap
  refine wpList_lookup_own_ok_int w hg m x _ hop 9 3 .i64 Try_law Try.underlying58 Try.underlying3 (Try_zeroE _) b n D hm hown _ _ hx (Go.WideMaps.keyOf_string_mk Try.underlying9 hk) ?_
  intro c hc _
  have h1 := (ht key.data.toList).1
  have h2 := (ht key.data.toList).2 i hl
  rw [hl] at h1
  rw [h2] at hc
  have hci : c = i := by injection hc with hc; injection hc with _ hc; exact hc.symm
  rw [h1, hci]
  exact hK
theorem lookup_no {w : World} {ops : Array Oper} {rest : List Oper} {o : Oper} {a : Act} {Q : Exit → Act → World → Prop} (hg : o.guard = none) (m x : Operand) (hop : o.op = Op.lookup 58 m x true)
    (b : Nat) (ps : List Ph) (sel : Nat → Bool) (hm : a.eval m = .map (some b)) (hmap : MapRd w b ps sel) (key : ByteArray) (hx : a.eval x = .string key) (hk : key.size ≤ maxLen) (hl : lookI ps sel key.data.toList = none)
    (hK : wpList Try.prog ops Q rest (a.put o.dst (.tuple #[.int .i64 0, .bool false])) w) : wpList Try.prog ops Q (o :: rest) a w := by
  obtain ⟨D, n, -, hown, ht⟩ := hmap
  refine wpList_lookup_own_ok_int w hg m x _ hop 9 3 .i64 Try_law Try.underlying58 Try.underlying3 (Try_zeroE _) b n D hm hown _ _ hx (Go.WideMaps.keyOf_string_mk Try.underlying9 hk) ?_
  intro c hc _
  have h1 := (ht key.data.toList).1
  rw [hl] at h1
  rw [Maps.atKey_of_not_has h1] at hc
  have hci : c = 0 := by injection hc with hc; injection hc with _ hc; exact hc.symm
  rw [h1, hci]
  exact hK

set_option maxRecDepth 100000 in
set_option maxHeartbeats 1000000 in
theorem phrasesByText_any (v : Value) (ps : List Ph) (w : World) (hb : bookB ps = true) (hr : RdPs w v ps) :
    Calls Try.prog 55 #[.agg #[v]] w fun e w' => ∃ b, e = .returned (.map (some b)) ∧ MapRd w' b ps (fun _ => true) ∧ w.heap.size ≤ b ∧ Below w.heap.size w w' := by
  obtain ⟨a, cap, rfl, -⟩ := hr.len
  have hp40 := (bookB_len hb).2
  obtain ⟨np, hnp⟩ : ∃ np, np = ps.length := ⟨_, rfl⟩
  have HNP := Lib.hid hnp
  have HD := Lib.hid (book_dist hb)
  have hb0 := (Below.refl w.heap.size w).alloc (Nat.le_refl _) (.cells #[.slice a ps.length cap] 31)
  have HR := Lib.hid (hr.later hb0)
  have hx0 : (w.alloc (.cells #[.slice a ps.length cap] 31)).cell? ⟨w.heap.size, 0, none⟩ = some (.slice a ps.length cap) := by simp [go_sem]
  rw [← hnp] at hb0 hx0 HR hp40 ⊢
  have HWS : Hid ((w.alloc (.cells #[.slice a np cap] 31)).heap.size = w.heap.size + 1) := Lib.hid (by simp)
  have hmm := run_makeMap_hint
  clear hnp hb hr
  go_enter Try.func55, Try.ntmps55
  go_wp2
  generalize w.alloc (.cells #[.slice a np cap] 31) = W at *
  go_loopw [13] (fun i wr => ∃ k : Nat, k ≤ np ∧ i = .int .i64 k ∧ (∃ D, wr.ownsMap Try.prog 9 (plainElem Try.prog 3) (w.heap.size + 1) k D ∧ TxtMap ps (fun i => decide (i < k)) D) ∧ Below W.heap.size W wr) (fun i _ => np - (intOf i).toNat)
  case atStart => exact ⟨0, Nat.zero_le _, rfl, ⟨_, by rw [← HWS.out]; exact World.ownsMap_made _ _ _ _, TxtMap.empty ps⟩, (Below.refl _ _).alloc (Nat.le_refl _) _⟩
  case round =>
    obtain ⟨k, hk, rfl, ⟨D, hown, htm⟩, hbl⟩ := hrel
    by_cases hlt : k < np
    · obtain ⟨g, off, us, hag, hg, hts, hd0, hd1, hru⟩ := (HR.out.below hbl (Nat.le_refl _)).at_ HNP.out k hlt
      subst hag
      obtain ⟨ua, uc, rfl⟩ := hru.rd.len
      have hkey : keyOf Try.prog 9 (.string (phAt ps k).txt) = some (.string (phAt ps k).txt.data.toList) := Go.WideMaps.keyOf_string_mk Try.underlying9 hts
      have HST := Lib.hid (htm.step HD.out (by rw [← HNP.out]; exact hlt) hown.isMap)
      have hbA := hbl.alloc hbl.size (.cells #[.string (phAt ps k).txt, .slice ua (phAt ps k).sig.length uc] 65)
      have HWL : Hid (W.heap.size ≤ w.heap.size + 1) := Lib.hid (by have := HWS.out; omega)
      generalize (phAt ps k).txt = T at *
      go_wp2_with (at_mapUpdate; refine wpList_mapUpdate_own _ rfl _ _ _ 58 rfl 9 3 Try_law Try.underlying58 _ (w.heap.size + 1) k D rfl (hown.alloc _) (by unfold maxLen; omega) _ _ _ rfl rfl hkey _ [] (plainElem_int Try.underlying3 (WalkArith.wf_i64 (by omega))) ?_; intro w2 hown2 hgrow2)
      go_roundw
      case rel => exact ⟨k + 1, by omega, by go_num, ⟨_, hown2, HST.out⟩, hbA.grown hgrow2 hbA.size (fun j hj => by cases hj; exact HWL.out)⟩
      case measure => simp [intOf]; omega
    · obtain rfl : k = np := by omega
      go_wp2
      go_ret
      exact ⟨_, rfl, ⟨D, k, hp40, hown, htm.congr fun i hi => by rw [← HNP.out] at hi; simpa using hi⟩, by omega, hb0.trans (hbl.mono hb0.size)⟩
end Go.Proofs.Ytpogpehbkgjiaaa
