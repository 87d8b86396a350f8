/- Chapter 4: the words of a code written; what is read of digits. Partly written by a generator of this claim's author. -/
import Derived.Test.YtgceaffcalkbgaaCo3
namespace Go.Proofs.Ytgceaffcalkbgaa
open Go.RowKit
set_option linter.unusedSimpArgs false
set_option linter.unusedVariables false

def catW (L : List (List Int)) (zs : List Int) (k : Nat) : List Int := (List.range k).flatMap fun i => rowAt L (nth zs i).toNat
theorem catW_succ (L : List (List Int)) (zs : List Int) (k : Nat) : catW L zs (k + 1) = catW L zs k ++ rowAt L (nth zs k).toNat := by simp [catW, List.range_succ]
def wrB (L : List (List Int)) (zs : List Int) : Bool := codB L && decide (zs.length ≤ 30) && allIn zs 0 ((L.length : Int) - 1)
def wrL (L : List (List Int)) (zs : List Int) : List Int := if wrB L zs then catW L zs zs.length else []
theorem wrL_yes {L : List (List Int)} {zs : List Int} (h : wrB L zs = true) : wrL L zs = catW L zs zs.length := by simp [wrL, h]
theorem wrL_no {L : List (List Int)} {zs : List Int} (h : wrB L zs = false) : wrL L zs = [] := by simp [wrL, h]
theorem catW_len {L : List (List Int)} {zs : List Int} (hc : codB L = true) (ha : allIn zs 0 ((L.length : Int) - 1) = true) (k : Nat) (hk : k ≤ zs.length) : (catW L zs k).length ≤ 6 * k := by
  induction k with
  | zero => simp [catW]
  | succ k ih =>
    have a := allIn_get ha k (by omega)
    have := (codB_word hc (i := (nth zs k).toNat) (by unfold nth; omega)).2.1
    rw [catW_succ, List.length_append]
    have := ih (by omega)
    omega
theorem wrL_len (L : List (List Int)) (zs : List Int) : (wrL L zs).length ≤ 180 := by
  cases h : wrB L zs with
  | false => rw [wrL_no h]; simp
  | true =>
    rw [wrL_yes h]
    simp only [wrB, Bool.and_eq_true, decide_eq_true_eq] at h
    have := catW_len h.1.1 h.2 zs.length (Nat.le_refl _)
    omega

set_option maxRecDepth 100000 in
set_option maxHeartbeats 1000000 in
theorem implWrite_any (v1 v2 : Value) (L : List (List Int)) (zs : List Int) (w : World) (h1 : RdJ w v1 L) (h2 : Rd w v2 zs) :
    Calls Try.prog 34 #[v1, v2] w fun e w' => ∃ v, e = .returned (.tuple #[v, .bool (wrB L zs)]) ∧ OwnI w' w.heap.size w'.heap.size v (wrL L zs) ∧ Below w.heap.size w w' := by
  have m1 := h1.max
  have m2 := h2.max
  unfold maxLen at m2
  obtain ⟨a1, c1, rfl, hlc⟩ := h1.len
  obtain ⟨a2, c2, rfl⟩ := h2.len
  have H1 := Lib.hid h1
  have H2 := Lib.hid h2
  clear h1 h2
  cases hc : codB L with
  | false =>
    have hf : Hid (wrB L zs = false) := Lib.hid (by simp [wrB, hc])
    go_enter Try.func34, Try.ntmps34
    go_wp2_with fail
    refine (isCode_any _ L _ H1.out).mono ?_
    rintro e w1 ⟨rfl, hb1⟩
    rw [hc]
    go_wp2
    go_ret2
    exact ⟨_, by rw [hf.out]; rfl, by rw [wrL_no hf.out]; exact (Own.nil _ _).iv, hb1⟩
  | true =>
    by_cases h30 : 30 < (zs.length : Int)
    · have hf : Hid (wrB L zs = false) := Lib.hid (by simp [wrB]; intro _ h; omega)
      go_enter Try.func34, Try.ntmps34
      go_wp2_with fail
      refine (isCode_any _ L _ H1.out).mono ?_
      rintro e w1 ⟨rfl, hb1⟩
      rw [hc]
      go_wp2
      go_ret2
      exact ⟨_, by rw [hf.out]; rfl, by rw [wrL_no hf.out]; exact (Own.nil _ _).iv, hb1⟩
    · have hc20 := codB_len hc
      cases ha : allIn zs 0 ((L.length : Int) - 1) with
      | false =>
        have hf : Hid (wrB L zs = false) := Lib.hid (by simp [wrB, ha])
        have HA := Lib.hid ha
        go_enter Try.func34, Try.ntmps34
        go_wp2_with fail
        refine (isCode_any _ L _ H1.out).mono ?_
        rintro e w1 ⟨rfl, hb1⟩
        rw [hc]
        go_wp2_with fail
        refine (areWithin_any _ zs _ _ _ (H2.out.later hb1)).mono ?_
        rintro e w2 ⟨rfl, rfl⟩
        rw [HA.out]
        go_wp2
        go_ret2
        exact ⟨_, by rw [hf.out]; rfl, by rw [wrL_no hf.out]; exact (Own.nil _ _).iv, hb1⟩
      | true =>
        have hf : Hid (wrB L zs = true) := Lib.hid (by simp [wrB, hc, ha]; omega)
        have HA := Lib.hid ha
        have HC := Lib.hid hc
        have hcat : Hid (∀ k, k ≤ zs.length → (catW L zs k).length ≤ 6 * k) := Lib.hid fun k hk => catW_len hc ha k hk
        obtain ⟨n, hn⟩ : ∃ n, n = zs.length := ⟨_, rfl⟩
        have HN := Lib.hid hn
        rw [← hn] at m2 h30 ⊢
        clear hn
        go_enter Try.func34, Try.ntmps34
        go_wp2_with fail
        refine (isCode_any _ L _ H1.out).mono ?_
        rintro e w1 ⟨rfl, hb1⟩
        rw [hc]
        go_wp2_with fail
        refine (areWithin_any _ zs _ _ _ (by have := H2.out.later hb1; rw [← HN.out] at this; exact this)).mono ?_
        rintro e w2 ⟨rfl, rfl⟩
        rw [HA.out]
        clear ha hc
        go_wp2
        go_loopw [6, 27] (fun u i wr => ∃ k : Nat, k ≤ n ∧ i = .int .i64 k ∧ Own wr w.heap.size u (catW L zs k) ∧ Below w.heap.size w wr) (fun u i wr => n - (intOf i).toNat)
        case atStart => exact ⟨0, Nat.zero_le _, rfl, Own.nil _ _, hb1⟩
        case round =>
          obtain ⟨k, hk, rfl, hown, hbl⟩ := hrel
          by_cases hlt : k < n
          · obtain ⟨g1, o1, e1, hg1, p1⟩ := (H2.out.below hbl (Nat.le_refl _)).at_ rfl k (by rw [← HN.out]; exact hlt)
            subst e1
            have hx := allIn_get HA.out k (by rw [← HN.out]; exact hlt)
            obtain ⟨m, hm⟩ := Int.eq_ofNat_of_zero_le hx.1
            rw [hm] at p1 hx
            have hml : m < L.length := by omega
            obtain ⟨g, off, u, e2, hg, hc0, hru⟩ := (H1.out.below hbl (Nat.le_refl _)).at_ rfl m hml
            subst e2
            have hcs : Hid (catW L zs (k + 1) = catW L zs k ++ rowAt L m) := Lib.hid (by rw [catW_succ]; unfold nth; rw [hm]; rfl)
            have hl6 := (codB_word HC.out hml).2.1
            have hck := hcat.out k (by rw [← HN.out]; omega)
            have hbd : (catW L zs k).length + (rowAt L m).length ≤ 1099511627776 := by omega
            have hsz := hbl.size
            have HRU := Lib.hid hru.rd
            have HBD := Lib.hid hbd
            clear hru hm hbd hck
            go_wp2_with (at_builtin; refine append_ints rfl _ _ rfl w.heap.size _ (catW L zs k) (rowAt L m) _ rfl rfl hown HRU.out HBD.out hsz ?_; intro v' w2 hown2 hgrow2)
            go_roundw
            case rel => exact ⟨k + 1, by omega, by go_num, by rw [hcs.out]; exact hown2, hbl.grown hgrow2 hsz (fun j hj => (hown.lt j hj).1)⟩
            case measure => simp [intOf]; omega
          · have : k = n := by omega
            subst this
            go_wp2
            go_ret2
            exact ⟨_, by rw [hf.out]; rfl, by rw [wrL_yes hf.out, ← HN.out]; exact hown.iv, hbl⟩

set_option maxRecDepth 100000 in
set_option maxHeartbeats 1000000 in
theorem specWrite_any (v1 v2 : Value) (L : List (List Int)) (zs : List Int) (w : World) (h1 : RdJ w v1 L) (h2 : Rd w v2 zs) :
    Calls Try.prog 35 #[v1, v2] w fun e w' => ∃ v, e = .returned (.tuple #[v, .bool (wrB L zs)]) ∧ OwnI w' w.heap.size w'.heap.size v (wrL L zs) ∧ Below w.heap.size w w' := by
  have m1 := h1.max
  have m2 := h2.max
  unfold maxLen at m2
  obtain ⟨a1, c1, rfl, hlc⟩ := h1.len
  obtain ⟨a2, c2, rfl⟩ := h2.len
  have H1 := Lib.hid h1
  have H2 := Lib.hid h2
  clear h1 h2
  cases hc : codB L with
  | false =>
    have hf : Hid (wrB L zs = false) := Lib.hid (by simp [wrB, hc])
    go_enter Try.func35, Try.ntmps35
    go_wp2_with fail
    refine (cmCode_any _ L _ H1.out).mono ?_
    rintro e w1 ⟨rfl, hb1⟩
    rw [hc]
    go_wp2
    go_ret2
    exact ⟨_, by rw [hf.out]; rfl, by rw [wrL_no hf.out]; exact (Own.nil _ _).iv, hb1⟩
  | true =>
    by_cases h30 : 30 < (zs.length : Int)
    · have hf : Hid (wrB L zs = false) := Lib.hid (by simp [wrB]; intro _ h; omega)
      go_enter Try.func35, Try.ntmps35
      go_wp2_with fail
      refine (cmCode_any _ L _ H1.out).mono ?_
      rintro e w1 ⟨rfl, hb1⟩
      rw [hc]
      go_wp2
      go_ret2
      exact ⟨_, by rw [hf.out]; rfl, by rw [wrL_no hf.out]; exact (Own.nil _ _).iv, hb1⟩
    · have hc20 := codB_len hc
      cases ha : allIn zs 0 ((L.length : Int) - 1) with
      | false =>
        have hf : Hid (wrB L zs = false) := Lib.hid (by simp [wrB, ha])
        have HA := Lib.hid ha
        go_enter Try.func35, Try.ntmps35
        go_wp2_with fail
        refine (cmCode_any _ L _ H1.out).mono ?_
        rintro e w1 ⟨rfl, hb1⟩
        rw [hc]
        go_wp2_with fail
        refine (l1All_any _ zs _ _ _ (H2.out.later hb1)).mono ?_
        rintro e w2 ⟨rfl, rfl⟩
        rw [HA.out]
        go_wp2
        go_ret2
        exact ⟨_, by rw [hf.out]; rfl, by rw [wrL_no hf.out]; exact (Own.nil _ _).iv, hb1⟩
      | true =>
        have hf : Hid (wrB L zs = true) := Lib.hid (by simp [wrB, hc, ha]; omega)
        have HA := Lib.hid ha
        have HC := Lib.hid hc
        have hcat : Hid (∀ k, k ≤ zs.length → (catW L zs k).length ≤ 6 * k) := Lib.hid fun k hk => catW_len hc ha k hk
        obtain ⟨n, hn⟩ : ∃ n, n = zs.length := ⟨_, rfl⟩
        have HN := Lib.hid hn
        rw [← hn] at m2 h30 ⊢
        clear hn
        go_enter Try.func35, Try.ntmps35
        go_wp2_with fail
        refine (cmCode_any _ L _ H1.out).mono ?_
        rintro e w1 ⟨rfl, hb1⟩
        rw [hc]
        go_wp2_with fail
        refine (l1All_any _ zs _ _ _ (by have := H2.out.later hb1; rw [← HN.out] at this; exact this)).mono ?_
        rintro e w2 ⟨rfl, rfl⟩
        rw [HA.out]
        clear ha hc
        go_wp2
        go_loopw [6, 27] (fun u i wr => ∃ k : Nat, k ≤ n ∧ i = .int .i64 k ∧ Own wr w.heap.size u (catW L zs k) ∧ Below w.heap.size w wr) (fun u i wr => n - (intOf i).toNat)
        case atStart => exact ⟨0, Nat.zero_le _, rfl, Own.nil _ _, hb1⟩
        case round =>
          obtain ⟨k, hk, rfl, hown, hbl⟩ := hrel
          by_cases hlt : k < n
          · obtain ⟨g1, o1, e1, hg1, p1⟩ := (H2.out.below hbl (Nat.le_refl _)).at_ rfl k (by rw [← HN.out]; exact hlt)
            subst e1
            have hx := allIn_get HA.out k (by rw [← HN.out]; exact hlt)
            obtain ⟨m, hm⟩ := Int.eq_ofNat_of_zero_le hx.1
            rw [hm] at p1 hx
            have hml : m < L.length := by omega
            obtain ⟨g, off, u, e2, hg, hc0, hru⟩ := (H1.out.below hbl (Nat.le_refl _)).at_ rfl m hml
            subst e2
            have hcs : Hid (catW L zs (k + 1) = catW L zs k ++ rowAt L m) := Lib.hid (by rw [catW_succ]; unfold nth; rw [hm]; rfl)
            have hl6 := (codB_word HC.out hml).2.1
            have hck := hcat.out k (by rw [← HN.out]; omega)
            have hbd : (catW L zs k).length + (rowAt L m).length ≤ 1099511627776 := by omega
            have hsz := hbl.size
            have HRU := Lib.hid hru.rd
            have HBD := Lib.hid hbd
            clear hru hm hbd hck
            go_wp2_with (at_builtin; refine append_ints rfl _ _ rfl w.heap.size _ (catW L zs k) (rowAt L m) _ rfl rfl hown HRU.out HBD.out hsz ?_; intro v' w2 hown2 hgrow2)
            go_roundw
            case rel => exact ⟨k + 1, by omega, by go_num, by rw [hcs.out]; exact hown2, hbl.grown hgrow2 hsz (fun j hj => (hown.lt j hj).1)⟩
            case measure => simp [intOf]; omega
          · have : k = n := by omega
            subst this
            go_wp2
            go_ret2
            exact ⟨_, by rw [hf.out]; rfl, by rw [wrL_yes hf.out, ← HN.out]; exact hown.iv, hbl⟩

/-! ### Words read -/
/-- The word that stands ahead. -/
def fwI (L : List (List Int)) (ds : List Int) : Option Nat := (List.range L.length).find? fun i => begsB (rowAt L i) ds
def fwZ (L : List (List Int)) (ds : List Int) : Int := match fwI L ds with | some i => i | none => -1
theorem fwI_some {L : List (List Int)} {ds : List Int} {i : Nat} (h : fwI L ds = some i) : i < L.length ∧ begsB (rowAt L i) ds = true := by
  have h1 := List.find?_some h
  have h2 := List.mem_of_find?_eq_some h
  simp at h1 h2
  exact ⟨h2, h1⟩
theorem fwI_none {L : List (List Int)} {ds : List Int} (h : fwI L ds = none) : ∀ i, i < L.length → begsB (rowAt L i) ds = false := by
  intro i hi
  have := List.find?_eq_none.1 h i (by simpa using hi)
  simpa using this
theorem fwZ_some {L : List (List Int)} {ds : List Int} {i : Nat} (h : fwI L ds = some i) : fwZ L ds = i := by simp [fwZ, h]
theorem fwZ_none {L : List (List Int)} {ds : List Int} (h : fwI L ds = none) : fwZ L ds = -1 := by simp [fwZ, h]
theorem fwZ_first {L : List (List Int)} {ds : List Int} {i : Nat} (hi : i < L.length) (h : begsB (rowAt L i) ds = true) (hm : ∀ j, j < i → begsB (rowAt L j) ds = false) : fwZ L ds = i := by
  cases hf : fwI L ds with
  | none => rw [fwI_none hf i hi] at h; cases h
  | some j =>
    rw [fwZ_some hf]
    unfold fwI at hf
    rw [List.find?_range_eq_some] at hf
    obtain ⟨h1, h2, h3⟩ := hf
    rcases Nat.lt_trichotomy i j with e | e | e
    · have := h3 i e; rw [h] at this; cases this
    · rw [e]
    · have := hm j e; rw [h1] at this; cases this
theorem fwZ_nowhere {L : List (List Int)} {ds : List Int} (h : ∀ i, i < L.length → begsB (rowAt L i) ds = false) : fwZ L ds = -1 := by
  cases hf : fwI L ds with
  | none => exact fwZ_none hf
  | some j => have := fwI_some hf; rw [h j this.1] at this; cases this.2
def lastTo (L : List (List Int)) (ds : List Int) : Nat → Int
  | 0 => -1
  | j + 1 => if begsB (rowAt L j) ds then j else lastTo L ds j
theorem lastTo_all {L : List (List Int)} {ds : List Int} (hc : codB L = true) : lastTo L ds L.length = fwZ L ds := by
  cases hf : fwI L ds with
  | none =>
    rw [fwZ_none hf]
    have hn := fwI_none hf
    have : ∀ n, n ≤ L.length → lastTo L ds n = -1 := by
      intro n hn'
      induction n with
      | zero => rfl
      | succ n ih => rw [lastTo, hn n (by omega), if_neg (by simp)]; exact ih (by omega)
    exact this _ (Nat.le_refl _)
  | some i =>
    rw [fwZ_some hf]
    obtain ⟨h1, h2⟩ := fwI_some hf
    have : ∀ n, n ≤ L.length → lastTo L ds n = if i < n then (i : Int) else -1 := by
      intro n hn'
      induction n with
      | zero => rfl
      | succ n ih =>
        rw [lastTo]
        by_cases hb : begsB (rowAt L n) ds = true
        · have := codB_uniq hc h1 (by omega : n < L.length) h2 hb
          subst this
          rw [if_pos hb, if_pos (by omega)]
        · rw [if_neg hb, ih (by omega)]
          have : i ≠ n := fun e => hb (by rw [← e]; exact h2)
          by_cases hin : i < n
          · rw [if_pos hin, if_pos (by omega)]
          · rw [if_neg hin, if_neg (by omega)]
    rw [this _ (Nat.le_refl _), if_pos h1]
def readF (L : List (List Int)) : Nat → List Int → Option (List Int)
  | 0, ds => if ds = [] then some [] else none
  | f + 1, ds => if ds = [] then some [] else match fwI L ds with | none => none | some i => (readF L f (ds.drop (rowAt L i).length)).map fun l => (i : Int) :: l
def readW (L : List (List Int)) (ds : List Int) : Option (List Int) := readF L ds.length ds
theorem readF_nil (L : List (List Int)) (f : Nat) : readF L f [] = some [] := by cases f <;> simp [readF]
theorem readF_more {L : List (List Int)} (hc : codB L = true) : ∀ (m f : Nat) (ds : List Int), ds.length ≤ m → ds.length ≤ f → readF L f ds = readF L m ds := by
  intro m
  induction m with
  | zero => intro f ds h _; have : ds = [] := List.eq_nil_of_length_eq_zero (by omega)
            rw [this, readF_nil, readF_nil]
  | succ m ih =>
    intro f ds h h'
    cases hds : ds with
    | nil => rw [readF_nil, readF_nil]
    | cons d ds' =>
      rw [hds] at h h'
      simp only [List.length_cons] at h h'
      obtain ⟨f', rfl⟩ : ∃ f', f = f' + 1 := ⟨f - 1, by omega⟩
      rw [readF, readF]
      simp only [List.cons_ne_nil, if_false]
      cases hf : fwI L (d :: ds') with
      | none => rfl
      | some i =>
        have hlen := (codB_word hc (fwI_some hf).1).1
        have hd : ((d :: ds').drop (rowAt L i).length).length ≤ ds'.length := by simp; omega
        simp only []
        rw [ih f' _ (by omega) (by omega)]
theorem readW_nil (L : List (List Int)) : readW L [] = some [] := readF_nil _ _
theorem readW_some {L : List (List Int)} (hc : codB L = true) {ds : List Int} (h0 : 0 < ds.length) {i : Nat} (hf : fwI L ds = some i) : readW L ds = (readW L (ds.drop (rowAt L i).length)).map fun l => (i : Int) :: l := by
  obtain ⟨m, hm⟩ : ∃ m, ds.length = m + 1 := ⟨ds.length - 1, by omega⟩
  have hlen := (codB_word hc (fwI_some hf).1).1
  unfold readW
  rw [hm, readF, if_neg (fun e => by rw [e] at h0; simp at h0), hf]
  simp only []
  rw [readF_more hc (ds.drop (rowAt L i).length).length m _ (Nat.le_refl _) (by simp; omega)]
theorem readW_none {L : List (List Int)} {ds : List Int} (h0 : 0 < ds.length) (hf : fwI L ds = none) : readW L ds = none := by
  obtain ⟨m, hm⟩ : ∃ m, ds.length = m + 1 := ⟨ds.length - 1, by omega⟩
  unfold readW
  rw [hm, readF, if_neg (fun e => by rw [e] at h0; simp at h0), hf]
/-- What is read of the rest is read behind acc. -/
def Rdg (L : List (List Int)) (ds acc rest : List Int) : Prop := readW L ds = (readW L rest).map fun l => acc ++ l
theorem Rdg.start (L : List (List Int)) (ds : List Int) : Rdg L ds [] ds := by simp [Rdg]
theorem Rdg.step {L : List (List Int)} {ds acc rest : List Int} (h : Rdg L ds acc rest) (hc : codB L = true) (h0 : 0 < rest.length) {i : Nat} (hf : fwI L rest = some i) : Rdg L ds (acc ++ [(i : Int)]) (rest.drop (rowAt L i).length) := by
  unfold Rdg at *
  rw [h, readW_some hc h0 hf]
  cases readW L (rest.drop (rowAt L i).length) <;> simp
theorem Rdg.fail {L : List (List Int)} {ds acc rest : List Int} (h : Rdg L ds acc rest) (h0 : 0 < rest.length) (hf : fwI L rest = none) : readW L ds = none := by
  rw [h, readW_none h0 hf]; rfl
theorem Rdg.end_ {L : List (List Int)} {ds acc rest : List Int} (h : Rdg L ds acc rest) (h0 : rest.length = 0) : readW L ds = some acc := by
  obtain rfl := List.eq_nil_of_length_eq_zero h0
  rw [h, readW_nil]; simp
theorem readF_len {L : List (List Int)} (hc : codB L = true) : ∀ (f : Nat) (ds l : List Int), readF L f ds = some l → l.length ≤ ds.length := by
  intro f
  induction f with
  | zero =>
    intro ds l h
    simp only [readF] at h
    split at h
    · simp at h; subst h; simp
    · cases h
  | succ f ih =>
    intro ds l h
    simp only [readF] at h
    split at h
    · simp at h; subst h; simp
    · next hne =>
      cases hf : fwI L ds with
      | none => rw [hf] at h; cases h
      | some i =>
        rw [hf] at h
        simp only [Option.map_eq_some_iff] at h
        obtain ⟨l', h1, rfl⟩ := h
        have := ih _ _ h1
        have hlen := (codB_word hc (fwI_some hf).1).1
        have : 0 < ds.length := List.length_pos_iff.2 hne
        simp at *
        omega
def rdB (L : List (List Int)) (ds : List Int) : Bool := codB L && decide (ds.length ≤ 180) && allIn ds 0 59 && (readW L ds).isSome
def rdL (L : List (List Int)) (ds : List Int) : List Int := if rdB L ds then (readW L ds).getD [] else []
theorem rdL_no {L : List (List Int)} {ds : List Int} (h : rdB L ds = false) : rdL L ds = [] := by simp [rdL, h]
theorem rdL_yes {L : List (List Int)} {ds l : List Int} (h : rdB L ds = true) (hl : readW L ds = some l) : rdL L ds = l := by simp [rdL, h, hl]
theorem rdB_yes {L : List (List Int)} {ds l : List Int} (hc : codB L = true) (h1 : ds.length ≤ 180) (h2 : allIn ds 0 59 = true) (hl : readW L ds = some l) : rdB L ds = true := by simp [rdB, hc, h1, h2, hl]
theorem rdB_none {L : List (List Int)} {ds : List Int} (hl : readW L ds = none) : rdB L ds = false := by simp [rdB, hl]
theorem rdL_len (L : List (List Int)) (ds : List Int) : (rdL L ds).length ≤ 180 := by
  cases h : rdB L ds with
  | false => rw [rdL_no h]; simp
  | true =>
    have h' := h
    simp only [rdB, Bool.and_eq_true, decide_eq_true_eq] at h'
    obtain ⟨l, hl⟩ := Option.isSome_iff_exists.1 h'.2
    rw [rdL_yes h hl]
    have := readF_len h'.1.1.1 _ _ _ hl
    omega
end Go.Proofs.Ytgceaffcalkbgaa
